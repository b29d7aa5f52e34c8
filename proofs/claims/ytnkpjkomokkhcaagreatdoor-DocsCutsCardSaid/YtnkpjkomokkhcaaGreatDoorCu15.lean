/- Whole numbers and parts as arguments, opened. -/
import Derived.Test.YtnkpjkomokkhcaaGreatDoorDqB
import Derived.Test.YtnkpjkomokkhcaaGreatDoorGlD
import Derived.Test.YtnkpjkomokkhcaaGreatDoorGlB
namespace Go.Proofs.YtnkpjkomokkhcaaGreatDoor
open Go Go.Eng Go.ChangeShapes Go.WideShapes Go.ChangeAt Go.ChangeMaps Go.RowKit Go.Lib
set_option maxRecDepth 100000
section
variable {H : Type} {enc : TypeId × Value → H} {W : World} {sp : Nat → Bool} {held : Bool}
theorem ints_open {fuel : Nat} {cs : List Value} {d : DataW H} {p : List MemPlace} (h : DataW.trod enc Tryz.prog W 0 sp held fuel 23 cs = some (d, p)) :
    ∃ (l : List Int) (v : Value), cs = [v] ∧ IntsAt W v l := by
  rcases Go.Deep.open_slice Tryz.underlying23 h with ⟨rfl, _⟩ | ⟨a, len, cap, m, n, D, Pl, rfl, _, hl, hm, hmm, hx, hel⟩
  · exact ⟨[], _, rfl, ⟨none, 0, rfl, by simp, by simp, fun h => absurd h (by simp)⟩⟩
  · have hlm : len ≤ m := by rw [hmm]; split <;> omega
    have c3 : Tryz.prog.cellsOf 3 = 1 := by kernel_rfl
    rw [c3] at hel
    have each : ∀ i : Fin len, ∃ z : Int, ∃ cs', W.cells? 0 (a.add (i.1 * 1)) 1 = some cs' ∧ cs' = [.int .i64 z] := fun i => by
      obtain ⟨cs', h1, h2⟩ := hel i.1 (by have := i.2; omega)
      obtain ⟨z, c0, _, _⟩ := DataW.trod_int Tryz.underlying3 h2
      exact ⟨z, cs', h1, c0⟩
    refine ⟨List.ofFn fun i => Classical.choose (each i), _, rfl, ⟨some a, cap, by simp, by simpa using hl, hm, fun h0 => ⟨a, rfl, ?_, ?_⟩⟩⟩
    · have h0' : 0 < len := by simpa using h0
      obtain ⟨cs', h1, hcs⟩ := Classical.choose_spec (each ⟨0, h0'⟩)
      obtain ⟨_, hlen, hcl⟩ := World.cells?_some h1
      have := hcl 0 (by omega)
      rw [List.getElem?_eq_getElem (by omega)] at this
      have hb := World.block_lt_of_cell? W _ this
      rwa [add_block, add_block] at hb
    · intro i j hi hj
      have hi' : i < len := by simpa using hi
      obtain ⟨cs', h1, hcs⟩ := Classical.choose_spec (each ⟨i, hi'⟩)
      obtain ⟨_, hlen, hcl⟩ := World.cells?_some h1
      have e1 := hcl j hj
      rw [Go.Deep.add_add] at e1
      rw [e1, hcs]
      have hg : (List.ofFn fun i => Classical.choose (each i)).getD i 0 = Classical.choose (each ⟨i, hi'⟩) := by
        rw [List.getD_eq_getElem?_getD, List.getElem?_eq_getElem hi]
        simp
      simp only [hg]
      match j, hj with
      | 0, _ => simp
theorem pts_open {fuel : Nat} {cs : List Value} {d : DataW H} {p : List MemPlace} (h : DataW.trod enc Tryz.prog W 0 sp held fuel 24 cs = some (d, p))
    (hw : ∀ n ∈ d.weights Tryz.prog 24, n ≤ reachBytes) :
    ∃ (ps : List (List Pc)) (v : Value), cs = [v] ∧ PtsAt W v ps ∧ ∀ k, k < ps.length → (ps.getD k []).length ≤ 140737488355328 ∧ ∀ x ∈ ps.getD k [], x.s.size ≤ 140737488355328 := by
  rcases Go.Deep.open_slice Tryz.underlying24 h with ⟨rfl, _⟩ | ⟨a, len, cap, m, n, D, Pl, rfl, _, hl, hm, hmm, hx, hel⟩
  · exact ⟨[], _, rfl, pts_nil W, fun k hk => absurd hk (by simp)⟩
  · have hlm : len ≤ m := by rw [hmm]; split <;> omega
    have c3 : Tryz.prog.cellsOf 22 = 1 := by kernel_rfl
    rw [c3] at hel
    have hd : d = .slice ((List.range len).map D) ((List.range (m - len)).map fun j => D (len + j)) := congrArg Prod.fst hx
    have hwl : ∀ n ∈ (((List.range len).map D).length + ((List.range (m - len)).map fun j => D (len + j)).length) * Tryz.prog.bytesOf 22 :: (DataW.weightsAll Tryz.prog 22 ((List.range len).map D) ++ DataW.weightsAll Tryz.prog 22 ((List.range (m - len)).map fun j => D (len + j))), n ≤ reachBytes := by
      intro n hn
      apply hw
      rw [hd]
      simp only [DataW.weights, Tryz.underlying24]
      exact hn
    have each : ∀ i : Fin len, ∃ q : Value × List Pc, (∃ cs', W.cells? 0 (a.add (i.1 * 1)) 1 = some cs' ∧ cs' = [q.1]) ∧ PcsAt W q.1 q.2 ∧ q.2.length ≤ 140737488355328 ∧ ∀ x ∈ q.2, x.s.size ≤ 140737488355328 := fun i => by
      obtain ⟨cs', h1, h2⟩ := hel i.1 (by have := i.2; omega)
      have hmem : D i.1 ∈ (List.range len).map D := List.mem_map.2 ⟨i.1, List.mem_range.2 i.2, rfl⟩
      obtain ⟨l, v, hv, hp, hz, hn⟩ := pcs_open h2 (fun n hn => hwl _ (List.mem_cons_of_mem _ (List.mem_append_left _ (weights_all hmem hn))))
      exact ⟨(v, l), ⟨cs', h1, hv⟩, hp, hn, hz⟩
    have g1 : ∀ i (hi : i < len), ((List.ofFn fun i => (Classical.choose (each i)).1).getD i nilV1) = (Classical.choose (each ⟨i, hi⟩)).1 := fun i hi => by
      rw [List.getD_eq_getElem?_getD, List.getElem?_eq_getElem (by simpa using hi)]
      simp
    have g2 : ∀ i (hi : i < len), ((List.ofFn fun i => (Classical.choose (each i)).2).getD i []) = (Classical.choose (each ⟨i, hi⟩)).2 := fun i hi => by
      rw [List.getD_eq_getElem?_getD, List.getElem?_eq_getElem (by simpa using hi)]
      simp
    refine ⟨List.ofFn fun i => (Classical.choose (each i)).2, _, rfl, ⟨List.ofFn fun i => (Classical.choose (each i)).1, by simp, ⟨some a, cap, by simp, by simpa using hl, hm, fun h0 => ⟨a, rfl, ?_, ?_⟩⟩, ?_⟩, ?_⟩
    · have h0' : 0 < len := by simpa using h0
      obtain ⟨⟨cs', h1, hcs⟩, _⟩ := Classical.choose_spec (each ⟨0, h0'⟩)
      obtain ⟨_, hlen, hcl⟩ := World.cells?_some h1
      have := hcl 0 (by omega)
      rw [List.getElem?_eq_getElem (by omega)] at this
      have hb := World.block_lt_of_cell? W _ this
      rwa [add_block, add_block] at hb
    · intro i j hi hj
      have hi' : i < len := by simpa using hi
      obtain ⟨⟨cs', h1, hcs⟩, _⟩ := Classical.choose_spec (each ⟨i, hi'⟩)
      obtain ⟨_, hlen, hcl⟩ := World.cells?_some h1
      have e1 := hcl j hj
      rw [Go.Deep.add_add] at e1
      rw [e1, hcs]
      unfold ptF
      rw [g1 i hi']
      match j, hj with
      | 0, _ => simp
    · intro i hi
      have hi' : i < len := by simpa using hi
      rw [g1 i hi', g2 i hi']
      exact (Classical.choose_spec (each ⟨i, hi'⟩)).2.1
    · intro i hi
      have hi' : i < len := by simpa using hi
      rw [g2 i hi']
      exact (Classical.choose_spec (each ⟨i, hi'⟩)).2.2
end
theorem slice_ints {W : World} {base : Nat} {v u : Value} (hv : Value.okWide Tryz.prog W .any base 23 v) (h : v.cells.toList = [u]) : v = u := by
  obtain ⟨a0, len0, cap0, rfl⟩ := okWide_slice Tryz.underlying23 hv
  simpa [Value.cells] using h
theorem slice_pts {W : World} {base : Nat} {v u : Value} (hv : Value.okWide Tryz.prog W .any base 24 v) (h : v.cells.toList = [u]) : v = u := by
  obtain ⟨a0, len0, cap0, rfl⟩ := okWide_slice Tryz.underlying24 hv
  simpa [Value.cells] using h
end Go.Proofs.YtnkpjkomokkhcaaGreatDoor
