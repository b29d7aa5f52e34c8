/- Break rules as arguments, opened; the table of classes in full. -/
import Derived.Test.YtnkpjkomokkhcaaGreatDoorBrE
import Derived.Test.YtnkpjkomokkhcaaGreatDoorDqB
namespace Go.Proofs.YtnkpjkomokkhcaaGreatDoor
open Go Go.Eng Go.ChangeShapes Go.WideShapes Go.ChangeAt Go.ChangeMaps Go.RowKit Go.Lib
set_option maxRecDepth 100000
theorem clZ_R : ∀ c, c < 128 → clZ.getD c 0 = clsR c := by decide +kernel
theorem clsR_of {w : World} (h : VarReads Tryz.prog w "truchman/docs.classes" (Rows.laid_truchman_docs_classes : DataW Unit)) : ClsAt clsR w := by
  obtain ⟨cs, t, fr, e, r⟩ := cls_heap h
  intro c hc
  have hl : c < clZ.length := hc
  rw [← clZ_R c hc, Lib.cell_of_heap e c, ← Array.getElem?_toList, r, ← clZ_cells, List.getElem?_map, List.getD_eq_getElem?_getD, List.getElem?_eq_getElem hl]
  rfl
section
variable {H : Type} {enc : TypeId × Value → H} {W : World} {base : Nat} {sp : Nat → Bool} {held : Bool}
theorem rl_open {fuel : Nat} {cs : List Value} {d : DataW H} {p : List MemPlace} (h : DataW.trod enc Tryz.prog W base sp held fuel 47 cs = some (d, p)) :
    ∃ x : Rl, cs = [.string x.b, .string x.a, .bool x.k] ∧ d = .agg [.lit (.string x.b.data.toList), .lit (.string x.a.data.toList), .lit (.bool x.k)] := by
  obtain ⟨xs, n, _, hx, hl, hxl, hf⟩ := DataW.trod_struct Tryz.underlying47 h
  have h3 : cs.length = 3 := hl.trans (by kernel_rfl)
  have hx3 : xs.length = 3 := hxl
  match xs, hx3 with
  | [y0, y1, y2], _ =>
    have f0 : DataW.trod enc Tryz.prog W base sp held n 9 ((cs.drop 0).take (Tryz.prog.cellsOf 9)) = some y0 := hf 0 _ rfl
    have f1 : DataW.trod enc Tryz.prog W base sp held n 9 ((cs.drop 1).take (Tryz.prog.cellsOf 9)) = some y1 := hf 1 _ rfl
    have f2 : DataW.trod enc Tryz.prog W base sp held n 4 ((cs.drop 2).take (Tryz.prog.cellsOf 4)) = some y2 := hf 2 _ rfl
    rw [show Tryz.prog.cellsOf 9 = 1 by kernel_rfl] at f0 f1
    rw [show Tryz.prog.cellsOf 4 = 1 by kernel_rfl] at f2
    obtain ⟨z, c0, g0, _⟩ := DataW.trod_string Tryz.underlying9 f0
    obtain ⟨z1, c1, g1, _⟩ := DataW.trod_string Tryz.underlying9 f1
    obtain ⟨z2, c2, g2⟩ := DataW.trod_bool Tryz.underlying4 f2
    have hd : d = .agg [y0.1, y1.1, y2.1] := by
      have := congrArg Prod.fst hx
      simpa using this
    have k0 := one_of c0
    have k1 := one_of c1
    have k2 := one_of c2
    refine ⟨⟨z, z1, z2⟩, ?_, by rw [hd, g0, g1, g2]⟩
    match cs, h3 with
    | [q0, q1, q2], _ =>
      simp at k0 k1 k2
      subst k0 k1 k2
      rfl
theorem rules_open {fuel : Nat} {cs : List Value} {d : DataW H} {p : List MemPlace} (h : DataW.trod enc Tryz.prog W 0 sp held fuel 38 cs = some (d, p))
    (hw : ∀ n ∈ d.weights Tryz.prog 38, n ≤ reachBytes) :
    ∃ (l : List Rl) (v : Value), cs = [v] ∧ RulesAt W v l ∧ (∀ x ∈ l, x.b.size ≤ 140737488355328 ∧ x.a.size ≤ 140737488355328) ∧ l.length ≤ 140737488355328 := by
  have hr : reachBytes ≤ 140737488355328 := by decide
  rcases Go.Deep.open_slice Tryz.underlying38 h with ⟨rfl, _⟩ | ⟨a, len, cap, m, n, D, Pl, rfl, _, hl, hm, hmm, hx, hel⟩
  · exact ⟨[], _, rfl, ⟨none, 0, rfl, by simp, by simp, fun h => absurd h (by simp)⟩, by simp, by simp⟩
  · have hlm : len ≤ m := by rw [hmm]; split <;> omega
    have c3 : Tryz.prog.cellsOf 47 = 3 := by kernel_rfl
    rw [c3] at hel
    have wl : ∀ (x : Rl) (d : DataW H), d = .agg [.lit (.string x.b.data.toList), .lit (.string x.a.data.toList), .lit (.bool x.k)] → x.b.data.toList.length ∈ d.weights Tryz.prog 47 ∧ x.a.data.toList.length ∈ d.weights Tryz.prog 47 := by
      rintro x d rfl
      simp [DataW.weights, Tryz.underlying47, DataW.weightsEach]
    have each : ∀ i : Fin len, ∃ x : Rl, (∃ cs', W.cells? 0 (a.add (i.1 * 3)) 3 = some cs' ∧ cs' = [.string x.b, .string x.a, .bool x.k]) ∧ D i.1 = .agg [.lit (.string x.b.data.toList), .lit (.string x.a.data.toList), .lit (.bool x.k)] := fun i => by
      obtain ⟨cs', h1, h2⟩ := hel i.1 (by have := i.2; omega)
      obtain ⟨x, hx1, hx2⟩ := rl_open h2
      exact ⟨x, ⟨cs', h1, hx1⟩, hx2⟩
    have hd : d = .slice ((List.range len).map D) ((List.range (m - len)).map fun j => D (len + j)) := congrArg Prod.fst hx
    have hwl : ∀ n ∈ (((List.range len).map D).length + ((List.range (m - len)).map fun j => D (len + j)).length) * Tryz.prog.bytesOf 47 :: (DataW.weightsAll Tryz.prog 47 ((List.range len).map D) ++ DataW.weightsAll Tryz.prog 47 ((List.range (m - len)).map fun j => D (len + j))), n ≤ reachBytes := by
      intro n hn
      apply hw
      rw [hd]
      simp only [DataW.weights, Tryz.underlying38]
      exact hn
    refine ⟨List.ofFn fun i => Classical.choose (each i), _, rfl, ⟨some a, cap, by simp, by simpa using hl, hm, fun h0 => ⟨a, rfl, ?_, ?_⟩⟩, ?_, ?_⟩
    · have h0' : 0 < len := by simpa using h0
      obtain ⟨⟨cs', h1, hcs⟩, _⟩ := Classical.choose_spec (each ⟨0, h0'⟩)
      obtain ⟨_, hlen, hcl⟩ := World.cells?_some h1
      have := hcl 0 (by omega)
      rw [List.getElem?_eq_getElem (by omega)] at this
      have hb := World.block_lt_of_cell? W _ this
      rwa [add_block, add_block] at hb
    · intro i j hi hj
      have hi' : i < len := by simpa using hi
      obtain ⟨⟨cs', h1, hcs⟩, _⟩ := Classical.choose_spec (each ⟨i, hi'⟩)
      obtain ⟨_, hlen, hcl⟩ := World.cells?_some h1
      have e1 := hcl j hj
      rw [Go.Deep.add_add] at e1
      rw [e1, hcs]
      have hg : (List.ofFn fun i => Classical.choose (each i)).getD i nilR = Classical.choose (each ⟨i, hi'⟩) := by
        rw [List.getD_eq_getElem?_getD, List.getElem?_eq_getElem hi]
        simp
      unfold rF
      rw [hg]
      match j, hj with
      | 0, _ => simp
      | 1, _ => simp
      | 2, _ => simp
    · intro x hx
      obtain ⟨i, hi, rfl⟩ := List.getElem_of_mem hx
      have hi' : i < len := by simpa using hi
      obtain ⟨_, hD⟩ := Classical.choose_spec (each ⟨i, hi'⟩)
      have hmem : D i ∈ (List.range len).map D := List.mem_map.2 ⟨i, List.mem_range.2 hi', rfl⟩
      have key := hwl _ (List.mem_cons_of_mem _ (List.mem_append_left _ (weights_all hmem (wl _ _ hD).1)))
      have key2 := hwl _ (List.mem_cons_of_mem _ (List.mem_append_left _ (weights_all hmem (wl _ _ hD).2)))
      have e : (List.ofFn fun i => Classical.choose (each i))[i] = Classical.choose (each ⟨i, hi'⟩) := by simp
      rw [e]
      rw [bytes_len] at key key2
      exact ⟨by omega, by omega⟩
    · have key := hwl _ (List.mem_cons_self ..)
      have hby : 1 ≤ Tryz.prog.bytesOf 47 := by decide +kernel
      simp only [List.length_map, List.length_range, List.length_ofFn] at key ⊢
      have : len * 1 ≤ (len + (m - len)) * Tryz.prog.bytesOf 47 := Nat.mul_le_mul (by omega) hby
      omega
end
theorem slice_rules {W : World} {base : Nat} {v u : Value} (hv : Value.okWide Tryz.prog W .any base 38 v) (h : v.cells.toList = [u]) : v = u := by
  obtain ⟨a0, len0, cap0, rfl⟩ := okWide_slice Tryz.underlying38 hv
  simpa [Value.cells] using h
end Go.Proofs.YtnkpjkomokkhcaaGreatDoor
