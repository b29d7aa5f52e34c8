/- Words: the arguments of DocsWords opened; the table of classes in full. -/
import Derived.Test.YtnbeomclmggbiaaGreatDoorWo28
import Derived.Test.YtnbeomclmggbiaaGreatDoorDqB
namespace Go.Proofs.YtnbeomclmggbiaaGreatDoor
open Go Go.Eng Go.ChangeShapes Go.WideShapes Go.ChangeAt Go.ChangeMaps Go.RowKit Go.Lib
set_option maxRecDepth 100000
theorem clZ_all : ∀ c, c < 128 → clZ.getD c 0 = clsN c := by decide +kernel
theorem cls2_of {w : World} (h : VarReads Tryz.prog w "truchman/docs.classes" (Rows.laid_truchman_docs_classes : DataW Unit)) : Cls2 w := by
  obtain ⟨cs, t, fr, e, r⟩ := cls_heap h
  intro c hc
  have hl : c < clZ.length := hc
  rw [← clZ_all c hc, Lib.cell_of_heap e c, ← Array.getElem?_toList, r, ← clZ_cells, List.getElem?_map, List.getD_eq_getElem?_getD, List.getElem?_eq_getElem hl]
  rfl
section
variable {H : Type} {enc : TypeId × Value → H} {W : World} {sp : Nat → Bool} {held : Bool}
theorem strs_open2 {fuel : Nat} {cs : List Value} {d : DataW H} {p : List MemPlace} (h : DataW.trod enc Tryz.prog W 0 sp held fuel 36 cs = some (d, p))
    (hw : ∀ n ∈ d.weights Tryz.prog 36, n ≤ reachBytes) :
    ∃ (l : List ByteArray) (v : Value), cs = [v] ∧ StrsAt W v l ∧ (∀ x ∈ l, x.size ≤ 140737488355328) ∧ l.length ≤ 140737488355328 := by
  have hr : reachBytes ≤ 140737488355328 := by decide
  rcases Go.Deep.open_slice Tryz.underlying36 h with ⟨rfl, _⟩ | ⟨a, len, cap, m, n, D, Pl, rfl, _, hl, hm, hmm, hx, hel⟩
  · exact ⟨[], _, rfl, ⟨none, 0, rfl, by simp, by simp, fun h => absurd h (by simp)⟩, by simp, by simp⟩
  · have hlm : len ≤ m := by rw [hmm]; split <;> omega
    have c3 : Tryz.prog.cellsOf 9 = 1 := by kernel_rfl
    rw [c3] at hel
    have wl : ∀ (x : ByteArray) (d : DataW H), d = .lit (.string x.data.toList) → x.data.toList.length ∈ d.weights Tryz.prog 9 := by
      rintro x d rfl
      simp [DataW.weights]
    have each : ∀ i : Fin len, ∃ x : ByteArray, (∃ cs', W.cells? 0 (a.add (i.1 * 1)) 1 = some cs' ∧ cs' = [.string x]) ∧ D i.1 = .lit (.string x.data.toList) := fun i => by
      obtain ⟨cs', h1, h2⟩ := hel i.1 (by have := i.2; omega)
      obtain ⟨x, hx1, hx2, _⟩ := DataW.trod_string Tryz.underlying9 h2
      exact ⟨x, ⟨cs', h1, hx1⟩, congrArg Prod.fst hx2⟩
    have hd : d = .slice ((List.range len).map D) ((List.range (m - len)).map fun j => D (len + j)) := congrArg Prod.fst hx
    have hwl : ∀ n ∈ (((List.range len).map D).length + ((List.range (m - len)).map fun j => D (len + j)).length) * Tryz.prog.bytesOf 9 :: (DataW.weightsAll Tryz.prog 9 ((List.range len).map D) ++ DataW.weightsAll Tryz.prog 9 ((List.range (m - len)).map fun j => D (len + j))), n ≤ reachBytes := by
      intro n hn
      apply hw
      rw [hd]
      simp only [DataW.weights, Tryz.underlying36]
      exact hn
    refine ⟨List.ofFn fun i => Classical.choose (each i), _, rfl, ⟨some a, cap, by simp, by simpa using hl, hm, fun h0 => ⟨a, rfl, ?_, ?_⟩⟩, ?_, ?_⟩
    · have h0' : 0 < len := by simpa using h0
      obtain ⟨⟨cs', h1, hcs⟩, _⟩ := Classical.choose_spec (each ⟨0, h0'⟩)
      obtain ⟨_, hlen, hcl⟩ := World.cells?_some h1
      have := hcl 0 (by omega)
      rw [List.getElem?_eq_getElem (by omega)] at this
      have hb := World.block_lt_of_cell? W _ this
      rwa [add_block, add_block] at hb
    · intro i j hi hj
      have hi' : i < len := by simpa using hi
      obtain ⟨⟨cs', h1, hcs⟩, _⟩ := Classical.choose_spec (each ⟨i, hi'⟩)
      obtain ⟨_, hlen, hcl⟩ := World.cells?_some h1
      have e1 := hcl j hj
      rw [Go.Deep.add_add] at e1
      rw [e1, hcs]
      have hg : (List.ofFn fun i => Classical.choose (each i)).getD i ByteArray.empty = Classical.choose (each ⟨i, hi'⟩) := by
        rw [List.getD_eq_getElem?_getD, List.getElem?_eq_getElem hi]
        simp
      unfold strF
      rw [hg]
      match j, hj with
      | 0, _ => simp
    · intro x hx
      obtain ⟨i, hi, rfl⟩ := List.getElem_of_mem hx
      have hi' : i < len := by simpa using hi
      obtain ⟨_, hD⟩ := Classical.choose_spec (each ⟨i, hi'⟩)
      have hmem : D i ∈ (List.range len).map D := List.mem_map.2 ⟨i, List.mem_range.2 hi', rfl⟩
      have key := hwl _ (List.mem_cons_of_mem _ (List.mem_append_left _ (weights_all hmem (wl _ _ hD))))
      have e : (List.ofFn fun i => Classical.choose (each i))[i] = Classical.choose (each ⟨i, hi'⟩) := by simp
      rw [e]
      rw [bytes_len] at key
      omega
    · have key := hwl _ (List.mem_cons_self ..)
      have hby : 1 ≤ Tryz.prog.bytesOf 9 := by decide +kernel
      simp only [List.length_map, List.length_range, List.length_ofFn] at key ⊢
      have : len * 1 ≤ (len + (m - len)) * Tryz.prog.bytesOf 9 := Nat.mul_le_mul (by omega) hby
      omega
end
theorem slice_of2 {W : World} {base : Nat} {v u : Value} (hv : Value.okWide Tryz.prog W .any base 36 v) (h : v.cells.toList = [u]) : v = u := by
  obtain ⟨a0, len0, cap0, rfl⟩ := okWide_slice Tryz.underlying36 hv
  simpa [Value.cells] using h
end Go.Proofs.YtnbeomclmggbiaaGreatDoor
