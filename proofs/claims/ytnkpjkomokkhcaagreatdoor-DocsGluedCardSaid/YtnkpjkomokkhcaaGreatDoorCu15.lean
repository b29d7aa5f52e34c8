/- Whole numbers and parts as arguments, opened. -/
import Derived.Test.YtnkpjkomokkhcaaGreatDoorDqB
import Derived.Test.YtnkpjkomokkhcaaGreatDoorGlD
import Derived.Test.YtnkpjkomokkhcaaGreatDoorGlB
namespace Go.Proofs.YtnkpjkomokkhcaaGreatDoor
open Go Go.Eng Go.ChangeShapes Go.WideShapes Go.ChangeAt Go.ChangeMaps Go.RowKit Go.Lib
set_option maxRecDepth 100000
section
variable {H : Type} {enc : TypeId × Value → H} {W : World} {sp : Nat → Bool} {held : Bool}
theorem ints_open {fuel : Nat} {cs : List Value} {d : DataW H} {p : List MemPlace} (h : DataW.trod enc Tryz.prog W 0 sp held fuel 23 cs = some (d, p)) :
    ∃ (l : List Int) (v : Value), cs = [v] ∧ IntsAt W v l := by
  rcases Go.Deep.open_slice Tryz.underlying23 h with ⟨rfl, _⟩ | ⟨a, len, cap, m, n, D, Pl, rfl, _, hl, hm, hmm, hx, hel⟩
  · exact ⟨[], _, rfl, ⟨none, 0, rfl, by simp, by simp, fun h => absurd h (by simp)⟩⟩
  · have hlm : len ≤ m := by rw [hmm]; split <;> omega
    have c3 : Tryz.prog.cellsOf 3 = 1 := by kernel_rfl
    rw [c3] at hel
    have each : ∀ i : Fin len, ∃ z : Int, ∃ cs', W.cells? 0 (a.add (i.1 * 1)) 1 = some cs' ∧ cs' = [.int .i64 z] := fun i => by
      obtain ⟨cs', h1, h2⟩ := hel i.1 (by have := i.2; omega)
      obtain ⟨z, c0, _, _⟩ := DataW.trod_int Tryz.underlying3 h2
      exact ⟨z, cs', h1, c0⟩
    refine ⟨List.ofFn fun i => Classical.choose (each i), _, rfl, ⟨some a, cap, by simp, by simpa using hl, hm, fun h0 => ⟨a, rfl, ?_, ?_⟩⟩⟩
    · have h0' : 0 < len := by simpa using h0
      obtain ⟨cs', h1, hcs⟩ := Classical.choose_spec (each ⟨0, h0'⟩)
      obtain ⟨_, hlen, hcl⟩ := World.cells?_some h1
      have := hcl 0 (by omega)
      rw [List.getElem?_eq_getElem (by omega)] at this
      have hb := World.block_lt_of_cell? W _ this
      rwa [add_block, add_block] at hb
    · intro i j hi hj
      have hi' : i < len := by simpa using hi
      obtain ⟨cs', h1, hcs⟩ := Classical.choose_spec (each ⟨i, hi'⟩)
      obtain ⟨_, hlen, hcl⟩ := World.cells?_some h1
      have e1 := hcl j hj
      rw [Go.Deep.add_add] at e1
      rw [e1, hcs]
      have hg : (List.ofFn fun i => Classical.choose (each i)).getD i 0 = Classical.choose (each ⟨i, hi'⟩) := by
        rw [List.getD_eq_getElem?_getD, List.getElem?_eq_getElem hi]
        simp
      simp only [hg]
      match j, hj with
      | 0, _ => simp
end
theorem slice_ints {W : World} {base : Nat} {v u : Value} (hv : Value.okWide Tryz.prog W .any base 23 v) (h : v.cells.toList = [u]) : v = u := by
  obtain ⟨a0, len0, cap0, rfl⟩ := okWide_slice Tryz.underlying23 hv
  simpa [Value.cells] using h
end Go.Proofs.YtnkpjkomokkhcaaGreatDoor
