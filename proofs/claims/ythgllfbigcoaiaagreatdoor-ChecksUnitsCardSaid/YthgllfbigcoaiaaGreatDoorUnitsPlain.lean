/- ChecksUnits: what the card asks of the program. -/
import Derived.Test.YthgllfbigcoaiaaGreatDoorCk8
namespace Go.Proofs.YthgllfbigcoaiaaGreatDoor
open Go Go.Eng Go.ChangeShapes Go.WideShapes Go.ChangeAt Go.ChangeMaps Go.RowKit Go.Lib
set_option maxRecDepth 100000
/-- No parameter wants a stand-in; the program's own looks are off: what the card asks. -/
theorem checksUnits_plain (f : FuncId) (fn : Func) (hf : Tryz.pinned.checked.prog.funcNamed "truchman/truchmanlaw08.ChecksUnits" = some f) (hfn : Tryz.pinned.checked.prog.funcs[f]? = some fn) :
    true = Tryz.pinned.checked.prog.looks [] ∧ ∀ (j : Nat) t, fn.params[j]? = some t → Tryz.pinned.checked.prog.wantsStandIn t = false := by
  obtain rfl : f = 7 := Option.some.inj ((show Tryz.prog.funcNamed "truchman/truchmanlaw08.ChecksUnits" = some 7 by kernel_rfl).symm.trans hf) |>.symm
  obtain rfl : fn = Tryz.f7 := (Option.some.inj (Tryz.func7.symm.trans hfn)).symm
  refine ⟨by kernel_rfl, fun j t ht => ?_⟩
  rw [Tryz.params7] at ht
  have ht' : t = 3 ∨ t = 9 ∨ t = 41 := by
    match j, ht with
    | 0, ht => simp at ht; simp [← ht]
    | 1, ht => simp at ht; simp [← ht]
    | 2, ht => simp at ht; simp [← ht]
    | 3, ht => simp at ht; simp [← ht]
    | 4, ht => simp at ht; simp [← ht]
    | 5, ht => simp at ht; simp [← ht]
    | 6, ht => simp at ht; simp [← ht]
    | j + 7, ht => simp at ht
  rcases ht' with rfl | rfl | rfl
  · exact (show Tryz.prog.wantsStandIn 3 = false by kernel_rfl)
  · exact (show Tryz.prog.wantsStandIn 9 = false by kernel_rfl)
  · exact (show Tryz.prog.wantsStandIn 41 = false by kernel_rfl)
end Go.Proofs.YthgllfbigcoaiaaGreatDoor
