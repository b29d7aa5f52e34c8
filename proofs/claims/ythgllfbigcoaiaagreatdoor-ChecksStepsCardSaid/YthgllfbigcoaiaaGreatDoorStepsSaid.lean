/- ChecksSteps: the row. -/
import Derived.Test.YthgllfbigcoaiaaGreatDoorStepsLift
import Derived.Test.YthgllfbigcoaiaaGreatDoorStepsF1
import Derived.Test.YthgllfbigcoaiaaGreatDoorStepsF2
namespace Go.Proofs.YthgllfbigcoaiaaGreatDoor
open Go Go.Eng Go.ChangeShapes Go.WideShapes Go.ChangeAt Go.ChangeMaps Go.RowKit Go.Lib
set_option maxRecDepth 100000
theorem checksSteps_said : Rows.ChecksStepsSaid :=
  OpenClaim.holds_of_cond 6 Tryz.f6 rfl rfl rfl rfl rfl rfl rfl ⟨rfl, rfl, rfl, rfl, rfl⟩ rfl rfl rfl rfl rfl (by kernel_rfl) Tryz.func6 (by unfold joinedFacts; rw [checksSteps_j1, checksSteps_j2, checksSteps_j3, checksSteps_j4, laidOutP, mapsRowedP, mayEnterP]; kernel_rfl)
    (of_decide_eq_true (by kernel_rfl)) (by unfold Func.isWrapper; first | (rw [if_pos (by decide +kernel)]; kernel_rfl) | (rw [if_neg (by decide +kernel)]; exact ⟨rfl, rfl⟩))
    (fun os started H enc _ F => by rw [OpenClaim.pre_eq_preRow]; exact checksSteps_lifted os started H enc F)
end Go.Proofs.YthgllfbigcoaiaaGreatDoor
