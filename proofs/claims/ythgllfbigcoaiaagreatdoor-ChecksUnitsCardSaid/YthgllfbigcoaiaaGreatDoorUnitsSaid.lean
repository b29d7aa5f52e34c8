/- ChecksUnits: the row. -/
import Derived.Test.YthgllfbigcoaiaaGreatDoorUnitsLift
import Derived.Test.YthgllfbigcoaiaaGreatDoorUnitsF1
import Derived.Test.YthgllfbigcoaiaaGreatDoorUnitsF2
namespace Go.Proofs.YthgllfbigcoaiaaGreatDoor
open Go Go.Eng Go.ChangeShapes Go.WideShapes Go.ChangeAt Go.ChangeMaps Go.RowKit Go.Lib
set_option maxRecDepth 100000
theorem checksUnits_said : Rows.ChecksUnitsSaid :=
  OpenClaim.holds_of_cond 7 Tryz.f7 rfl rfl rfl rfl rfl rfl rfl ⟨rfl, rfl, rfl, rfl, rfl⟩ rfl rfl rfl rfl rfl (by kernel_rfl) Tryz.func7 (by unfold joinedFacts; rw [checksUnits_j1, checksUnits_j2, checksUnits_j3, checksUnits_j4, laidOutP, mapsRowedP, mayEnterP]; kernel_rfl)
    (of_decide_eq_true (by kernel_rfl)) (by unfold Func.isWrapper; first | (rw [if_pos (by decide +kernel)]; kernel_rfl) | (rw [if_neg (by decide +kernel)]; exact ⟨rfl, rfl⟩))
    (fun os started H enc _ F => by rw [OpenClaim.pre_eq_preRow]; exact checksUnits_lifted os started H enc F)
end Go.Proofs.YthgllfbigcoaiaaGreatDoor
