/- ChecksMatches: the row. -/
import Derived.Test.YthgllfbigcoaiaaGreatDoorMatchesLift
import Derived.Test.YthgllfbigcoaiaaGreatDoorMatchesF1
import Derived.Test.YthgllfbigcoaiaaGreatDoorMatchesF2
namespace Go.Proofs.YthgllfbigcoaiaaGreatDoor
open Go Go.Eng Go.ChangeShapes Go.WideShapes Go.ChangeAt Go.ChangeMaps Go.RowKit Go.Lib
set_option maxRecDepth 100000
theorem checksMatches_said : Rows.ChecksMatchesSaid :=
  OpenClaim.holds_of_cond 3 Tryz.f3 rfl rfl rfl rfl rfl rfl rfl ⟨rfl, rfl, rfl, rfl, rfl⟩ rfl rfl rfl rfl rfl (by kernel_rfl) Tryz.func3 (by unfold joinedFacts; rw [checksMatches_j1, checksMatches_j2, checksMatches_j3, checksMatches_j4, laidOutP, mapsRowedP, mayEnterP]; kernel_rfl)
    (of_decide_eq_true (by kernel_rfl)) (by unfold Func.isWrapper; first | (rw [if_pos (by decide +kernel)]; kernel_rfl) | (rw [if_neg (by decide +kernel)]; exact ⟨rfl, rfl⟩))
    (fun os started H enc _ F => by rw [OpenClaim.pre_eq_preRow]; exact checksMatches_lifted os started H enc F)
end Go.Proofs.YthgllfbigcoaiaaGreatDoor
