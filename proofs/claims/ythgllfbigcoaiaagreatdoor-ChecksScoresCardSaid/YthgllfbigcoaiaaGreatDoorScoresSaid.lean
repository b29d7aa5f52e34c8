/- ChecksScores: the row. -/
import Derived.Test.YthgllfbigcoaiaaGreatDoorScoresLift
import Derived.Test.YthgllfbigcoaiaaGreatDoorScoresF1
import Derived.Test.YthgllfbigcoaiaaGreatDoorScoresF2
namespace Go.Proofs.YthgllfbigcoaiaaGreatDoor
open Go Go.Eng Go.ChangeShapes Go.WideShapes Go.ChangeAt Go.ChangeMaps Go.RowKit Go.Lib
set_option maxRecDepth 100000
theorem checksScores_said : Rows.ChecksScoresSaid :=
  OpenClaim.holds_of_cond 4 Tryz.f4 rfl rfl rfl rfl rfl rfl rfl ⟨rfl, rfl, rfl, rfl, rfl⟩ rfl rfl rfl rfl rfl (by kernel_rfl) Tryz.func4 (by unfold joinedFacts; rw [checksScores_j1, checksScores_j2, checksScores_j3, checksScores_j4, laidOutP, mapsRowedP, mayEnterP]; kernel_rfl)
    (of_decide_eq_true (by kernel_rfl)) (by unfold Func.isWrapper; first | (rw [if_pos (by decide +kernel)]; kernel_rfl) | (rw [if_neg (by decide +kernel)]; exact ⟨rfl, rfl⟩))
    (fun os started H enc _ F => by rw [OpenClaim.pre_eq_preRow]; exact checksScores_lifted os started H enc F)
end Go.Proofs.YthgllfbigcoaiaaGreatDoor
