/- ChecksGrams: the row. -/
import Derived.Test.YthgllfbigcoaiaaGreatDoorGramsLift
import Derived.Test.YthgllfbigcoaiaaGreatDoorGramsF1
import Derived.Test.YthgllfbigcoaiaaGreatDoorGramsF2
namespace Go.Proofs.YthgllfbigcoaiaaGreatDoor
open Go Go.Eng Go.ChangeShapes Go.WideShapes Go.ChangeAt Go.ChangeMaps Go.RowKit Go.Lib
set_option maxRecDepth 100000
theorem checksGrams_said : Rows.ChecksGramsSaid :=
  OpenClaim.holds_of_cond 5 Tryz.f5 rfl rfl rfl rfl rfl rfl rfl ⟨rfl, rfl, rfl, rfl, rfl⟩ rfl rfl rfl rfl rfl (by kernel_rfl) Tryz.func5 (by unfold joinedFacts; rw [checksGrams_j1, checksGrams_j2, checksGrams_j3, checksGrams_j4, laidOutP, mapsRowedP, mayEnterP]; kernel_rfl)
    (of_decide_eq_true (by kernel_rfl)) (by unfold Func.isWrapper; first | (rw [if_pos (by decide +kernel)]; kernel_rfl) | (rw [if_neg (by decide +kernel)]; exact ⟨rfl, rfl⟩))
    (fun os started H enc _ F => by rw [OpenClaim.pre_eq_preRow]; exact checksGrams_lifted os started H enc F)
end Go.Proofs.YthgllfbigcoaiaaGreatDoor
