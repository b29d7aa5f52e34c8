/- ChecksSteps returns true for any three lists of words and any word, in every world that the row speaks of: the steps make one list of the other, their number is 0 just for equal lists, the same both ways round, never more than by way of a third list, and stays with one word more at both ends; the layer's examples are a closed run. No condition but the row's own. -/
import Derived.Test.YthgllfbigcoaiaaGreatDoorStepsSaid
import Derived.Test.YthgllfbigcoaiaaGreatDoorStepsPlain
import Derived.Test.YthgllfbigcoaiaaGreatDoorStepsGoes
namespace Go.Proofs.YthgllfbigcoaiaaGreatDoor
open Go Go.Eng Go.ChangeShapes Go.WideShapes Go.ChangeAt Go.ChangeMaps Go.RowKit Go.Lib
set_option maxRecDepth 100000
/-- THE CARD. -/
theorem checksSteps_holds : Rows.ChecksStepsCardSaid :=
  Claim7.holds_tied_plain_at .later [] _ _ _ _ checksSteps_said (fun _ h => by cases h) (by kernel_rfl) (fun _ h => by cases h) checksSteps_row_tie rfl ⟨rfl, rfl⟩ (by kernel_rfl) rfl checksSteps_plain checksSteps_goes
#print axioms checksSteps_holds
end Go.Proofs.YthgllfbigcoaiaaGreatDoor
