/- ChecksScores returns true for any two lists of lists of words and any number, in every world that the row speaks of: the precision of grams and the rate of steps are what the specification tells; the layer's examples are a closed run. No condition but the row's own. -/
import Derived.Test.YthgllfbigcoaiaaGreatDoorScoresSaid
import Derived.Test.YthgllfbigcoaiaaGreatDoorScoresPlain
import Derived.Test.YthgllfbigcoaiaaGreatDoorScoresGoes
namespace Go.Proofs.YthgllfbigcoaiaaGreatDoor
open Go Go.Eng Go.ChangeShapes Go.WideShapes Go.ChangeAt Go.ChangeMaps Go.RowKit Go.Lib
set_option maxRecDepth 100000
/-- THE CARD. -/
theorem checksScores_holds : Rows.ChecksScoresCardSaid :=
  Claim7.holds_tied_plain_at .later [] _ _ _ _ checksScores_said (fun _ h => by cases h) (by kernel_rfl) (fun _ h => by cases h) checksScores_row_tie rfl ⟨rfl, rfl⟩ (by kernel_rfl) rfl checksScores_plain checksScores_goes
#print axioms checksScores_holds
end Go.Proofs.YthgllfbigcoaiaaGreatDoor
