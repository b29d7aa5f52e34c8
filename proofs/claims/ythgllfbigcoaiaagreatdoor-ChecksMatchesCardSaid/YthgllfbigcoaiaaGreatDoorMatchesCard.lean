/- ChecksMatches returns true for any two lists of words and any number, in every world that the row speaks of: the matches of grams and the steps that make one list of the other are what the specification tells; the layer's examples are a closed run. No condition but the row's own. -/
import Derived.Test.YthgllfbigcoaiaaGreatDoorMatchesSaid
import Derived.Test.YthgllfbigcoaiaaGreatDoorMatchesPlain
import Derived.Test.YthgllfbigcoaiaaGreatDoorMatchesGoes
namespace Go.Proofs.YthgllfbigcoaiaaGreatDoor
open Go Go.Eng Go.ChangeShapes Go.WideShapes Go.ChangeAt Go.ChangeMaps Go.RowKit Go.Lib
set_option maxRecDepth 100000
/-- THE CARD. -/
theorem checksMatches_holds : Rows.ChecksMatchesCardSaid :=
  Claim7.holds_tied_plain_at .later [] _ _ _ _ checksMatches_said (fun _ h => by cases h) (by kernel_rfl) (fun _ h => by cases h) checksMatches_row_tie rfl ⟨rfl, rfl⟩ (by kernel_rfl) rfl checksMatches_plain checksMatches_goes
#print axioms checksMatches_holds
end Go.Proofs.YthgllfbigcoaiaaGreatDoor
