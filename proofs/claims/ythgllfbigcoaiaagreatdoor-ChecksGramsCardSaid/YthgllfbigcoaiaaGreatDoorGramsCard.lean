/- ChecksGrams returns true for any two lists of words and any number, in every world that the row speaks of: matches do not depend on the order of the lists, are at most the grams of each, all of them of a list and itself, and no more for longer grams; the layer's examples are a closed run. No condition but the row's own. -/
import Derived.Test.YthgllfbigcoaiaaGreatDoorGramsSaid
import Derived.Test.YthgllfbigcoaiaaGreatDoorGramsPlain
import Derived.Test.YthgllfbigcoaiaaGreatDoorGramsGoes
namespace Go.Proofs.YthgllfbigcoaiaaGreatDoor
open Go Go.Eng Go.ChangeShapes Go.WideShapes Go.ChangeAt Go.ChangeMaps Go.RowKit Go.Lib
set_option maxRecDepth 100000
/-- THE CARD. -/
theorem checksGrams_holds : Rows.ChecksGramsCardSaid :=
  Claim7.holds_tied_plain_at .later [] _ _ _ _ checksGrams_said (fun _ h => by cases h) (by kernel_rfl) (fun _ h => by cases h) checksGrams_row_tie rfl ⟨rfl, rfl⟩ (by kernel_rfl) rfl checksGrams_plain checksGrams_goes
#print axioms checksGrams_holds
end Go.Proofs.YthgllfbigcoaiaaGreatDoor
