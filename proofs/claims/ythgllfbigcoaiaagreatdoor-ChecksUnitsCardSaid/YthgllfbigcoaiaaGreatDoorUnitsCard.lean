/- ChecksUnits returns true for any two texts and any numbers, in every world that the row speaks of: the score of two texts by their units, and the draws of a seed, are what the specification tells; the layer's examples are a closed run. No condition but the row's own. -/
import Derived.Test.YthgllfbigcoaiaaGreatDoorUnitsSaid
import Derived.Test.YthgllfbigcoaiaaGreatDoorUnitsPlain
import Derived.Test.YthgllfbigcoaiaaGreatDoorUnitsGoes
namespace Go.Proofs.YthgllfbigcoaiaaGreatDoor
open Go Go.Eng Go.ChangeShapes Go.WideShapes Go.ChangeAt Go.ChangeMaps Go.RowKit Go.Lib
set_option maxRecDepth 100000
/-- THE CARD. -/
theorem checksUnits_holds : Rows.ChecksUnitsCardSaid :=
  Claim7.holds_tied_plain_at .later [] _ _ _ _ checksUnits_said (fun _ h => by cases h) (by kernel_rfl) (fun _ h => by cases h) checksUnits_row_tie rfl ⟨rfl, rfl⟩ (by kernel_rfl) rfl checksUnits_plain checksUnits_goes
#print axioms checksUnits_holds
end Go.Proofs.YthgllfbigcoaiaaGreatDoor
