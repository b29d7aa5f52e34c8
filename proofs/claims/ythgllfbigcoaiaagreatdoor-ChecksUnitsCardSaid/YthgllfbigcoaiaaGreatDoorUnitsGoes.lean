/- ChecksUnits: what the card asks of the program. -/
import Derived.Test.YthgllfbigcoaiaaGreatDoorCk8
namespace Go.Proofs.YthgllfbigcoaiaaGreatDoor
open Go Go.Eng Go.ChangeShapes Go.WideShapes Go.ChangeAt Go.ChangeMaps Go.RowKit Go.Lib
set_option maxRecDepth 100000
theorem checksUnits_goes : false = Rows.checksUnitsRow.goesBy Tryz.pinned.checked.prog := by kernel_rfl
end Go.Proofs.YthgllfbigcoaiaaGreatDoor
