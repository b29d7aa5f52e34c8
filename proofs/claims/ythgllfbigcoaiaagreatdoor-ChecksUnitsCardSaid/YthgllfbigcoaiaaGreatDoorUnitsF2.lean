/- ChecksUnits: facts of the program that the row names. -/
import Derived.Test.YthgllfbigcoaiaaGreatDoorCk8
namespace Go.Proofs.YthgllfbigcoaiaaGreatDoor
open Go Go.Eng Go.ChangeShapes Go.WideShapes Go.ChangeAt Go.ChangeMaps Go.RowKit Go.Lib
set_option maxRecDepth 100000
theorem checksUnits_j3 : (Rows.checksUnitsRow.recurses == Tryz.pinned.checked.prog.recurses 7) = true := by kernel_rfl
theorem checksUnits_j4 : (Rows.checksUnitsRow.named == Tryz.pinned.checked.prog.varsNamed 7) = true := by kernel_rfl
end Go.Proofs.YthgllfbigcoaiaaGreatDoor
