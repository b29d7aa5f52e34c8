/- ChecksGrams: facts of the program that the row names. -/
import Derived.Test.YthgllfbigcoaiaaGreatDoorCk8
namespace Go.Proofs.YthgllfbigcoaiaaGreatDoor
open Go Go.Eng Go.ChangeShapes Go.WideShapes Go.ChangeAt Go.ChangeMaps Go.RowKit Go.Lib
set_option maxRecDepth 100000
theorem checksGrams_j3 : (Rows.checksGramsRow.recurses == Tryz.pinned.checked.prog.recurses 5) = true := by kernel_rfl
theorem checksGrams_j4 : (Rows.checksGramsRow.named == Tryz.pinned.checked.prog.varsNamed 5) = true := by kernel_rfl
end Go.Proofs.YthgllfbigcoaiaaGreatDoor
