/- ChecksMatches: facts of the program that the row names. -/
import Derived.Test.YthgllfbigcoaiaaGreatDoorCk8
namespace Go.Proofs.YthgllfbigcoaiaaGreatDoor
open Go Go.Eng Go.ChangeShapes Go.WideShapes Go.ChangeAt Go.ChangeMaps Go.RowKit Go.Lib
set_option maxRecDepth 100000
theorem checksMatches_j3 : (Rows.checksMatchesRow.recurses == Tryz.pinned.checked.prog.recurses 3) = true := by kernel_rfl
theorem checksMatches_j4 : (Rows.checksMatchesRow.named == Tryz.pinned.checked.prog.varsNamed 3) = true := by kernel_rfl
end Go.Proofs.YthgllfbigcoaiaaGreatDoor
