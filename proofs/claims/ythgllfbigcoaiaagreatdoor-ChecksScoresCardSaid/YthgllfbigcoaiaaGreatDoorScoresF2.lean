/- ChecksScores: facts of the program that the row names. -/
import Derived.Test.YthgllfbigcoaiaaGreatDoorCk8
namespace Go.Proofs.YthgllfbigcoaiaaGreatDoor
open Go Go.Eng Go.ChangeShapes Go.WideShapes Go.ChangeAt Go.ChangeMaps Go.RowKit Go.Lib
set_option maxRecDepth 100000
theorem checksScores_j3 : (Rows.checksScoresRow.recurses == Tryz.pinned.checked.prog.recurses 4) = true := by kernel_rfl
theorem checksScores_j4 : (Rows.checksScoresRow.named == Tryz.pinned.checked.prog.varsNamed 4) = true := by kernel_rfl
end Go.Proofs.YthgllfbigcoaiaaGreatDoor
