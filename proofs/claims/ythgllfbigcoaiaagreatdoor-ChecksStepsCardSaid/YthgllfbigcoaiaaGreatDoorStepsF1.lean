/- ChecksSteps: facts of the program that the row names. -/
import Derived.Test.YthgllfbigcoaiaaGreatDoorCk8
namespace Go.Proofs.YthgllfbigcoaiaaGreatDoor
open Go Go.Eng Go.ChangeShapes Go.WideShapes Go.ChangeAt Go.ChangeMaps Go.RowKit Go.Lib
set_option maxRecDepth 100000
theorem checksSteps_j1 : (Rows.checksStepsRow.inPlace == Tryz.pinned.checked.prog.inPlace 6) = true := by kernel_rfl
theorem checksSteps_j2 : (Rows.checksStepsRow.unfollowed == Tryz.pinned.checked.prog.unfollowed 6) = true := by kernel_rfl
end Go.Proofs.YthgllfbigcoaiaaGreatDoor
