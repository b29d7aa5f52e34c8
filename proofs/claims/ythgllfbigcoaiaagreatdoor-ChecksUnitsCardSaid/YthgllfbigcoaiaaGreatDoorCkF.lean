/- Facts of the program that every row of the seat names. -/
import Derived.Test.YthgllfbigcoaiaaGreatDoorCk8
namespace Go.Proofs.YthgllfbigcoaiaaGreatDoor
open Go Go.RowKit
set_option maxRecDepth 100000
theorem mayEnterP : Tryz.pinned.checked.prog.mayEnter = true := by kernel_rfl
theorem laidOutP : laidOutB Tryz.pinned.checked.prog = true := laid_out
theorem mapsRowedP : mapsRowed Tryz.pinned.checked.prog = true := by kernel_rfl
end Go.Proofs.YthgllfbigcoaiaaGreatDoor
