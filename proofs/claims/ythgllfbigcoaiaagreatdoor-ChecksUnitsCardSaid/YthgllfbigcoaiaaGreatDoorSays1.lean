/- The closed run of the layer's examples, in pieces: a call that is run by itself. -/
import Derived.Test.YthgllfbigcoaiaaGreatDoorProg
import Derived.Test.YthgllfbigcoaiaaGreatDoorEngY
import Derived.KernelRfl
import Derived.Test.YthgllfbigcoaiaaGreatDoorSaysD
namespace Go.Proofs.YthgllfbigcoaiaaGreatDoor
open Go Go.Eng Go.RowKit
set_option maxRecDepth 1000000
theorem k316_run : checkK [] Tryz.prog 10 1000000 k316 = true := by kernel_rfl
end Go.Proofs.YthgllfbigcoaiaaGreatDoor
