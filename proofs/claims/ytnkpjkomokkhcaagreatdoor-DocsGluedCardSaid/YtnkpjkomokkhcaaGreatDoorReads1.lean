/- The closed run of layer 1's example, in pieces: a call that is run by itself. -/
import Derived.Test.YtnkpjkomokkhcaaGreatDoorProg
import Derived.Test.YtnkpjkomokkhcaaGreatDoorEngY
import Derived.KernelRfl
import Derived.Test.YtnkpjkomokkhcaaGreatDoorReadsD
namespace Go.Proofs.YtnkpjkomokkhcaaGreatDoor
open Go Go.Eng Go.RowKit
set_option maxRecDepth 1000000
theorem k522_run : checkK [] Tryz.prog 5 1000000 k522 = true := by kernel_rfl
end Go.Proofs.YtnkpjkomokkhcaaGreatDoor
