/- The closed run of layer 1's example, in pieces: a call that is run by itself. -/
import Derived.Test.YtnbeomclmggbiaaGreatDoorProg
import Derived.Test.YtnbeomclmggbiaaGreatDoorEngY
import Derived.KernelRfl
import Derived.Test.YtnbeomclmggbiaaGreatDoorReadsD
namespace Go.Proofs.YtnbeomclmggbiaaGreatDoor
open Go Go.Eng Go.RowKit
set_option maxRecDepth 1000000
theorem k522_run : checkK [] Tryz.prog 6 1000000 k522 = true := by kernel_rfl
end Go.Proofs.YtnbeomclmggbiaaGreatDoor
