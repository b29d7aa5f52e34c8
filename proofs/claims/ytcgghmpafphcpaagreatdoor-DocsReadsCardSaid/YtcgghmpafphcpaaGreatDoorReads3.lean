/- The closed run of layer 1's example, in pieces: the rest of it. -/
import Derived.Test.YtcgghmpafphcpaaGreatDoorProg
import Derived.Test.YtcgghmpafphcpaaGreatDoorEngY
import Derived.KernelRfl
import Derived.Test.YtcgghmpafphcpaaGreatDoorReadsD
namespace Go.Proofs.YtcgghmpafphcpaaGreatDoor
open Go Go.Eng Go.RowKit
set_option maxRecDepth 1000000
theorem reads_run : okB (runK [k522, k1256] Tryz.prog 5 1000000 ⟨7, Slots.ofL [] (Tryz.f7.ntmps - 0), [.code (Tryz.f7.body.getD .skip)], [], false, none⟩ docsE) true = true := by kernel_rfl
end Go.Proofs.YtcgghmpafphcpaaGreatDoor
