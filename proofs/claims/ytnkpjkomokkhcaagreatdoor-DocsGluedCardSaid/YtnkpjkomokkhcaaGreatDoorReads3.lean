/- The closed run of layer 1's example, in pieces: the rest of it. -/
import Derived.Test.YtnkpjkomokkhcaaGreatDoorProg
import Derived.Test.YtnkpjkomokkhcaaGreatDoorEngY
import Derived.KernelRfl
import Derived.Test.YtnkpjkomokkhcaaGreatDoorReadsD
namespace Go.Proofs.YtnkpjkomokkhcaaGreatDoor
open Go Go.Eng Go.RowKit
set_option maxRecDepth 1000000
theorem reads_run : okB (runK [k522, k1256] Tryz.prog 5 1000000 ⟨8, Slots.ofL [] (Tryz.f8.ntmps - 0), [.code (Tryz.f8.body.getD .skip)], [], false, none⟩ docsE) true = true := by kernel_rfl
end Go.Proofs.YtnkpjkomokkhcaaGreatDoor
