/- The closed run of the layer's examples, in pieces: the rest of it. -/
import Derived.Test.YthgllfbigcoaiaaGreatDoorProg
import Derived.Test.YthgllfbigcoaiaaGreatDoorEngY
import Derived.KernelRfl
import Derived.Test.YthgllfbigcoaiaaGreatDoorSaysD
namespace Go.Proofs.YthgllfbigcoaiaaGreatDoor
open Go Go.Eng Go.RowKit
set_option maxRecDepth 1000000
theorem says_run : okB (runK [k316, k810, k1599, k1765] Tryz.prog 10 1000000 ⟨11, Slots.ofL [] (Tryz.f11.ntmps - 0), [.code (Tryz.f11.body.getD .skip)], [], false, none⟩ docsE) true = true := by kernel_rfl
end Go.Proofs.YthgllfbigcoaiaaGreatDoor
