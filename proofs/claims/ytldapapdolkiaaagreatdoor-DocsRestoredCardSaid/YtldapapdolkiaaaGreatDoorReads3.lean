/- The closed run of layer 1's example, in pieces: the rest of it. -/
import Derived.Test.YtldapapdolkiaaaGreatDoorProg
import Derived.Test.YtldapapdolkiaaaGreatDoorEngY
import Derived.KernelRfl
import Derived.Test.YtldapapdolkiaaaGreatDoorReadsD
namespace Go.Proofs.YtldapapdolkiaaaGreatDoor
open Go Go.Eng Go.RowKit
set_option maxRecDepth 1000000
theorem jTn:okB (jWB [k522,k1256] Tryz.prog 5 1000000 ⟨10,Slots.ofL [] (Tryz.f10.ntmps-0),[.code (Tryz.f10.body.getD .skip)],[],false,none⟩ jWn) true=true:=by kernel_rfl
end Go.Proofs.YtldapapdolkiaaaGreatDoor
