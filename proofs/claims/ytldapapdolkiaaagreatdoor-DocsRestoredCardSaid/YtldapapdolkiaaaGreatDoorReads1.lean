/- The closed run of layer 1's example, in pieces: a call that is run by itself. -/
import Derived.Test.YtldapapdolkiaaaGreatDoorProg
import Derived.Test.YtldapapdolkiaaaGreatDoorEngY
import Derived.KernelRfl
import Derived.Test.YtldapapdolkiaaaGreatDoorReadsD
namespace Go.Proofs.YtldapapdolkiaaaGreatDoor
open Go Go.Eng Go.RowKit
set_option maxRecDepth 1000000
theorem jPE:jKh [] Tryz.prog 5 1000000 k522=true:=by kernel_rfl
end Go.Proofs.YtldapapdolkiaaaGreatDoor
