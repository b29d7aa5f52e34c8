/- Contracts of Go's library, laid at this program. No condition but those that each names. -/
import Derived.Shelf.Unicode.DecodeSlow
import Derived.Shelf.Unicode.DecodeAny
import Derived.Test.YtldapapdolkiaaaGreatDoorProg
namespace Go.Proofs
open Go.Shelf
def YtldapapdolkiaaaGreatDoor.lays260_ren:Go.Shelf.Ren:=⟨fun | 260=>173 | n=>n,fun | 9=>9 | 21=>21 | 3=>3 | 4=>4 | 5=>5 | 119=>236 | 0=>0 | 46=>240 | 139=>239 | 138=>238 | n=>n,fun | 3=>2 | 4=>3 | n=>n⟩
open Go.RowKit Go.Lib in
def YtldapapdolkiaaaGreatDoor.lays197_ren:Go.Shelf.Ren:=⟨fun | 197=>141 | 260=>173 | n=>n,fun | 9=>9 | 21=>21 | 3=>3 | 4=>4 | 5=>5 | 105=>200 | 119=>236 | 0=>0 | 46=>240 | 139=>239 | 138=>238 | n=>n,fun | 3=>2 | 4=>3 | n=>n⟩
theorem YtldapapdolkiaaaGreatDoor.lays197:Go.Proofs.Lays.n197 Tryz.prog YtldapapdolkiaaaGreatDoor.lays197_ren:={
 mixed:=by kernel_rfl
 f197:=Tryz.func141.trans (congrArg some (by kernel_rfl))
 f260:=Tryz.func173.trans (congrArg some (by kernel_rfl))
 t0:=Tryz.underlying0
 a0:=Tryz.isAgg0
 z0:=Tryz.sizeOf0
 v0:=Tryz.zeroValue0
 t3:=Tryz.underlying3
 a3:=Tryz.isAgg3
 z3:=Tryz.sizeOf3
 v3:=Tryz.zeroValue3
 t4:=Tryz.underlying4
 a4:=Tryz.isAgg4
 z4:=Tryz.sizeOf4
 v4:=Tryz.zeroValue4
 t5:=Tryz.underlying5
 a5:=Tryz.isAgg5
 z5:=Tryz.sizeOf5
 v5:=Tryz.zeroValue5
 t9:=Tryz.underlying9
 a9:=Tryz.isAgg9
 z9:=Tryz.sizeOf9
 v9:=Tryz.zeroValue9
 t21:=Tryz.underlying21
 a21:=Tryz.isAgg21
 z21:=Tryz.sizeOf21
 v21:=Tryz.zeroValue21
 t46:=Tryz.underlying240
 a46:=Tryz.isAgg240
 z46:=Tryz.sizeOf240
 v46:=Tryz.zeroValue240
 t105:=Tryz.underlying200
 a105:=Tryz.isAgg200
 z105:=Tryz.sizeOf200
 v105:=Tryz.zeroValue200
 t119:=Tryz.underlying236
 a119:=Tryz.isAgg236
 z119:=Tryz.sizeOf236
 t138:=Tryz.underlying238
 a138:=Tryz.isAgg238
 z138:=Tryz.sizeOf238
 v138:=Tryz.zeroValue238
 t139:=Tryz.underlying239
 a139:=Tryz.isAgg239
 z139:=Tryz.sizeOf239
 v139:=Tryz.zeroValue239
 g3:=by kernel_rfl
 g4:=by kernel_rfl }
open Go.RowKit Go.Lib in
theorem YtldapapdolkiaaaGreatDoor.utf8_DecodeRuneInString (s:ByteArray)(w:World)(hT:Lib.Utf8Tabs 2 3 w) :
 Calls Tryz.prog 141 #[.string s] w fun e w'=>e=.returned (.tuple #[.int .i32 (Lib.decodeGo s).1,.int .i64 (Lib.decodeGo s).2])∧Below w.heap.size w w':=Any.utf8_DecodeRuneInString YtldapapdolkiaaaGreatDoor.lays197 s w hT
end Go.Proofs
