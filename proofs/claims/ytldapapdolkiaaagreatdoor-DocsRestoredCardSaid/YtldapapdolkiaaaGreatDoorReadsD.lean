/- The closed run of layer 1's example, in pieces: what is run. -/
import Derived.Test.YtldapapdolkiaaaGreatDoorEngY
namespace Go.Proofs.YtldapapdolkiaaaGreatDoor
open Go Go.Eng Go.RowKit
set_option maxRecDepth 1000000
noncomputable section
def ntL:List Value:=[(.int .u8 2),(.bool false),(.string ⟨#[60]⟩),(.string ⟨#[62]⟩),(.int .u8 2),(.bool true),(.string ⟨#[60,43]⟩),(.string ⟨#[62]⟩),(.int .u8 3),(.bool false),(.string ⟨#[60,47]⟩),(.string ⟨#[62]⟩),(.int .u8 3),(.bool true),(.string ⟨#[60,47,43]⟩),(.string ⟨#[62]⟩),(.int .u8 4),(.bool false),(.string ⟨#[60]⟩),(.string ⟨#[47,62]⟩),(.int .u8 5),(.bool false),(.string ⟨#[123]⟩),(.string ⟨#[125]⟩)]
def clL:List Value:=[(.int .u8 0),(.int .u8 0),(.int .u8 0),(.int .u8 0),(.int .u8 0),(.int .u8 0),(.int .u8 0),(.int .u8 0),(.int .u8 0),(.int .u8 0),(.int .u8 0),(.int .u8 0),(.int .u8 0),(.int .u8 0),(.int .u8 0),(.int .u8 0),(.int .u8 0),(.int .u8 0),(.int .u8 0),(.int .u8 0),(.int .u8 0),(.int .u8 0),(.int .u8 0),(.int .u8 0),(.int .u8 0),(.int .u8 0),(.int .u8 0),(.int .u8 0),(.int .u8 0),(.int .u8 0),(.int .u8 0),(.int .u8 0),(.int .u8 3),(.int .u8 4),(.int .u8 4),(.int .u8 4),(.int .u8 4),(.int .u8 4),(.int .u8 4),(.int .u8 4),(.int .u8 4),(.int .u8 4),(.int .u8 4),(.int .u8 4),(.int .u8 4),(.int .u8 4),(.int .u8 4),(.int .u8 4),(.int .u8 2),(.int .u8 2),(.int .u8 2),(.int .u8 2),(.int .u8 2),(.int .u8 2),(.int .u8 2),(.int .u8 2),(.int .u8 2),(.int .u8 2),(.int .u8 4),(.int .u8 4),(.int .u8 4),(.int .u8 4),(.int .u8 4),(.int .u8 4),(.int .u8 4),(.int .u8 1),(.int .u8 1),(.int .u8 1),(.int .u8 1),(.int .u8 1),(.int .u8 1),(.int .u8 1),(.int .u8 1),(.int .u8 1),(.int .u8 1),(.int .u8 1),(.int .u8 1),(.int .u8 1),(.int .u8 1),(.int .u8 1),(.int .u8 1),(.int .u8 1),(.int .u8 1),(.int .u8 1),(.int .u8 1),(.int .u8 1),(.int .u8 1),(.int .u8 1),(.int .u8 1),(.int .u8 1),(.int .u8 1),(.int .u8 4),(.int .u8 4),(.int .u8 4),(.int .u8 4),(.int .u8 4),(.int .u8 4),(.int .u8 1),(.int .u8 1),(.int .u8 1),(.int .u8 1),(.int .u8 1),(.int .u8 1),(.int .u8 1),(.int .u8 1),(.int .u8 1),(.int .u8 1),(.int .u8 1),(.int .u8 1),(.int .u8 1),(.int .u8 1),(.int .u8 1),(.int .u8 1),(.int .u8 1),(.int .u8 1),(.int .u8 1),(.int .u8 1),(.int .u8 1),(.int .u8 1),(.int .u8 1),(.int .u8 1),(.int .u8 1),(.int .u8 1),(.int .u8 4),(.int .u8 4),(.int .u8 4),(.int .u8 4),(.int .u8 0)]
def ntB:Blk:=(0,ntL,219,true)
def clB:Blk:=(1,clL,220,true)
def k522:Known :=
 { fn:=36,args:=[(.slice (some ⟨93,0,none⟩) 2 2),(.slice (some ⟨95,0,none⟩) 1 1)],n0:=96,
   ins:=[ntB,
    clB,
    (93,[(.string ⟨#[37,98,68,114,46,37,115]⟩),(.string ⟨#[]⟩),(.bool false),(.string ⟨#[37,112,37,115]⟩),(.string ⟨#[37,117]⟩),(.bool true)],72,true),
    (95,[(.int .u8 1),(.string ⟨#[68,114,46,32,65,32,105,115,32,105,110,46,32,71,111]⟩),(.bool false)],76,true)],
   n1:=444,v:=(.tuple #[(.slice (some ⟨431,0,none⟩) 1 1),(.int .u8 0)]),
   outs:=[(431,[(.int .i64 13)],3,false)] }
def k1256:Known :=
 { fn:=20,args:=[(.slice (some ⟨680,0,none⟩) 4 4),(.slice (some ⟨681,0,none⟩) 2 2),(.slice (some ⟨682,0,none⟩) 2 2)],n0:=683,
   ins:=[ntB,
    clB,
    (680,[(.int .u8 2),(.string ⟨#[98]⟩),(.bool false),(.int .u8 1),(.string ⟨#[114,101,100]⟩),(.bool false),(.int .u8 3),(.string ⟨#[98]⟩),(.bool false),(.int .u8 1),(.string ⟨#[32,104,111,117,115,101]⟩),(.bool false)],76,true),
    (681,[(.string ⟨#[99,97,115,97]⟩),(.string ⟨#[114,111,106,97]⟩)],9,true),
    (682,[(.int .i64 0),(.int .i64 1),(.int .i64 1),(.int .i64 0)],69,true)],
   n1:=968,v:=(.tuple #[(.slice (some ⟨967,0,none⟩) 4 4),(.int .u8 0)]),
   outs:=[(967,[(.int .u8 1),(.string ⟨#[99,97,115,97,32]⟩),(.bool false),(.int .u8 2),(.string ⟨#[98]⟩),(.bool false),(.int .u8 1),(.string ⟨#[114,111,106,97]⟩),(.bool false),(.int .u8 3),(.string ⟨#[98]⟩),(.bool false)],76,false)] }
def jWn:EM:=⟨5,Tr.lay .dead .leaf 0 [.cells ntL 219 false true,.cells clL 220 false true,.dead,.dead,.dead]⟩
end
end Go.Proofs.YtldapapdolkiaaaGreatDoor
