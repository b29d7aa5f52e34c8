/- The closed run of the layer's examples, in pieces: what is run. -/
import Derived.Test.YthgllfbigcoaiaaGreatDoorEngY
namespace Go.Proofs.YthgllfbigcoaiaaGreatDoor
open Go Go.Eng Go.RowKit
set_option maxRecDepth 1000000
noncomputable section
/-- The two tables of package docs. -/
def ntL : List Value := [(.int .u8 2), (.bool false), (.string ⟨#[60]⟩), (.string ⟨#[62]⟩), (.int .u8 2), (.bool true), (.string ⟨#[60, 43]⟩), (.string ⟨#[62]⟩), (.int .u8 3), (.bool false), (.string ⟨#[60, 47]⟩), (.string ⟨#[62]⟩), (.int .u8 3), (.bool true), (.string ⟨#[60, 47, 43]⟩), (.string ⟨#[62]⟩), (.int .u8 4), (.bool false), (.string ⟨#[60]⟩), (.string ⟨#[47, 62]⟩), (.int .u8 5), (.bool false), (.string ⟨#[123]⟩), (.string ⟨#[125]⟩)]
def clL : List Value := [(.int .u8 0), (.int .u8 0), (.int .u8 0), (.int .u8 0), (.int .u8 0), (.int .u8 0), (.int .u8 0), (.int .u8 0), (.int .u8 0), (.int .u8 0), (.int .u8 0), (.int .u8 0), (.int .u8 0), (.int .u8 0), (.int .u8 0), (.int .u8 0), (.int .u8 0), (.int .u8 0), (.int .u8 0), (.int .u8 0), (.int .u8 0), (.int .u8 0), (.int .u8 0), (.int .u8 0), (.int .u8 0), (.int .u8 0), (.int .u8 0), (.int .u8 0), (.int .u8 0), (.int .u8 0), (.int .u8 0), (.int .u8 0), (.int .u8 3), (.int .u8 4), (.int .u8 4), (.int .u8 4), (.int .u8 4), (.int .u8 4), (.int .u8 4), (.int .u8 4), (.int .u8 4), (.int .u8 4), (.int .u8 4), (.int .u8 4), (.int .u8 4), (.int .u8 4), (.int .u8 4), (.int .u8 4), (.int .u8 2), (.int .u8 2), (.int .u8 2), (.int .u8 2), (.int .u8 2), (.int .u8 2), (.int .u8 2), (.int .u8 2), (.int .u8 2), (.int .u8 2), (.int .u8 4), (.int .u8 4), (.int .u8 4), (.int .u8 4), (.int .u8 4), (.int .u8 4), (.int .u8 4), (.int .u8 1), (.int .u8 1), (.int .u8 1), (.int .u8 1), (.int .u8 1), (.int .u8 1), (.int .u8 1), (.int .u8 1), (.int .u8 1), (.int .u8 1), (.int .u8 1), (.int .u8 1), (.int .u8 1), (.int .u8 1), (.int .u8 1), (.int .u8 1), (.int .u8 1), (.int .u8 1), (.int .u8 1), (.int .u8 1), (.int .u8 1), (.int .u8 1), (.int .u8 1), (.int .u8 1), (.int .u8 1), (.int .u8 1), (.int .u8 4), (.int .u8 4), (.int .u8 4), (.int .u8 4), (.int .u8 4), (.int .u8 4), (.int .u8 1), (.int .u8 1), (.int .u8 1), (.int .u8 1), (.int .u8 1), (.int .u8 1), (.int .u8 1), (.int .u8 1), (.int .u8 1), (.int .u8 1), (.int .u8 1), (.int .u8 1), (.int .u8 1), (.int .u8 1), (.int .u8 1), (.int .u8 1), (.int .u8 1), (.int .u8 1), (.int .u8 1), (.int .u8 1), (.int .u8 1), (.int .u8 1), (.int .u8 1), (.int .u8 1), (.int .u8 1), (.int .u8 1), (.int .u8 4), (.int .u8 4), (.int .u8 4), (.int .u8 4), (.int .u8 0)]
def ntB : Blk := (0, ntL, 338, true)
def clB : Blk := (1, clL, 345, true)
def k316 : Known :=
  { fn := 73, args := [(.string ⟨#[97, 108, 108, 32, 110, 32, 105, 110, 32, 110, 117, 109, 98, 101, 114, 115, 40, 115, 111, 117, 114, 99, 101, 41, 58, 32, 110, 32, 105, 110, 32, 110, 117, 109, 98, 101, 114, 115, 40, 116, 97, 114, 103, 101, 116, 41]⟩)], n0 := 13,
    ins := [ntB,
      clB],
    n1 := 385, v := (.tuple #[(.agg #[(.int .u8 15), (.string ⟨#[110]⟩), (.int .i64 0), (.slice (some ⟨310, 0, none⟩) 2 2)]), (.int .i64 0), (.int .u8 0)]),
    outs := [(202, [(.int .u8 4), (.string ⟨#[]⟩), (.int .i64 0), (.slice none 0 0)], 135, true),
      (296, [(.int .u8 5), (.string ⟨#[]⟩), (.int .i64 0), (.slice none 0 0)], 135, true),
      (309, [(.int .u8 3), (.string ⟨#[110]⟩), (.int .i64 0), (.slice none 0 0), (.int .u8 6), (.string ⟨#[110, 117, 109, 98, 101, 114, 115]⟩), (.int .i64 0), (.slice (some ⟨296, 0, none⟩) 1 1)], 135, true),
      (310, [(.int .u8 6), (.string ⟨#[110, 117, 109, 98, 101, 114, 115]⟩), (.int .i64 0), (.slice (some ⟨202, 0, none⟩) 1 1), (.int .u8 10), (.string ⟨#[105, 110]⟩), (.int .i64 0), (.slice (some ⟨309, 0, none⟩) 2 2)], 135, true)] }
def k810 : Known :=
  { fn := 61, args := [(.agg #[(.slice (some ⟨10, 0, none⟩) 1 1), (.slice (some ⟨11, 0, none⟩) 1 1)])], n0 := 510,
    ins := [ntB,
      clB,
      (10, [(.int .u8 1), (.string ⟨#[51, 32, 111, 102, 32, 52]⟩), (.bool false)], 108, true),
      (11, [(.int .u8 1), (.string ⟨#[52, 32, 118, 111, 110, 32, 51]⟩), (.bool false)], 108, true)],
    n1 := 703, v := (.tuple #[(.pointer (some ⟨702, 0, none⟩)), (.int .u8 0)]),
    outs := [(557, [(.string ⟨#[51]⟩), (.string ⟨#[111, 102]⟩), (.string ⟨#[52]⟩)], 9, false),
      (561, [(.slice (some ⟨10, 0, none⟩) 1 1), (.slice (some ⟨557, 0, none⟩) 3 3), (.slice none 0 0), (.slice none 0 0), (.slice (some ⟨604, 0, none⟩) 2 2), (.string ⟨#[51, 32, 111, 102, 32, 52]⟩), (.int .i64 6)], 190, true),
      (604, [(.string ⟨#[51]⟩), (.string ⟨#[52]⟩)], 9, false),
      (651, [(.string ⟨#[52]⟩), (.string ⟨#[118, 111, 110]⟩), (.string ⟨#[51]⟩)], 9, false),
      (655, [(.slice (some ⟨11, 0, none⟩) 1 1), (.slice (some ⟨651, 0, none⟩) 3 3), (.slice none 0 0), (.slice none 0 0), (.slice (some ⟨701, 0, none⟩) 2 2), (.string ⟨#[52, 32, 118, 111, 110, 32, 51]⟩), (.int .i64 7)], 190, true),
      (701, [(.string ⟨#[52]⟩), (.string ⟨#[51]⟩)], 9, false),
      (702, [(.pointer (some ⟨561, 0, none⟩)), (.pointer (some ⟨655, 0, none⟩)), (.slice none 0 0), (.slice none 0 0)], 147, true)] }
def k1250 : Known :=
  { fn := 73, args := [(.string ⟨#[108, 101, 110, 103, 116, 104, 40, 116, 97, 114, 103, 101, 116, 41, 32, 60, 32, 51, 32, 111, 114, 32, 108, 97, 115, 116, 40, 119, 111, 114, 100, 115, 40, 116, 97, 114, 103, 101, 116, 41, 41, 32, 61, 61, 32, 34, 46, 34]⟩)], n0 := 759,
    ins := [ntB,
      clB],
    n1 := 1245, v := (.tuple #[(.agg #[(.int .u8 14), (.string ⟨#[]⟩), (.int .i64 0), (.slice (some ⟨1150, 0, none⟩) 2 2)]), (.int .i64 0), (.int .u8 0)]),
    outs := [(976, [(.int .u8 5), (.string ⟨#[]⟩), (.int .i64 0), (.slice none 0 0)], 135, true),
      (1017, [(.int .u8 6), (.string ⟨#[108, 101, 110, 103, 116, 104]⟩), (.int .i64 0), (.slice (some ⟨976, 0, none⟩) 1 1), (.int .u8 1), (.string ⟨#[]⟩), (.int .i64 3), (.slice none 0 0)], 135, true),
      (1091, [(.int .u8 5), (.string ⟨#[]⟩), (.int .i64 0), (.slice none 0 0)], 135, true),
      (1104, [(.int .u8 6), (.string ⟨#[119, 111, 114, 100, 115]⟩), (.int .i64 0), (.slice (some ⟨1091, 0, none⟩) 1 1)], 135, true),
      (1144, [(.int .u8 6), (.string ⟨#[108, 97, 115, 116]⟩), (.int .i64 0), (.slice (some ⟨1104, 0, none⟩) 1 1), (.int .u8 2), (.string ⟨#[46]⟩), (.int .i64 0), (.slice none 0 0)], 135, true),
      (1150, [(.int .u8 10), (.string ⟨#[60]⟩), (.int .i64 0), (.slice (some ⟨1017, 0, none⟩) 2 2), (.int .u8 10), (.string ⟨#[61, 61]⟩), (.int .i64 0), (.slice (some ⟨1144, 0, none⟩) 2 2)], 135, false)] }
def k1599 : Known :=
  { fn := 33, args := [(.string ⟨#[108, 101, 110, 103, 116, 104, 40, 116, 97, 114, 103, 101, 116, 41, 32, 60, 32, 51, 32, 111, 114, 32, 108, 97, 115, 116, 40, 119, 111, 114, 100, 115, 40, 116, 97, 114, 103, 101, 116, 41, 41, 32, 61, 61, 32, 34, 46, 34]⟩), (.agg #[(.slice (some ⟨756, 0, none⟩) 1 1), (.slice (some ⟨757, 0, none⟩) 1 1)])], n0 := 758,
    ins := [ntB,
      clB,
      (756, [(.int .u8 1), (.string ⟨#[120]⟩), (.bool false)], 108, true),
      (757, [(.int .u8 1), (.string ⟨#[97, 98, 99]⟩), (.bool false)], 108, true)],
    n1 := 1603, v := (.tuple #[(.bool false), (.slice (some ⟨1602, 0, none⟩) 2 2), (.int .u8 0)]),
    outs := [(1602, [(.string ⟨#[108, 101, 110, 103, 116, 104, 40, 116, 97, 114, 103, 101, 116, 41, 32, 60, 32, 51]⟩), (.slice none 0 0), (.bool false), (.string ⟨#[108, 97, 115, 116, 40, 119, 111, 114, 100, 115, 40, 116, 97, 114, 103, 101, 116, 41, 41, 32, 61, 61, 32, 34, 46, 34]⟩), (.slice none 0 0), (.bool false)], 69, false)] }
def k1765 : Known :=
  { fn := 39, args := [(.slice (some ⟨1603, 0, none⟩) 3 3), (.slice (some ⟨1604, 0, none⟩) 3 3)], n0 := 1605,
    ins := [ntB,
      clB,
      (1603, [(.string ⟨#[97]⟩), (.string ⟨#[98]⟩), (.string ⟨#[99]⟩)], 9, true),
      (1604, [(.string ⟨#[97]⟩), (.string ⟨#[99]⟩), (.string ⟨#[100]⟩)], 9, true)],
    n1 := 1702, v := (.agg #[(.slice (some ⟨1603, 0, none⟩) 3 3), (.slice (some ⟨1604, 0, none⟩) 3 3), (.slice (some ⟨1606, 0, none⟩) 4 4)]),
    outs := [(1606, [(.slice (some ⟨1677, 0, none⟩) 4 4), (.slice (some ⟨1652, 0, none⟩) 4 4), (.slice (some ⟨1627, 0, none⟩) 4 4), (.slice (some ⟨1608, 0, none⟩) 4 4)], 46, true),
      (1608, [(.int .i64 3), (.int .i64 2), (.int .i64 1), (.int .i64 0)], 3, true),
      (1627, [(.int .i64 2), (.int .i64 1), (.int .i64 1), (.int .i64 1)], 3, true),
      (1652, [(.int .i64 2), (.int .i64 2), (.int .i64 2), (.int .i64 2)], 3, true),
      (1677, [(.int .i64 2), (.int .i64 3), (.int .i64 3), (.int .i64 3)], 3, true)] }
def docsE : EM := ⟨10, Tr.lay .dead .leaf 0 [.cells ntL 338 false true, .cells clL 345 false true, .dead, .dead, .dead, .dead, .dead, .dead, .dead, .dead]⟩
end
end Go.Proofs.YthgllfbigcoaiaaGreatDoor
