/- The closed run of layer 1's example, in pieces: what is run. -/
import Derived.Test.YtnbeomclmggbiaaGreatDoorEngY
namespace Go.Proofs.YtnbeomclmggbiaaGreatDoor
open Go Go.Eng Go.RowKit
set_option maxRecDepth 1000000
noncomputable section
/-- The two tables of package docs. -/
def ntL : List Value := [(.int .u8 2), (.bool false), (.string ⟨#[60]⟩), (.string ⟨#[62]⟩), (.int .u8 2), (.bool true), (.string ⟨#[60, 43]⟩), (.string ⟨#[62]⟩), (.int .u8 3), (.bool false), (.string ⟨#[60, 47]⟩), (.string ⟨#[62]⟩), (.int .u8 3), (.bool true), (.string ⟨#[60, 47, 43]⟩), (.string ⟨#[62]⟩), (.int .u8 4), (.bool false), (.string ⟨#[60]⟩), (.string ⟨#[47, 62]⟩), (.int .u8 5), (.bool false), (.string ⟨#[123]⟩), (.string ⟨#[125]⟩)]
def clL : List Value := [(.int .u8 0), (.int .u8 0), (.int .u8 0), (.int .u8 0), (.int .u8 0), (.int .u8 0), (.int .u8 0), (.int .u8 0), (.int .u8 0), (.int .u8 0), (.int .u8 0), (.int .u8 0), (.int .u8 0), (.int .u8 0), (.int .u8 0), (.int .u8 0), (.int .u8 0), (.int .u8 0), (.int .u8 0), (.int .u8 0), (.int .u8 0), (.int .u8 0), (.int .u8 0), (.int .u8 0), (.int .u8 0), (.int .u8 0), (.int .u8 0), (.int .u8 0), (.int .u8 0), (.int .u8 0), (.int .u8 0), (.int .u8 0), (.int .u8 3), (.int .u8 4), (.int .u8 4), (.int .u8 4), (.int .u8 4), (.int .u8 4), (.int .u8 4), (.int .u8 4), (.int .u8 4), (.int .u8 4), (.int .u8 4), (.int .u8 4), (.int .u8 4), (.int .u8 4), (.int .u8 4), (.int .u8 4), (.int .u8 2), (.int .u8 2), (.int .u8 2), (.int .u8 2), (.int .u8 2), (.int .u8 2), (.int .u8 2), (.int .u8 2), (.int .u8 2), (.int .u8 2), (.int .u8 4), (.int .u8 4), (.int .u8 4), (.int .u8 4), (.int .u8 4), (.int .u8 4), (.int .u8 4), (.int .u8 1), (.int .u8 1), (.int .u8 1), (.int .u8 1), (.int .u8 1), (.int .u8 1), (.int .u8 1), (.int .u8 1), (.int .u8 1), (.int .u8 1), (.int .u8 1), (.int .u8 1), (.int .u8 1), (.int .u8 1), (.int .u8 1), (.int .u8 1), (.int .u8 1), (.int .u8 1), (.int .u8 1), (.int .u8 1), (.int .u8 1), (.int .u8 1), (.int .u8 1), (.int .u8 1), (.int .u8 1), (.int .u8 1), (.int .u8 4), (.int .u8 4), (.int .u8 4), (.int .u8 4), (.int .u8 4), (.int .u8 4), (.int .u8 1), (.int .u8 1), (.int .u8 1), (.int .u8 1), (.int .u8 1), (.int .u8 1), (.int .u8 1), (.int .u8 1), (.int .u8 1), (.int .u8 1), (.int .u8 1), (.int .u8 1), (.int .u8 1), (.int .u8 1), (.int .u8 1), (.int .u8 1), (.int .u8 1), (.int .u8 1), (.int .u8 1), (.int .u8 1), (.int .u8 1), (.int .u8 1), (.int .u8 1), (.int .u8 1), (.int .u8 1), (.int .u8 1), (.int .u8 4), (.int .u8 4), (.int .u8 4), (.int .u8 4), (.int .u8 0)]
def ntB : Blk := (1, ntL, 159, true)
def clB : Blk := (2, clL, 191, true)
def k522 : Known :=
  { fn := 37, args := [(.slice (some ⟨94, 0, none⟩) 2 2), (.slice (some ⟨96, 0, none⟩) 1 1)], n0 := 97,
    ins := [ntB,
      clB,
      (94, [(.string ⟨#[37, 98, 68, 114, 46, 37, 115]⟩), (.string ⟨#[]⟩), (.bool false), (.string ⟨#[37, 112, 37, 115]⟩), (.string ⟨#[37, 117]⟩), (.bool true)], 62, true),
      (96, [(.int .u8 1), (.string ⟨#[68, 114, 46, 32, 65, 32, 105, 115, 32, 105, 110, 46, 32, 71, 111]⟩), (.bool false)], 56, true)],
    n1 := 445, v := (.tuple #[(.slice (some ⟨432, 0, none⟩) 1 1), (.int .u8 0)]),
    outs := [(432, [(.int .i64 13)], 3, false)] }
def k1256 : Known :=
  { fn := 39, args := [(.slice (some ⟨681, 0, none⟩) 4 4), (.slice (some ⟨682, 0, none⟩) 2 2), (.slice (some ⟨683, 0, none⟩) 2 2)], n0 := 684,
    ins := [ntB,
      clB,
      (681, [(.int .u8 2), (.string ⟨#[98]⟩), (.bool false), (.int .u8 1), (.string ⟨#[114, 101, 100]⟩), (.bool false), (.int .u8 3), (.string ⟨#[98]⟩), (.bool false), (.int .u8 1), (.string ⟨#[32, 104, 111, 117, 115, 101]⟩), (.bool false)], 56, true),
      (682, [(.string ⟨#[99, 97, 115, 97]⟩), (.string ⟨#[114, 111, 106, 97]⟩)], 9, true),
      (683, [(.int .i64 0), (.int .i64 1), (.int .i64 1), (.int .i64 0)], 69, true)],
    n1 := 969, v := (.tuple #[(.slice (some ⟨968, 0, none⟩) 4 4), (.int .u8 0)]),
    outs := [(968, [(.int .u8 1), (.string ⟨#[99, 97, 115, 97, 32]⟩), (.bool false), (.int .u8 2), (.string ⟨#[98]⟩), (.bool false), (.int .u8 1), (.string ⟨#[114, 111, 106, 97]⟩), (.bool false), (.int .u8 3), (.string ⟨#[98]⟩), (.bool false)], 56, false)] }
def docsE : EM := ⟨6, Tr.lay .dead .leaf 0 [.dead, .cells ntL 159 false true, .cells clL 191 false true, .dead, .dead, .dead]⟩
end
end Go.Proofs.YtnbeomclmggbiaaGreatDoor
