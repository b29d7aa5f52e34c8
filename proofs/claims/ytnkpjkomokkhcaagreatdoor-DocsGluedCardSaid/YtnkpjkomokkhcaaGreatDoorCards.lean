/-
  DERIVED. GIVEN WITH THE SEED: THE CARDS: each row of YtnkpjkomokkhcaaGreatDoorRows.lean that lists a variable, with what it lists TIED to the program's text (the seventh form; the later family's looks); each row that meets fmt, with fmt's text TOLD by the authors' own Lean function (tested against real Go, not proved from fmt's source: count such statements apart). THE CARD IS WHAT COUNTS. Prove the row's statement (the work); the ties are given (YtnkpjkomokkhcaaGreatDoorTie.lean); close each card by the builder's one call (the guide's Derived/Test/ToyasCard.lean, 'card_holds'). Laid BY PROGRAM, IN A SANDBOX (cutbox-door.mjs). By AI agents, Wed Nov 11 2026. No macro, syntax, notation, axiom, sorry.
-/
import Derived.Test.YtnkpjkomokkhcaaGreatDoorRows
import GoSem.ClaimSeven
namespace Go.Proofs.YtnkpjkomokkhcaaGreatDoor
namespace Rows

/-- THE TIED CARD OF 'truchmanlaw01.DocsCuts'. -/
def docsCutsCard : Claim7 := { stood := { row := docsCutsRow, standIns := [], harness := (true, "496388ef10238d4babafd03f8fb1d2ba7068a2e132efc8bfeb403586ae4e0153"), looks := false }, kinds := [], alts := [], laidByText := true, laidKinds := [.data, .data, .data, .pinned], laidTests := true, laidLooks := .later }
def DocsCutsCardSaid : Prop := Claim7.holds Tryz.pinned (.plain (OpenSpec.ofChange docsCutsSpec)) docsCutsCard

/-- THE TIED CARD OF 'truchmanlaw01.DocsGlued'. -/
def docsGluedCard : Claim7 := { stood := { row := docsGluedRow, standIns := [], harness := (true, "496388ef10238d4babafd03f8fb1d2ba7068a2e132efc8bfeb403586ae4e0153"), looks := false }, kinds := [], alts := [], laidByText := true, laidKinds := [.data, .data, .data, .pinned], laidTests := true, laidLooks := .later }
def DocsGluedCardSaid : Prop := Claim7.holds Tryz.pinned (.plain (OpenSpec.ofChange docsGluedSpec)) docsGluedCard

/-- THE TIED CARD OF 'truchmanlaw01.DocsBreaks'. -/
def docsBreaksCard : Claim7 := { stood := { row := docsBreaksRow, standIns := [], harness := (true, "496388ef10238d4babafd03f8fb1d2ba7068a2e132efc8bfeb403586ae4e0153"), looks := false }, kinds := [], alts := [], laidByText := true, laidKinds := [.data, .data, .data, .pinned], laidTests := true, laidLooks := .later }
def DocsBreaksCardSaid : Prop := Claim7.holds Tryz.pinned (.plain (OpenSpec.ofChange docsBreaksSpec)) docsBreaksCard

/-- THE TIED CARD OF 'truchmanlaw01.DocsFits'. -/
def docsFitsCard : Claim7 := { stood := { row := docsFitsRow, standIns := [], harness := (true, "496388ef10238d4babafd03f8fb1d2ba7068a2e132efc8bfeb403586ae4e0153"), looks := false }, kinds := [], alts := [], laidByText := true, laidKinds := [.data, .data, .data, .pinned], laidTests := true, laidLooks := .later }
def DocsFitsCardSaid : Prop := Claim7.holds Tryz.pinned (.plain (OpenSpec.ofChange docsFitsSpec)) docsFitsCard

/-- THE SECOND FORM's CARD OF 'truchmanlaw01.DocsCuts'. -/
def docsCutsUptoCard : Claim7 := { stood := { row := docsCutsUptoRow, standIns := [], harness := (true, "496388ef10238d4babafd03f8fb1d2ba7068a2e132efc8bfeb403586ae4e0153"), looks := false }, kinds := [], alts := [], laidByText := true, laidKinds := [.data, .data, .data, .pinned], laidTests := true, laidLooks := .later }
def DocsCutsUptoCardSaid : Prop := Claim7.holds Tryz.pinned (.plain (OpenSpec.upto docsCutsSpec)) docsCutsUptoCard

/-- THE SECOND FORM's CARD OF 'truchmanlaw01.DocsGlued'. -/
def docsGluedUptoCard : Claim7 := { stood := { row := docsGluedUptoRow, standIns := [], harness := (true, "496388ef10238d4babafd03f8fb1d2ba7068a2e132efc8bfeb403586ae4e0153"), looks := false }, kinds := [], alts := [], laidByText := true, laidKinds := [.data, .data, .data, .pinned], laidTests := true, laidLooks := .later }
def DocsGluedUptoCardSaid : Prop := Claim7.holds Tryz.pinned (.plain (OpenSpec.upto docsGluedSpec)) docsGluedUptoCard

/-- THE SECOND FORM's CARD OF 'truchmanlaw01.DocsBreaks'. -/
def docsBreaksUptoCard : Claim7 := { stood := { row := docsBreaksUptoRow, standIns := [], harness := (true, "496388ef10238d4babafd03f8fb1d2ba7068a2e132efc8bfeb403586ae4e0153"), looks := false }, kinds := [], alts := [], laidByText := true, laidKinds := [.data, .data, .data, .pinned], laidTests := true, laidLooks := .later }
def DocsBreaksUptoCardSaid : Prop := Claim7.holds Tryz.pinned (.plain (OpenSpec.upto docsBreaksSpec)) docsBreaksUptoCard

/-- THE SECOND FORM's CARD OF 'truchmanlaw01.DocsFits'. -/
def docsFitsUptoCard : Claim7 := { stood := { row := docsFitsUptoRow, standIns := [], harness := (true, "496388ef10238d4babafd03f8fb1d2ba7068a2e132efc8bfeb403586ae4e0153"), looks := false }, kinds := [], alts := [], laidByText := true, laidKinds := [.data, .data, .data, .pinned], laidTests := true, laidLooks := .later }
def DocsFitsUptoCardSaid : Prop := Claim7.holds Tryz.pinned (.plain (OpenSpec.upto docsFitsSpec)) docsFitsUptoCard
end Rows
end Go.Proofs.YtnkpjkomokkhcaaGreatDoor
