/-
  DERIVED. GIVEN WITH THE SEED: THE CARDS: each row of YtldapapdolkiaaaGreatDoorRows.lean that lists a variable, with what it lists TIED to the program's text (the seventh form; the later family's looks); each row that meets fmt, with fmt's text TOLD by the authors' own Lean function (tested against real Go, not proved from fmt's source: count such statements apart). THE CARD IS WHAT COUNTS. Prove the row's statement (the work); the ties are given (YtldapapdolkiaaaGreatDoorTie.lean); close each card by the builder's one call (the guide's Derived/Test/ToyasCard.lean, 'card_holds'). Laid BY PROGRAM, IN A SANDBOX (cutbox-door.mjs). By AI agents, Wed Nov 11 2026. No macro, syntax, notation, axiom, sorry.
-/
import Derived.Test.YtldapapdolkiaaaGreatDoorRows
import GoSem.ClaimSeven
namespace Go.Proofs.YtldapapdolkiaaaGreatDoor
namespace Rows

/-- THE TIED CARD OF 'truchmanlaw01.DocsSegments'. -/
def docsSegmentsCard : Claim7 := { stood := { row := docsSegmentsRow, standIns := [], harness := (true, "f7adcb2ba159298bee5a0e64d8894e93389e07d85a5b3a9a028eb1cb3bbe884a"), looks := false }, kinds := [], alts := [], laidByText := true, laidKinds := [.data, .data, .data, .pinned], laidTests := true, laidLooks := .later }
def DocsSegmentsCardSaid : Prop := Claim7.holds Tryz.pinned (.plain (OpenSpec.ofChange docsSegmentsSpec)) docsSegmentsCard

/-- THE TIED CARD OF 'truchmanlaw01.DocsRestored'. -/
def docsRestoredCard : Claim7 := { stood := { row := docsRestoredRow, standIns := [], harness := (true, "f7adcb2ba159298bee5a0e64d8894e93389e07d85a5b3a9a028eb1cb3bbe884a"), looks := false }, kinds := [], alts := [], laidByText := true, laidKinds := [.data, .data, .data, .pinned], laidTests := true, laidLooks := .later }
def DocsRestoredCardSaid : Prop := Claim7.holds Tryz.pinned (.plain (OpenSpec.ofChange docsRestoredSpec)) docsRestoredCard

/-- THE TIED CARD OF 'truchmanlaw01.DocsProject'. -/
def docsProjectCard : Claim7 := { stood := { row := docsProjectRow, standIns := [], harness := (true, "f7adcb2ba159298bee5a0e64d8894e93389e07d85a5b3a9a028eb1cb3bbe884a"), looks := false }, kinds := [], alts := [], laidByText := true, laidKinds := [.data, .data, .data, .pinned], laidTests := true, laidLooks := .later }
def DocsProjectCardSaid : Prop := Claim7.holds Tryz.pinned (.plain (OpenSpec.ofChange docsProjectSpec)) docsProjectCard

/-- THE TIED CARD OF 'truchmanlaw01.DocsKept'. -/
def docsKeptCard : Claim7 := { stood := { row := docsKeptRow, standIns := [], harness := (true, "f7adcb2ba159298bee5a0e64d8894e93389e07d85a5b3a9a028eb1cb3bbe884a"), looks := false }, kinds := [], alts := [], laidByText := true, laidKinds := [.data, .data, .data, .pinned], laidTests := true, laidLooks := .later }
def DocsKeptCardSaid : Prop := Claim7.holds Tryz.pinned (.plain (OpenSpec.ofChange docsKeptSpec)) docsKeptCard

/-- THE SECOND FORM's CARD OF 'truchmanlaw01.DocsSegments'. -/
def docsSegmentsUptoCard : Claim7 := { stood := { row := docsSegmentsUptoRow, standIns := [], harness := (true, "f7adcb2ba159298bee5a0e64d8894e93389e07d85a5b3a9a028eb1cb3bbe884a"), looks := false }, kinds := [], alts := [], laidByText := true, laidKinds := [.data, .data, .data, .pinned], laidTests := true, laidLooks := .later }
def DocsSegmentsUptoCardSaid : Prop := Claim7.holds Tryz.pinned (.plain (OpenSpec.upto docsSegmentsSpec)) docsSegmentsUptoCard

/-- THE SECOND FORM's CARD OF 'truchmanlaw01.DocsRestored'. -/
def docsRestoredUptoCard : Claim7 := { stood := { row := docsRestoredUptoRow, standIns := [], harness := (true, "f7adcb2ba159298bee5a0e64d8894e93389e07d85a5b3a9a028eb1cb3bbe884a"), looks := false }, kinds := [], alts := [], laidByText := true, laidKinds := [.data, .data, .data, .pinned], laidTests := true, laidLooks := .later }
def DocsRestoredUptoCardSaid : Prop := Claim7.holds Tryz.pinned (.plain (OpenSpec.upto docsRestoredSpec)) docsRestoredUptoCard

/-- THE SECOND FORM's CARD OF 'truchmanlaw01.DocsProject'. -/
def docsProjectUptoCard : Claim7 := { stood := { row := docsProjectUptoRow, standIns := [], harness := (true, "f7adcb2ba159298bee5a0e64d8894e93389e07d85a5b3a9a028eb1cb3bbe884a"), looks := false }, kinds := [], alts := [], laidByText := true, laidKinds := [.data, .data, .data, .pinned], laidTests := true, laidLooks := .later }
def DocsProjectUptoCardSaid : Prop := Claim7.holds Tryz.pinned (.plain (OpenSpec.upto docsProjectSpec)) docsProjectUptoCard

/-- THE SECOND FORM's CARD OF 'truchmanlaw01.DocsKept'. -/
def docsKeptUptoCard : Claim7 := { stood := { row := docsKeptUptoRow, standIns := [], harness := (true, "f7adcb2ba159298bee5a0e64d8894e93389e07d85a5b3a9a028eb1cb3bbe884a"), looks := false }, kinds := [], alts := [], laidByText := true, laidKinds := [.data, .data, .data, .pinned], laidTests := true, laidLooks := .later }
def DocsKeptUptoCardSaid : Prop := Claim7.holds Tryz.pinned (.plain (OpenSpec.upto docsKeptSpec)) docsKeptUptoCard
end Rows
end Go.Proofs.YtldapapdolkiaaaGreatDoor
