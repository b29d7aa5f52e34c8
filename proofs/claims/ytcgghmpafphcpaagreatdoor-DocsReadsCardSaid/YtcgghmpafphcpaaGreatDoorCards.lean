/-
  DERIVED. GIVEN WITH THE SEED: THE CARDS: each row of YtcgghmpafphcpaaGreatDoorRows.lean that lists a variable, with what it lists TIED to the program's text (the seventh form; the later family's looks); each row that meets fmt, with fmt's text TOLD by the authors' own Lean function (tested against real Go, not proved from fmt's source: count such statements apart). THE CARD IS WHAT COUNTS. Prove the row's statement (the work); the ties are given (YtcgghmpafphcpaaGreatDoorTie.lean); close each card by the builder's one call (the guide's Derived/Test/ToyasCard.lean, 'card_holds'). Laid BY PROGRAM, IN A SANDBOX (cutbox-door.mjs). By AI agents, Wed Nov 11 2026. No macro, syntax, notation, axiom, sorry.
-/
import Derived.Test.YtcgghmpafphcpaaGreatDoorRows
import GoSem.ClaimSeven
namespace Go.Proofs.YtcgghmpafphcpaaGreatDoor
namespace Rows

/-- THE TIED CARD OF 'truchmanlaw01.DocsPieces'. -/
def docsPiecesCard : Claim7 := { stood := { row := docsPiecesRow, standIns := [], harness := (true, "b634a4b2717db4097982ffbaa244d21c99ebe72fa2d803eb6e45f58026cc26d5"), looks := false }, kinds := [], alts := [], laidByText := true, laidKinds := [.data, .data, .data, .pinned], laidTests := true, laidLooks := .later }
def DocsPiecesCardSaid : Prop := Claim7.holds Tryz.pinned (.plain (OpenSpec.ofChange docsPiecesSpec)) docsPiecesCard

/-- THE TIED CARD OF 'truchmanlaw01.DocsReads'. -/
def docsReadsCard : Claim7 := { stood := { row := docsReadsRow, standIns := [], harness := (true, "b634a4b2717db4097982ffbaa244d21c99ebe72fa2d803eb6e45f58026cc26d5"), looks := false }, kinds := [], alts := [], laidByText := true, laidKinds := [.data, .data, .data, .pinned], laidTests := true, laidLooks := .later }
def DocsReadsCardSaid : Prop := Claim7.holds Tryz.pinned (.plain (OpenSpec.ofChange docsReadsSpec)) docsReadsCard

/-- THE TIED CARD OF 'truchmanlaw01.DocsBack'. -/
def docsBackCard : Claim7 := { stood := { row := docsBackRow, standIns := [], harness := (true, "b634a4b2717db4097982ffbaa244d21c99ebe72fa2d803eb6e45f58026cc26d5"), looks := false }, kinds := [], alts := [], laidByText := true, laidKinds := [.data, .data, .data, .pinned], laidTests := true, laidLooks := .later }
def DocsBackCardSaid : Prop := Claim7.holds Tryz.pinned (.plain (OpenSpec.ofChange docsBackSpec)) docsBackCard

/-- THE SECOND FORM's CARD OF 'truchmanlaw01.DocsPieces'. -/
def docsPiecesUptoCard : Claim7 := { stood := { row := docsPiecesUptoRow, standIns := [], harness := (true, "b634a4b2717db4097982ffbaa244d21c99ebe72fa2d803eb6e45f58026cc26d5"), looks := false }, kinds := [], alts := [], laidByText := true, laidKinds := [.data, .data, .data, .pinned], laidTests := true, laidLooks := .later }
def DocsPiecesUptoCardSaid : Prop := Claim7.holds Tryz.pinned (.plain (OpenSpec.upto docsPiecesSpec)) docsPiecesUptoCard

/-- THE SECOND FORM's CARD OF 'truchmanlaw01.DocsReads'. -/
def docsReadsUptoCard : Claim7 := { stood := { row := docsReadsUptoRow, standIns := [], harness := (true, "b634a4b2717db4097982ffbaa244d21c99ebe72fa2d803eb6e45f58026cc26d5"), looks := false }, kinds := [], alts := [], laidByText := true, laidKinds := [.data, .data, .data, .pinned], laidTests := true, laidLooks := .later }
def DocsReadsUptoCardSaid : Prop := Claim7.holds Tryz.pinned (.plain (OpenSpec.upto docsReadsSpec)) docsReadsUptoCard

/-- THE SECOND FORM's CARD OF 'truchmanlaw01.DocsBack'. -/
def docsBackUptoCard : Claim7 := { stood := { row := docsBackUptoRow, standIns := [], harness := (true, "b634a4b2717db4097982ffbaa244d21c99ebe72fa2d803eb6e45f58026cc26d5"), looks := false }, kinds := [], alts := [], laidByText := true, laidKinds := [.data, .data, .data, .pinned], laidTests := true, laidLooks := .later }
def DocsBackUptoCardSaid : Prop := Claim7.holds Tryz.pinned (.plain (OpenSpec.upto docsBackSpec)) docsBackUptoCard
end Rows
end Go.Proofs.YtcgghmpafphcpaaGreatDoor
