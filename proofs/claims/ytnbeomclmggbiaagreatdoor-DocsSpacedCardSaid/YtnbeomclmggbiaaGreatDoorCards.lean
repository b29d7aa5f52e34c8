/-
  DERIVED. GIVEN WITH THE SEED: THE CARDS: each row of YtnbeomclmggbiaaGreatDoorRows.lean that lists a variable, with what it lists TIED to the program's text (the seventh form; the later family's looks); each row that meets fmt, with fmt's text TOLD by the authors' own Lean function (tested against real Go, not proved from fmt's source: count such statements apart). THE CARD IS WHAT COUNTS. Prove the row's statement (the work); the ties are given (YtnbeomclmggbiaaGreatDoorTie.lean); close each card by the builder's one call (the guide's Derived/Test/ToyasCard.lean, 'card_holds'). Laid BY PROGRAM, IN A SANDBOX (cutbox-door.mjs). By AI agents, Wed Nov 11 2026. No macro, syntax, notation, axiom, sorry.
-/
import Derived.Test.YtnbeomclmggbiaaGreatDoorRows
import GoSem.ClaimSeven
namespace Go.Proofs.YtnbeomclmggbiaaGreatDoor
namespace Rows

/-- THE TIED CARD OF 'truchmanlaw01.DocsDocuments'. -/
def docsDocumentsCard : Claim7 := { stood := { row := docsDocumentsRow, standIns := [], harness := (true, "e05a0a22306e7e3723f2f6182197d49c06e189ef21000b5cf235a38aa77d5bad"), looks := false }, kinds := [], alts := [], laidByText := true, laidKinds := [.data, .data, .data, .data, .pinned], laidTests := true, laidLooks := .later }
def DocsDocumentsCardSaid : Prop := Claim7.holds Tryz.pinned (.plain (OpenSpec.ofChange docsDocumentsSpec)) docsDocumentsCard

/-- THE TIED CARD OF 'truchmanlaw01.DocsParses'. -/
def docsParsesCard : Claim7 := { stood := { row := docsParsesRow, standIns := [], harness := (true, "e05a0a22306e7e3723f2f6182197d49c06e189ef21000b5cf235a38aa77d5bad"), looks := false }, kinds := [], alts := [], laidByText := true, laidKinds := [.data, .data, .data, .data, .pinned], laidTests := true, laidLooks := .later }
def DocsParsesCardSaid : Prop := Claim7.holds Tryz.pinned (.plain (OpenSpec.ofChange docsParsesSpec)) docsParsesCard

/-- THE TIED CARD OF 'truchmanlaw01.DocsWords'. -/
def docsWordsCard : Claim7 := { stood := { row := docsWordsRow, standIns := [], harness := (true, "e05a0a22306e7e3723f2f6182197d49c06e189ef21000b5cf235a38aa77d5bad"), looks := false }, kinds := [], alts := [], laidByText := true, laidKinds := [.data, .data, .data, .pinned], laidTests := true, laidLooks := .later }
def DocsWordsCardSaid : Prop := Claim7.holds Tryz.pinned (.plain (OpenSpec.ofChange docsWordsSpec)) docsWordsCard

/-- THE TIED CARD OF 'truchmanlaw01.DocsSpaced'. -/
def docsSpacedCard : Claim7 := { stood := { row := docsSpacedRow, standIns := [], harness := (true, "e05a0a22306e7e3723f2f6182197d49c06e189ef21000b5cf235a38aa77d5bad"), looks := false }, kinds := [], alts := [], laidByText := true, laidKinds := [.data, .data, .data, .pinned], laidTests := true, laidLooks := .later }
def DocsSpacedCardSaid : Prop := Claim7.holds Tryz.pinned (.plain (OpenSpec.ofChange docsSpacedSpec)) docsSpacedCard

/-- THE SECOND FORM's CARD OF 'truchmanlaw01.DocsDocuments'. -/
def docsDocumentsUptoCard : Claim7 := { stood := { row := docsDocumentsUptoRow, standIns := [], harness := (true, "e05a0a22306e7e3723f2f6182197d49c06e189ef21000b5cf235a38aa77d5bad"), looks := false }, kinds := [], alts := [], laidByText := true, laidKinds := [.data, .data, .data, .data, .pinned], laidTests := true, laidLooks := .later }
def DocsDocumentsUptoCardSaid : Prop := Claim7.holds Tryz.pinned (.plain (OpenSpec.upto docsDocumentsSpec)) docsDocumentsUptoCard

/-- THE SECOND FORM's CARD OF 'truchmanlaw01.DocsParses'. -/
def docsParsesUptoCard : Claim7 := { stood := { row := docsParsesUptoRow, standIns := [], harness := (true, "e05a0a22306e7e3723f2f6182197d49c06e189ef21000b5cf235a38aa77d5bad"), looks := false }, kinds := [], alts := [], laidByText := true, laidKinds := [.data, .data, .data, .data, .pinned], laidTests := true, laidLooks := .later }
def DocsParsesUptoCardSaid : Prop := Claim7.holds Tryz.pinned (.plain (OpenSpec.upto docsParsesSpec)) docsParsesUptoCard

/-- THE SECOND FORM's CARD OF 'truchmanlaw01.DocsWords'. -/
def docsWordsUptoCard : Claim7 := { stood := { row := docsWordsUptoRow, standIns := [], harness := (true, "e05a0a22306e7e3723f2f6182197d49c06e189ef21000b5cf235a38aa77d5bad"), looks := false }, kinds := [], alts := [], laidByText := true, laidKinds := [.data, .data, .data, .pinned], laidTests := true, laidLooks := .later }
def DocsWordsUptoCardSaid : Prop := Claim7.holds Tryz.pinned (.plain (OpenSpec.upto docsWordsSpec)) docsWordsUptoCard

/-- THE SECOND FORM's CARD OF 'truchmanlaw01.DocsSpaced'. -/
def docsSpacedUptoCard : Claim7 := { stood := { row := docsSpacedUptoRow, standIns := [], harness := (true, "e05a0a22306e7e3723f2f6182197d49c06e189ef21000b5cf235a38aa77d5bad"), looks := false }, kinds := [], alts := [], laidByText := true, laidKinds := [.data, .data, .data, .pinned], laidTests := true, laidLooks := .later }
def DocsSpacedUptoCardSaid : Prop := Claim7.holds Tryz.pinned (.plain (OpenSpec.upto docsSpacedSpec)) docsSpacedUptoCard
end Rows
end Go.Proofs.YtnbeomclmggbiaaGreatDoor
