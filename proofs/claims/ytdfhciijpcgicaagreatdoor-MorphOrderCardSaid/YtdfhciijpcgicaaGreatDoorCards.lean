/-
  DERIVED. GIVEN WITH THE SEED: THE CARDS: each row of YtdfhciijpcgicaaGreatDoorRows.lean that lists a variable, with what it lists TIED to the program's text (the seventh form; the later family's looks); each row that meets fmt, with fmt's text TOLD by the authors' own Lean function (tested against real Go, not proved from fmt's source: count such statements apart). THE CARD IS WHAT COUNTS. Prove the row's statement (the work); the ties are given (YtdfhciijpcgicaaGreatDoorTie.lean); close each card by the builder's one call (the guide's Derived/Test/ToyasCard.lean, 'card_holds'). Laid BY PROGRAM, IN A SANDBOX (cutbox-door.mjs). By AI agents, Wed Nov 11 2026. No macro, syntax, notation, axiom, sorry.
-/
import Derived.Test.YtdfhciijpcgicaaGreatDoorRows
import GoSem.ClaimSeven
namespace Go.Proofs.YtdfhciijpcgicaaGreatDoor
namespace Rows

/-- THE TIED CARD OF 'truchmanlaw02.MorphNames'. -/
def morphNamesCard : Claim7 := { stood := { row := morphNamesRow, standIns := [], harness := (true, "21b5ff4a7d38ad01341ffe9914c012d78e51a46567bc56bd530dc5c1610a061e"), looks := true }, kinds := [], alts := [], laidByText := true, laidKinds := [.data, .data, .data, .data, .sentinel, .sentinel, .pinned], laidTests := true, laidLooks := .later }
def MorphNamesCardSaid : Prop := Claim7.holds Tryz.pinned (.plain (OpenSpec.ofChange morphNamesSpec)) morphNamesCard

/-- THE TIED CARD OF 'truchmanlaw02.MorphUnifies'. -/
def morphUnifiesCard : Claim7 := { stood := { row := morphUnifiesRow, standIns := [], harness := (true, "21b5ff4a7d38ad01341ffe9914c012d78e51a46567bc56bd530dc5c1610a061e"), looks := true }, kinds := [], alts := [], laidByText := true, laidKinds := [.data, .data, .data, .data, .sentinel, .sentinel, .pinned], laidTests := true, laidLooks := .later }
def MorphUnifiesCardSaid : Prop := Claim7.holds Tryz.pinned (.plain (OpenSpec.ofChange morphUnifiesSpec)) morphUnifiesCard

/-- THE TIED CARD OF 'truchmanlaw02.MorphOrder'. -/
def morphOrderCard : Claim7 := { stood := { row := morphOrderRow, standIns := [], harness := (true, "21b5ff4a7d38ad01341ffe9914c012d78e51a46567bc56bd530dc5c1610a061e"), looks := true }, kinds := [], alts := [], laidByText := true, laidKinds := [.data, .data, .data, .data, .sentinel, .sentinel, .pinned], laidTests := true, laidLooks := .later }
def MorphOrderCardSaid : Prop := Claim7.holds Tryz.pinned (.plain (OpenSpec.ofChange morphOrderSpec)) morphOrderCard

/-- THE TIED CARD OF 'truchmanlaw02.MorphNil'. -/
def morphNilCard : Claim7 := { stood := { row := morphNilRow, standIns := [], harness := (true, "21b5ff4a7d38ad01341ffe9914c012d78e51a46567bc56bd530dc5c1610a061e"), looks := true }, kinds := [], alts := [], laidByText := true, laidKinds := [.data, .data, .data, .data, .sentinel, .sentinel, .pinned], laidTests := true, laidLooks := .later }
def MorphNilCardSaid : Prop := Claim7.holds Tryz.pinned (.plain (OpenSpec.ofChange morphNilSpec)) morphNilCard

/-- THE TIED CARD OF 'truchmanlaw02.MorphKnown'. -/
def morphKnownCard : Claim7 := { stood := { row := morphKnownRow, standIns := [], harness := (true, "21b5ff4a7d38ad01341ffe9914c012d78e51a46567bc56bd530dc5c1610a061e"), looks := true }, kinds := [], alts := [], laidByText := true, laidKinds := [.data, .data, .data, .data, .sentinel, .sentinel, .pinned], laidTests := true, laidLooks := .later }
def MorphKnownCardSaid : Prop := Claim7.holds Tryz.pinned (.plain (OpenSpec.ofChange morphKnownSpec)) morphKnownCard

/-- THE SECOND FORM's CARD OF 'truchmanlaw02.MorphNames'. -/
def morphNamesUptoCard : Claim7 := { stood := { row := morphNamesUptoRow, standIns := [], harness := (true, "21b5ff4a7d38ad01341ffe9914c012d78e51a46567bc56bd530dc5c1610a061e"), looks := true }, kinds := [], alts := [], laidByText := true, laidKinds := [.data, .data, .data, .data, .sentinel, .sentinel, .pinned], laidTests := true, laidLooks := .later }
def MorphNamesUptoCardSaid : Prop := Claim7.holds Tryz.pinned (.plain (OpenSpec.upto morphNamesSpec)) morphNamesUptoCard

/-- THE SECOND FORM's CARD OF 'truchmanlaw02.MorphUnifies'. -/
def morphUnifiesUptoCard : Claim7 := { stood := { row := morphUnifiesUptoRow, standIns := [], harness := (true, "21b5ff4a7d38ad01341ffe9914c012d78e51a46567bc56bd530dc5c1610a061e"), looks := true }, kinds := [], alts := [], laidByText := true, laidKinds := [.data, .data, .data, .data, .sentinel, .sentinel, .pinned], laidTests := true, laidLooks := .later }
def MorphUnifiesUptoCardSaid : Prop := Claim7.holds Tryz.pinned (.plain (OpenSpec.upto morphUnifiesSpec)) morphUnifiesUptoCard

/-- THE SECOND FORM's CARD OF 'truchmanlaw02.MorphOrder'. -/
def morphOrderUptoCard : Claim7 := { stood := { row := morphOrderUptoRow, standIns := [], harness := (true, "21b5ff4a7d38ad01341ffe9914c012d78e51a46567bc56bd530dc5c1610a061e"), looks := true }, kinds := [], alts := [], laidByText := true, laidKinds := [.data, .data, .data, .data, .sentinel, .sentinel, .pinned], laidTests := true, laidLooks := .later }
def MorphOrderUptoCardSaid : Prop := Claim7.holds Tryz.pinned (.plain (OpenSpec.upto morphOrderSpec)) morphOrderUptoCard

/-- THE SECOND FORM's CARD OF 'truchmanlaw02.MorphNil'. -/
def morphNilUptoCard : Claim7 := { stood := { row := morphNilUptoRow, standIns := [], harness := (true, "21b5ff4a7d38ad01341ffe9914c012d78e51a46567bc56bd530dc5c1610a061e"), looks := true }, kinds := [], alts := [], laidByText := true, laidKinds := [.data, .data, .data, .data, .sentinel, .sentinel, .pinned], laidTests := true, laidLooks := .later }
def MorphNilUptoCardSaid : Prop := Claim7.holds Tryz.pinned (.plain (OpenSpec.upto morphNilSpec)) morphNilUptoCard

/-- THE SECOND FORM's CARD OF 'truchmanlaw02.MorphKnown'. -/
def morphKnownUptoCard : Claim7 := { stood := { row := morphKnownUptoRow, standIns := [], harness := (true, "21b5ff4a7d38ad01341ffe9914c012d78e51a46567bc56bd530dc5c1610a061e"), looks := true }, kinds := [], alts := [], laidByText := true, laidKinds := [.data, .data, .data, .data, .sentinel, .sentinel, .pinned], laidTests := true, laidLooks := .later }
def MorphKnownUptoCardSaid : Prop := Claim7.holds Tryz.pinned (.plain (OpenSpec.upto morphKnownSpec)) morphKnownUptoCard
end Rows
end Go.Proofs.YtdfhciijpcgicaaGreatDoor
