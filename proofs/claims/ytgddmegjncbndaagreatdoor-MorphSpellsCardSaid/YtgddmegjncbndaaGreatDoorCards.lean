/-
  DERIVED. GIVEN WITH THE SEED: THE CARDS: each row of YtgddmegjncbndaaGreatDoorRows.lean that lists a variable, with what it lists TIED to the program's text (the seventh form; the later family's looks); each row that meets fmt, with fmt's text TOLD by the authors' own Lean function (tested against real Go, not proved from fmt's source: count such statements apart). THE CARD IS WHAT COUNTS. Prove the row's statement (the work); the ties are given (YtgddmegjncbndaaGreatDoorTie.lean); close each card by the builder's one call (the guide's Derived/Test/ToyasCard.lean, 'card_holds'). Laid BY PROGRAM, IN A SANDBOX (cutbox-door.mjs). By AI agents, Wed Nov 11 2026. No macro, syntax, notation, axiom, sorry.
-/
import Derived.Test.YtgddmegjncbndaaGreatDoorRows
import GoSem.ClaimSeven
namespace Go.Proofs.YtgddmegjncbndaaGreatDoor
namespace Rows

/-- THE TIED CARD OF 'truchmanlaw02.MorphChecks'. -/
def morphChecksCard : Claim7 := { stood := { row := morphChecksRow, standIns := [], harness := (true, "567fcceac9e810a8a2cc4ad78870451683ae17414d174b28b4c13043257b3fd7"), looks := true }, kinds := [], alts := [], laidByText := true, laidKinds := [.data, .data, .data, .data, .sentinel, .sentinel, .pinned], laidTests := true, laidLooks := .later }
def MorphChecksCardSaid : Prop := Claim7.holds Tryz.pinned (.plain (OpenSpec.ofChange morphChecksSpec)) morphChecksCard

/-- THE TIED CARD OF 'truchmanlaw02.MorphSpells'. -/
def morphSpellsCard : Claim7 := { stood := { row := morphSpellsRow, standIns := [], harness := (true, "567fcceac9e810a8a2cc4ad78870451683ae17414d174b28b4c13043257b3fd7"), looks := true }, kinds := [], alts := [], laidByText := true, laidKinds := [.data, .data, .data, .data, .sentinel, .sentinel, .pinned], laidTests := true, laidLooks := .later }
def MorphSpellsCardSaid : Prop := Claim7.holds Tryz.pinned (.plain (OpenSpec.ofChange morphSpellsSpec)) morphSpellsCard

/-- THE TIED CARD OF 'truchmanlaw02.MorphForms'. -/
def morphFormsCard : Claim7 := { stood := { row := morphFormsRow, standIns := [], harness := (true, "567fcceac9e810a8a2cc4ad78870451683ae17414d174b28b4c13043257b3fd7"), looks := true }, kinds := [], alts := [], laidByText := true, laidKinds := [.data, .data, .data, .data, .sentinel, .sentinel, .pinned], laidTests := true, laidLooks := .later }
def MorphFormsCardSaid : Prop := Claim7.holds Tryz.pinned (.plain (OpenSpec.ofChange morphFormsSpec)) morphFormsCard

/-- THE TIED CARD OF 'truchmanlaw02.MorphBuilds'. -/
def morphBuildsCard : Claim7 := { stood := { row := morphBuildsRow, standIns := [], harness := (true, "567fcceac9e810a8a2cc4ad78870451683ae17414d174b28b4c13043257b3fd7"), looks := true }, kinds := [], alts := [], laidByText := true, laidKinds := [.data, .data, .data, .data, .sentinel, .sentinel, .pinned], laidTests := true, laidLooks := .later }
def MorphBuildsCardSaid : Prop := Claim7.holds Tryz.pinned (.plain (OpenSpec.ofChange morphBuildsSpec)) morphBuildsCard

/-- THE TIED CARD OF 'truchmanlaw02.MorphGenerates'. -/
def morphGeneratesCard : Claim7 := { stood := { row := morphGeneratesRow, standIns := [], harness := (true, "567fcceac9e810a8a2cc4ad78870451683ae17414d174b28b4c13043257b3fd7"), looks := true }, kinds := [], alts := [], laidByText := true, laidKinds := [.data, .data, .data, .data, .sentinel, .sentinel, .pinned], laidTests := true, laidLooks := .later }
def MorphGeneratesCardSaid : Prop := Claim7.holds Tryz.pinned (.plain (OpenSpec.ofChange morphGeneratesSpec)) morphGeneratesCard

/-- THE SECOND FORM's CARD OF 'truchmanlaw02.MorphChecks'. -/
def morphChecksUptoCard : Claim7 := { stood := { row := morphChecksUptoRow, standIns := [], harness := (true, "567fcceac9e810a8a2cc4ad78870451683ae17414d174b28b4c13043257b3fd7"), looks := true }, kinds := [], alts := [], laidByText := true, laidKinds := [.data, .data, .data, .data, .sentinel, .sentinel, .pinned], laidTests := true, laidLooks := .later }
def MorphChecksUptoCardSaid : Prop := Claim7.holds Tryz.pinned (.plain (OpenSpec.upto morphChecksSpec)) morphChecksUptoCard

/-- THE SECOND FORM's CARD OF 'truchmanlaw02.MorphSpells'. -/
def morphSpellsUptoCard : Claim7 := { stood := { row := morphSpellsUptoRow, standIns := [], harness := (true, "567fcceac9e810a8a2cc4ad78870451683ae17414d174b28b4c13043257b3fd7"), looks := true }, kinds := [], alts := [], laidByText := true, laidKinds := [.data, .data, .data, .data, .sentinel, .sentinel, .pinned], laidTests := true, laidLooks := .later }
def MorphSpellsUptoCardSaid : Prop := Claim7.holds Tryz.pinned (.plain (OpenSpec.upto morphSpellsSpec)) morphSpellsUptoCard

/-- THE SECOND FORM's CARD OF 'truchmanlaw02.MorphForms'. -/
def morphFormsUptoCard : Claim7 := { stood := { row := morphFormsUptoRow, standIns := [], harness := (true, "567fcceac9e810a8a2cc4ad78870451683ae17414d174b28b4c13043257b3fd7"), looks := true }, kinds := [], alts := [], laidByText := true, laidKinds := [.data, .data, .data, .data, .sentinel, .sentinel, .pinned], laidTests := true, laidLooks := .later }
def MorphFormsUptoCardSaid : Prop := Claim7.holds Tryz.pinned (.plain (OpenSpec.upto morphFormsSpec)) morphFormsUptoCard

/-- THE SECOND FORM's CARD OF 'truchmanlaw02.MorphBuilds'. -/
def morphBuildsUptoCard : Claim7 := { stood := { row := morphBuildsUptoRow, standIns := [], harness := (true, "567fcceac9e810a8a2cc4ad78870451683ae17414d174b28b4c13043257b3fd7"), looks := true }, kinds := [], alts := [], laidByText := true, laidKinds := [.data, .data, .data, .data, .sentinel, .sentinel, .pinned], laidTests := true, laidLooks := .later }
def MorphBuildsUptoCardSaid : Prop := Claim7.holds Tryz.pinned (.plain (OpenSpec.upto morphBuildsSpec)) morphBuildsUptoCard

/-- THE SECOND FORM's CARD OF 'truchmanlaw02.MorphGenerates'. -/
def morphGeneratesUptoCard : Claim7 := { stood := { row := morphGeneratesUptoRow, standIns := [], harness := (true, "567fcceac9e810a8a2cc4ad78870451683ae17414d174b28b4c13043257b3fd7"), looks := true }, kinds := [], alts := [], laidByText := true, laidKinds := [.data, .data, .data, .data, .sentinel, .sentinel, .pinned], laidTests := true, laidLooks := .later }
def MorphGeneratesUptoCardSaid : Prop := Claim7.holds Tryz.pinned (.plain (OpenSpec.upto morphGeneratesSpec)) morphGeneratesUptoCard
end Rows
end Go.Proofs.YtgddmegjncbndaaGreatDoor
