/-
  DERIVED. GIVEN WITH THE SEED: THE CARDS: each row of YthgllfbigcoaiaaGreatDoorRows.lean that lists a variable, with what it lists TIED to the program's text (the seventh form; the later family's looks); each row that meets fmt, with fmt's text TOLD by the authors' own Lean function (tested against real Go, not proved from fmt's source: count such statements apart). THE CARD IS WHAT COUNTS. Prove the row's statement (the work); the ties are given (YthgllfbigcoaiaaGreatDoorTie.lean); close each card by the builder's one call (the guide's Derived/Test/ToyasCard.lean, 'card_holds'). Laid BY PROGRAM, IN A SANDBOX (cutbox-door.mjs). By AI agents, Wed Nov 11 2026. No macro, syntax, notation, axiom, sorry.
-/
import Derived.Test.YthgllfbigcoaiaaGreatDoorRows
import GoSem.ClaimSeven
namespace Go.Proofs.YthgllfbigcoaiaaGreatDoor
namespace Rows

/-- THE TIED CARD OF 'truchmanlaw08.ChecksMatches'. -/
def checksMatchesCard : Claim7 := { stood := { row := checksMatchesRow, standIns := [], harness := (true, "5a858db2edb486fcc88fc342eb142f00af3a2a4158d19e2de33cf1cd7b927bda"), looks := true }, kinds := [], alts := [], laidByText := true, laidKinds := [.data, .data, .data, .data, .sentinel, .sentinel, .data, .data, .pinned], laidTests := true, laidLooks := .later }
def ChecksMatchesCardSaid : Prop := Claim7.holds Tryz.pinned (.plain (OpenSpec.ofChange checksMatchesSpec)) checksMatchesCard

/-- THE TIED CARD OF 'truchmanlaw08.ChecksScores'. -/
def checksScoresCard : Claim7 := { stood := { row := checksScoresRow, standIns := [], harness := (true, "5a858db2edb486fcc88fc342eb142f00af3a2a4158d19e2de33cf1cd7b927bda"), looks := true }, kinds := [], alts := [], laidByText := true, laidKinds := [.data, .data, .data, .data, .sentinel, .sentinel, .data, .data, .pinned], laidTests := true, laidLooks := .later }
def ChecksScoresCardSaid : Prop := Claim7.holds Tryz.pinned (.plain (OpenSpec.ofChange checksScoresSpec)) checksScoresCard

/-- THE TIED CARD OF 'truchmanlaw08.ChecksGrams'. -/
def checksGramsCard : Claim7 := { stood := { row := checksGramsRow, standIns := [], harness := (true, "5a858db2edb486fcc88fc342eb142f00af3a2a4158d19e2de33cf1cd7b927bda"), looks := true }, kinds := [], alts := [], laidByText := true, laidKinds := [.data, .data, .data, .data, .sentinel, .sentinel, .data, .data, .pinned], laidTests := true, laidLooks := .later }
def ChecksGramsCardSaid : Prop := Claim7.holds Tryz.pinned (.plain (OpenSpec.ofChange checksGramsSpec)) checksGramsCard

/-- THE TIED CARD OF 'truchmanlaw08.ChecksSteps'. -/
def checksStepsCard : Claim7 := { stood := { row := checksStepsRow, standIns := [], harness := (true, "5a858db2edb486fcc88fc342eb142f00af3a2a4158d19e2de33cf1cd7b927bda"), looks := true }, kinds := [], alts := [], laidByText := true, laidKinds := [.data, .data, .data, .data, .sentinel, .sentinel, .data, .data, .pinned], laidTests := true, laidLooks := .later }
def ChecksStepsCardSaid : Prop := Claim7.holds Tryz.pinned (.plain (OpenSpec.ofChange checksStepsSpec)) checksStepsCard

/-- THE TIED CARD OF 'truchmanlaw08.ChecksUnits'. -/
def checksUnitsCard : Claim7 := { stood := { row := checksUnitsRow, standIns := [], harness := (true, "5a858db2edb486fcc88fc342eb142f00af3a2a4158d19e2de33cf1cd7b927bda"), looks := true }, kinds := [], alts := [], laidByText := true, laidKinds := [.data, .data, .data, .data, .sentinel, .sentinel, .data, .data, .pinned], laidTests := true, laidLooks := .later }
def ChecksUnitsCardSaid : Prop := Claim7.holds Tryz.pinned (.plain (OpenSpec.ofChange checksUnitsSpec)) checksUnitsCard

/-- THE TIED CARD OF 'truchmanlaw08.ChecksIntervals'. -/
def checksIntervalsCard : Claim7 := { stood := { row := checksIntervalsRow, standIns := [], harness := (true, "5a858db2edb486fcc88fc342eb142f00af3a2a4158d19e2de33cf1cd7b927bda"), looks := true }, kinds := [], alts := [], laidByText := true, laidKinds := [.data, .data, .data, .data, .sentinel, .sentinel, .data, .data, .pinned], laidTests := true, laidLooks := .later }
def ChecksIntervalsCardSaid : Prop := Claim7.holds Tryz.pinned (.plain (OpenSpec.ofChange checksIntervalsSpec)) checksIntervalsCard

/-- THE TIED CARD OF 'truchmanlaw08.ChecksNarrow'. -/
def checksNarrowCard : Claim7 := { stood := { row := checksNarrowRow, standIns := [], harness := (true, "5a858db2edb486fcc88fc342eb142f00af3a2a4158d19e2de33cf1cd7b927bda"), looks := true }, kinds := [], alts := [], laidByText := true, laidKinds := [.data, .data, .data, .data, .sentinel, .sentinel, .data, .data, .pinned], laidTests := true, laidLooks := .later }
def ChecksNarrowCardSaid : Prop := Claim7.holds Tryz.pinned (.plain (OpenSpec.ofChange checksNarrowSpec)) checksNarrowCard

/-- THE SECOND FORM's CARD OF 'truchmanlaw08.ChecksMatches'. -/
def checksMatchesUptoCard : Claim7 := { stood := { row := checksMatchesUptoRow, standIns := [], harness := (true, "5a858db2edb486fcc88fc342eb142f00af3a2a4158d19e2de33cf1cd7b927bda"), looks := true }, kinds := [], alts := [], laidByText := true, laidKinds := [.data, .data, .data, .data, .sentinel, .sentinel, .data, .data, .pinned], laidTests := true, laidLooks := .later }
def ChecksMatchesUptoCardSaid : Prop := Claim7.holds Tryz.pinned (.plain (OpenSpec.upto checksMatchesSpec)) checksMatchesUptoCard

/-- THE SECOND FORM's CARD OF 'truchmanlaw08.ChecksScores'. -/
def checksScoresUptoCard : Claim7 := { stood := { row := checksScoresUptoRow, standIns := [], harness := (true, "5a858db2edb486fcc88fc342eb142f00af3a2a4158d19e2de33cf1cd7b927bda"), looks := true }, kinds := [], alts := [], laidByText := true, laidKinds := [.data, .data, .data, .data, .sentinel, .sentinel, .data, .data, .pinned], laidTests := true, laidLooks := .later }
def ChecksScoresUptoCardSaid : Prop := Claim7.holds Tryz.pinned (.plain (OpenSpec.upto checksScoresSpec)) checksScoresUptoCard

/-- THE SECOND FORM's CARD OF 'truchmanlaw08.ChecksGrams'. -/
def checksGramsUptoCard : Claim7 := { stood := { row := checksGramsUptoRow, standIns := [], harness := (true, "5a858db2edb486fcc88fc342eb142f00af3a2a4158d19e2de33cf1cd7b927bda"), looks := true }, kinds := [], alts := [], laidByText := true, laidKinds := [.data, .data, .data, .data, .sentinel, .sentinel, .data, .data, .pinned], laidTests := true, laidLooks := .later }
def ChecksGramsUptoCardSaid : Prop := Claim7.holds Tryz.pinned (.plain (OpenSpec.upto checksGramsSpec)) checksGramsUptoCard

/-- THE SECOND FORM's CARD OF 'truchmanlaw08.ChecksSteps'. -/
def checksStepsUptoCard : Claim7 := { stood := { row := checksStepsUptoRow, standIns := [], harness := (true, "5a858db2edb486fcc88fc342eb142f00af3a2a4158d19e2de33cf1cd7b927bda"), looks := true }, kinds := [], alts := [], laidByText := true, laidKinds := [.data, .data, .data, .data, .sentinel, .sentinel, .data, .data, .pinned], laidTests := true, laidLooks := .later }
def ChecksStepsUptoCardSaid : Prop := Claim7.holds Tryz.pinned (.plain (OpenSpec.upto checksStepsSpec)) checksStepsUptoCard

/-- THE SECOND FORM's CARD OF 'truchmanlaw08.ChecksUnits'. -/
def checksUnitsUptoCard : Claim7 := { stood := { row := checksUnitsUptoRow, standIns := [], harness := (true, "5a858db2edb486fcc88fc342eb142f00af3a2a4158d19e2de33cf1cd7b927bda"), looks := true }, kinds := [], alts := [], laidByText := true, laidKinds := [.data, .data, .data, .data, .sentinel, .sentinel, .data, .data, .pinned], laidTests := true, laidLooks := .later }
def ChecksUnitsUptoCardSaid : Prop := Claim7.holds Tryz.pinned (.plain (OpenSpec.upto checksUnitsSpec)) checksUnitsUptoCard

/-- THE SECOND FORM's CARD OF 'truchmanlaw08.ChecksIntervals'. -/
def checksIntervalsUptoCard : Claim7 := { stood := { row := checksIntervalsUptoRow, standIns := [], harness := (true, "5a858db2edb486fcc88fc342eb142f00af3a2a4158d19e2de33cf1cd7b927bda"), looks := true }, kinds := [], alts := [], laidByText := true, laidKinds := [.data, .data, .data, .data, .sentinel, .sentinel, .data, .data, .pinned], laidTests := true, laidLooks := .later }
def ChecksIntervalsUptoCardSaid : Prop := Claim7.holds Tryz.pinned (.plain (OpenSpec.upto checksIntervalsSpec)) checksIntervalsUptoCard

/-- THE SECOND FORM's CARD OF 'truchmanlaw08.ChecksNarrow'. -/
def checksNarrowUptoCard : Claim7 := { stood := { row := checksNarrowUptoRow, standIns := [], harness := (true, "5a858db2edb486fcc88fc342eb142f00af3a2a4158d19e2de33cf1cd7b927bda"), looks := true }, kinds := [], alts := [], laidByText := true, laidKinds := [.data, .data, .data, .data, .sentinel, .sentinel, .data, .data, .pinned], laidTests := true, laidLooks := .later }
def ChecksNarrowUptoCardSaid : Prop := Claim7.holds Tryz.pinned (.plain (OpenSpec.upto checksNarrowSpec)) checksNarrowUptoCard
end Rows
end Go.Proofs.YthgllfbigcoaiaaGreatDoor
