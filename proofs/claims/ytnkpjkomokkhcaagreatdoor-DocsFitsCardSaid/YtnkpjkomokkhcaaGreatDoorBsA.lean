/- The specification's patterns and units in memory; how many units a pattern takes. The specification's questions about a unit. The specification's questions about a unit: inWord, mark. The specification's units in memory; its edge. The specification's test of one unit. -/
import Derived.Test.YtnkpjkomokkhcaaGreatDoorBrE
namespace Go.Proofs.YtnkpjkomokkhcaaGreatDoor
open Go Go.RowKit Go.Lib
set_option maxRecDepth 100000
def fF (X : List Ft) (i j : Nat) : Value := if j = 0 then .bool (X.getD i nilF).c else .int .i32 ((X.getD i nilF).r : Int)
/-- the items of a pattern, as the specification keeps them -/
def FsAt (w : World) (v : Value) (X : List Ft) : Prop := SliceAt w.heap.size w v X.length 2 (fF X)
theorem FsAt.step {w w' : World} {v : Value} {X : List Ft} (hb : Below w.heap.size w w') (h : FsAt w v X) : FsAt w' v X := (SliceAt.below hb h).mono hb.size
theorem FsAt.form {w : World} {v : Value} {X : List Ft} (h : FsAt w v X) : ∃ p cap, v = .slice p X.length cap ∧ X.length ≤ cap ∧ cap ≤ maxLen := by
  obtain ⟨p, cap, e, h1, h2, _⟩ := h
  exact ⟨p, cap, e, h1, h2⟩
theorem FsAt.get {w : World} {p : Option Addr} {n cap : Nat} {X : List Ft} (h : FsAt w (.slice p n cap) X) {i : Nat} (hi : i < X.length) : ∃ A, p = some A ∧ w.cell? (A.add (i * 2)) = some (.bool (X.getD i nilF).c) ∧ w.cell? { block := (A.add (i * 2)).block, off := (A.add (i * 2)).off + 1 } = some (.int .i32 ((X.getD i nilF).r : Int)) := by
  obtain ⟨p', cap', e, _, _, h3⟩ := h
  injection e with e1 e2 e3
  subst e1
  obtain ⟨A, rfl, hA, hc⟩ := h3 (by omega)
  exact ⟨A, rfl, hc i 0 hi (by omega), cell_off (by omega) (hc i 1 hi (by omega))⟩
end Go.Proofs.YtnkpjkomokkhcaaGreatDoor
namespace Go.Proofs.YtnkpjkomokkhcaaGreatDoor
open Go Go.RowKit Go.Lib
set_option maxRecDepth 100000
def suV (u : Un) : Value := .agg #[.int .i32 (u.r : Int), .bool u.h]
end Go.Proofs.YtnkpjkomokkhcaaGreatDoor
namespace Go.Proofs.YtnkpjkomokkhcaaGreatDoor
open Go Go.RowKit Go.Lib
set_option maxRecDepth 100000
end Go.Proofs.YtnkpjkomokkhcaaGreatDoor
namespace Go.Proofs.YtnkpjkomokkhcaaGreatDoor
open Go Go.RowKit Go.Lib
set_option maxRecDepth 100000
def suF (L : List Un) (i j : Nat) : Value := if j = 0 then .int .i32 ((L.getD i nilU).r : Int) else .bool (L.getD i nilU).h
/-- a list of units, as the specification keeps them -/
def SuAt (w : World) (v : Value) (L : List Un) : Prop := SliceAt w.heap.size w v L.length 2 (suF L)
theorem SuAt.step {w w' : World} {v : Value} {L : List Un} (hb : Below w.heap.size w w') (h : SuAt w v L) : SuAt w' v L := (SliceAt.below hb h).mono hb.size
theorem SuAt.get {w : World} {p : Option Addr} {n cap : Nat} {L : List Un} (h : SuAt w (.slice p n cap) L) {i : Nat} (hi : i < L.length) : ∃ A, p = some A ∧ A.block < w.heap.size ∧ w.cell? (A.add (i * 2)) = some (.int .i32 ((L.getD i nilU).r : Int)) ∧ w.cell? { block := (A.add (i * 2)).block, off := (A.add (i * 2)).off + 1 } = some (.bool (L.getD i nilU).h) := by
  obtain ⟨p', cap', e, _, _, h3⟩ := h
  injection e with e1 e2 e3
  subst e1
  obtain ⟨A, rfl, hA, hc⟩ := h3 (by omega)
  exact ⟨A, rfl, hA, hc i 0 hi (by omega), cell_off (by omega) (hc i 1 hi (by omega))⟩
theorem SuAt.form {w : World} {v : Value} {L : List Un} (h : SuAt w v L) : ∃ p cap, v = .slice p L.length cap ∧ L.length ≤ cap ∧ cap ≤ maxLen := by
  obtain ⟨p, cap, e, h1, h2, _⟩ := h
  exact ⟨p, cap, e, h1, h2⟩
end Go.Proofs.YtnkpjkomokkhcaaGreatDoor
namespace Go.Proofs.YtnkpjkomokkhcaaGreatDoor
open Go Go.RowKit Go.Lib
set_option maxRecDepth 100000
end Go.Proofs.YtnkpjkomokkhcaaGreatDoor
