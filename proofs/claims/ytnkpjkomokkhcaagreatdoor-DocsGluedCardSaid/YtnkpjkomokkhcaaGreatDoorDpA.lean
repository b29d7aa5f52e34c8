/- Pieces: what the program's small functions return: carried tags, special bytes, names, classes of runes. Pieces: names, misplaced tags and neighbours, as the program tells them. -/
import Derived.Test.YtnkpjkomokkhcaaGreatDoorTxA
import Derived.Test.YtnkpjkomokkhcaaGreatDoorProg
import Derived.WalkKit
import Derived.WalkSpells
import Derived.WalkLawsBesides
import Derived.Lib.Hide
import Derived.Deep.QuietTactic
import Derived.Deep.LoopGhost
import Derived.Lib.OthersKept
import Derived.BigQuiet
import Derived.WalkSmall
namespace Go.Proofs.YtnkpjkomokkhcaaGreatDoor
open Go Go.RowKit
def pcV (x : Pc) : Value := .agg #[.int .u8 x.k, .string x.s, .bool x.c]
theorem ret_bool {a b : Bool} (h : a = b) : Ending.returned (.bool a) = .returned (.bool b) := by rw [h]
theorem ret_u8 {a b : Int} (h : a = b) : Ending.returned (.int .u8 a) = .returned (.int .u8 b) := by rw [h]
theorem below_box {w : World} (o : Obj) : Below w.heap.size w (w.alloc o) := (Below.refl _ _).alloc (Nat.le_refl _) _
set_option maxHeartbeats 1000000 in
theorem isCarriedOpen_any (x : Pc) (w : World) : Calls Tryz.prog 46 #[pcV x] w fun e w' => e = .returned (.bool (coB x)) ∧ Below w.heap.size w w' := by
  obtain ⟨k, s, c⟩ := x
  unfold coB pcV
  have ag := Tryz.isAgg52
  have zg := Tryz.sizeOf52
  by_cases h : k = 2 <;> cases c
  all_goals
    go_enter Tryz.func46, Tryz.ntmps46
    go_wp2
    go_ret
    exact ⟨ret_bool (by simp [h]), below_box _⟩
set_option maxHeartbeats 1000000 in
theorem isCarriedClose_any (x : Pc) (w : World) : Calls Tryz.prog 47 #[pcV x] w fun e w' => e = .returned (.bool (ccB x)) ∧ Below w.heap.size w w' := by
  obtain ⟨k, s, c⟩ := x
  unfold ccB pcV
  have ag := Tryz.isAgg52
  have zg := Tryz.sizeOf52
  by_cases h : k = 3 <;> cases c
  all_goals
    go_enter Tryz.func47, Tryz.ntmps47
    go_wp2
    go_ret
    exact ⟨ret_bool (by simp [h]), below_box _⟩
/-- the table of classes: a class is 0 just for control runes -/
def Cls (w : World) : Prop := ∀ c, c < 128 → ∃ z : Int, w.cell? ⟨0, c, none⟩ = some (.int .u8 z) ∧ (z = 0 ↔ ctl c = true)
theorem Cls.below {B : Nat} {w w' : World} (h : Cls w) (hb : Below B w w') (hB : 0 < B) : Cls w' := fun c hc => by
  obtain ⟨z, h1, h2⟩ := h c hc
  exact ⟨z, by rw [hb.cell (p := ⟨0, c, none⟩) hB]; exact h1, h2⟩
set_option maxHeartbeats 1000000 in
theorem classOf_any (r : Nat) (w : World) (hr : r ≤ 2147483647) (hC : Cls w) :
    Calls Tryz.prog 87 #[.int .i32 (r : Int)] w fun e w' => (∃ z : Int, e = .returned (.int .u8 z) ∧ (z = 0 ↔ ctl r = true)) ∧ w' = w := by
  by_cases h : 127 < r
  · have hc : ctl r = false := by unfold ctl; simp; omega
    have HC := Lib.hid hc; clear hc
    go_enter Tryz.func87, Tryz.ntmps87
    go_wp2
    go_ret
    exact ⟨⟨1, rfl, by rw [HC.out]; simp⟩, rfl⟩
  · obtain ⟨z, h1, h2⟩ := hC r (by omega)
    have H2 := Lib.hid h2; clear h2
    clear hC
    go_enter Tryz.func87, Tryz.ntmps87
    go_wp2
    go_ret
    exact ⟨⟨z, rfl, H2.out⟩, rfl⟩
end Go.Proofs.YtnkpjkomokkhcaaGreatDoor
namespace Go.Proofs.YtnkpjkomokkhcaaGreatDoor
open Go Go.RowKit
set_option maxRecDepth 100000
theorem below_next {w wr w' : World} (h : Below w.heap.size w wr) (hb : Below wr.heap.size wr w') : Below w.heap.size w w' := h.trans (hb.mono h.size)
def pcC (x : Pc) : Obj := .cells #[.int .u8 x.k, .string x.s, .bool x.c] 52
/-- a piece stands in a block -/
def Boxed (b : Nat) (x : Pc) (wr : World) : Prop := wr.cell? ⟨b, 0, none⟩ = some (.int .u8 x.k) ∧ wr.cell? ⟨b, 1, none⟩ = some (.string x.s) ∧ wr.cell? ⟨b, 2, none⟩ = some (.bool x.c) ∧ b < wr.heap.size
theorem Boxed.step {b : Nat} {x : Pc} {wr w' : World} (hb : Below wr.heap.size wr w') (h : Boxed b x wr) : Boxed b x w' := by
  obtain ⟨h0, h1, h2, h3⟩ := h
  exact ⟨by rw [hb.cell (p := ⟨b, 0, none⟩) h3]; exact h0, by rw [hb.cell (p := ⟨b, 1, none⟩) h3]; exact h1, by rw [hb.cell (p := ⟨b, 2, none⟩) h3]; exact h2, Nat.lt_of_lt_of_le h3 hb.size⟩
theorem Boxed.new (w : World) (x : Pc) : Boxed w.heap.size x (w.alloc (pcC x)) := by
  refine ⟨?_, ?_, ?_, ?_⟩ <;> simp [pcC]
/-- two pieces stand in the first two new blocks -/
def Box2 (w : World) (a p : Pc) (wr : World) : Prop := Boxed w.heap.size a wr ∧ Boxed (w.heap.size + 1) p wr ∧ Below w.heap.size w wr
theorem Box2.step {w : World} {a p : Pc} {wr w' : World} (hb : Below wr.heap.size wr w') (h : Box2 w a p wr) : Box2 w a p w' :=
  ⟨h.1.step hb, h.2.1.step hb, below_next h.2.2 hb⟩
theorem Box2.make {w : World} {a p : Pc} {w' : World} (hb : Below ((w.alloc (pcC a)).alloc (pcC p)).heap.size ((w.alloc (pcC a)).alloc (pcC p)) w') : Box2 w a p w' := by
  have h : Box2 w a p ((w.alloc (pcC a)).alloc (pcC p)) := by
    refine ⟨(Boxed.new w a).step (below_box _), ?_, ((Below.refl _ _).alloc (Nat.le_refl _) _).alloc (by simp) _⟩
    have := Boxed.new (w.alloc (pcC a)) p
    simpa using this
  exact h.step hb

set_option maxHeartbeats 8000000 in
theorem misplaced_any (a p : Pc) (w : World) : Calls Tryz.prog 70 #[pcV a, pcV p] w fun e w' => e = .returned (.bool (misB a p)) ∧ Below w.heap.size w w' := by
  have ag := Tryz.isAgg52
  have zg := Tryz.sizeOf52
  have HM := Lib.hid (show misB a p = ((coB p && !coB a) || (ccB a && !ccB p)) from rfl)
  have A1 := fun w => isCarriedOpen_any a w
  have A2 := fun w => isCarriedClose_any a w
  have P1 := fun w => isCarriedOpen_any p w
  have P2 := fun w => isCarriedClose_any p w
  unfold pcV at *
  cases h1 : coB a <;> cases h2 : ccB a <;> cases h3 : coB p <;> cases h4 : ccB p
  all_goals
    rw [h1] at A1
    rw [h2] at A2
    rw [h3] at P1
    rw [h4] at P2
    go_enter Tryz.func70, Tryz.ntmps70
    go_wp2_with (first
      | (go_at_call 46; (with_reducible refine (P1 _).mono ?_); rintro e w2 ⟨rfl, hb2⟩; have T2 : Box2 w a p w2 := Box2.make hb2; have X2 := T2; obtain ⟨⟨x0, x1, x2, x3⟩, ⟨y0, y1, y2, y3⟩, z0⟩ := X2)
      | (go_at_call 46; (with_reducible refine (A1 _).mono ?_); rintro e w3 ⟨rfl, hb3⟩; have T3 : Box2 w a p w3 := Box2.step hb3 (by assumption); have X3 := T3; obtain ⟨⟨x0, x1, x2, x3⟩, ⟨y0, y1, y2, y3⟩, z0⟩ := X3)
      | (go_at_call 47; (with_reducible refine (A2 _).mono ?_); rintro e w4 ⟨rfl, hb4⟩; have T4 : Box2 w a p w4 := Box2.step hb4 (by assumption); have X4 := T4; obtain ⟨⟨x0, x1, x2, x3⟩, ⟨y0, y1, y2, y3⟩, z0⟩ := X4)
      | (go_at_call 47; (with_reducible refine (P2 _).mono ?_); rintro e w5 ⟨rfl, hb5⟩; have T5 : Box2 w a p w5 := Box2.step hb5 (by assumption); have X5 := T5; obtain ⟨⟨x0, x1, x2, x3⟩, ⟨y0, y1, y2, y3⟩, z0⟩ := X5))
    go_ret
    exact ⟨ret_bool (by rw [HM.out, h1, h2, h3, h4]; rfl), by assumption⟩
set_option maxHeartbeats 4000000 in
theorem checkNeighbours_any (a p : Pc) (w : World) : Calls Tryz.prog 81 #[pcV a, pcV p] w fun e w' => e = .returned (.int .u8 (nbrE a p)) ∧ Below w.heap.size w w' := by
  have ag := Tryz.isAgg52
  have zg := Tryz.sizeOf52
  have HM := Lib.hid (show nbrE a p = if p.k = 1 ∧ a.k = 1 then 4 else if misB a p = true then 8 else 0 from rfl)
  obtain ⟨ka, sa, ca⟩ := a
  obtain ⟨kp, sp, cp⟩ := p
  by_cases h1 : kp = 1 <;> by_cases h2 : ka = 1
  all_goals
    try subst h1
    try subst h2
  · unfold pcV
    go_enter Tryz.func81, Tryz.ntmps81
    go_wp2
    go_ret
    exact ⟨ret_u8 (by rw [HM.out]; simp), ((Below.refl _ _).alloc (Nat.le_refl _) _).alloc (by simp) _⟩
  · have M := fun w => misplaced_any ⟨ka, sa, ca⟩ ⟨1, sp, cp⟩ w
    unfold pcV at *
    generalize misB ⟨ka, sa, ca⟩ ⟨1, sp, cp⟩ = B at *
    cases B
    all_goals
      go_enter Tryz.func81, Tryz.ntmps81
      go_wp2_with (go_at_call 70; (with_reducible refine (M _).mono ?_); rintro e w2 ⟨rfl, hb2⟩; have T2 : Box2 w ⟨ka, sa, ca⟩ ⟨1, sp, cp⟩ w2 := Box2.make hb2; have z0 := T2.2.2)
      go_ret
      exact ⟨ret_u8 (by rw [HM.out]; simp [h2]), z0⟩
  · have M := fun w => misplaced_any ⟨1, sa, ca⟩ ⟨kp, sp, cp⟩ w
    unfold pcV at *
    generalize misB ⟨1, sa, ca⟩ ⟨kp, sp, cp⟩ = B at *
    cases B
    all_goals
      go_enter Tryz.func81, Tryz.ntmps81
      go_wp2_with (go_at_call 70; (with_reducible refine (M _).mono ?_); rintro e w2 ⟨rfl, hb2⟩; have T2 : Box2 w ⟨1, sa, ca⟩ ⟨kp, sp, cp⟩ w2 := Box2.make hb2; have z0 := T2.2.2)
      go_ret
      exact ⟨ret_u8 (by rw [HM.out]; simp [h1]), z0⟩
  · have M := fun w => misplaced_any ⟨ka, sa, ca⟩ ⟨kp, sp, cp⟩ w
    unfold pcV at *
    generalize misB ⟨ka, sa, ca⟩ ⟨kp, sp, cp⟩ = B at *
    cases B
    all_goals
      go_enter Tryz.func81, Tryz.ntmps81
      go_wp2_with (go_at_call 70; (with_reducible refine (M _).mono ?_); rintro e w2 ⟨rfl, hb2⟩; have T2 : Box2 w ⟨ka, sa, ca⟩ ⟨kp, sp, cp⟩ w2 := Box2.make hb2; have z0 := T2.2.2)
      go_ret
      exact ⟨ret_u8 (by rw [HM.out]; simp [h1]), z0⟩
end Go.Proofs.YtnkpjkomokkhcaaGreatDoor
