/- Pieces: what the program's small functions return: carried tags, special bytes, names, classes of runes. -/
import Derived.Test.YtcgghmpafphcpaaGreatDoorPcs
import Derived.Test.YtcgghmpafphcpaaGreatDoorProg
import Derived.WalkKit
import Derived.WalkSpells
import Derived.WalkLawsBesides
import Derived.Lib.Hide
import Derived.Deep.QuietTactic
import Derived.Deep.LoopGhost
import Derived.Lib.OthersKept
import Derived.BigQuiet
import Derived.WalkSmall
namespace Go.Proofs.YtcgghmpafphcpaaGreatDoor
open Go Go.RowKit
def pcV (x : Pc) : Value := .agg #[.int .u8 x.k, .string x.s, .bool x.c]
theorem ret_bool {a b : Bool} (h : a = b) : Ending.returned (.bool a) = .returned (.bool b) := by rw [h]
theorem ret_u8 {a b : Int} (h : a = b) : Ending.returned (.int .u8 a) = .returned (.int .u8 b) := by rw [h]
theorem below_box {w : World} (o : Obj) : Below w.heap.size w (w.alloc o) := (Below.refl _ _).alloc (Nat.le_refl _) _
set_option maxHeartbeats 1000000 in
theorem isCarriedOpen_any (x : Pc) (w : World) : Calls Tryz.prog 99 #[pcV x] w fun e w' => e = .returned (.bool (coB x)) ∧ Below w.heap.size w w' := by
  obtain ⟨k, s, c⟩ := x
  unfold coB pcV
  have ag := Tryz.isAgg39
  have zg := Tryz.sizeOf39
  by_cases h : k = 2 <;> cases c
  all_goals
    go_enter Tryz.func99, Tryz.ntmps99
    go_wp2
    go_ret
    exact ⟨ret_bool (by simp [h]), below_box _⟩
set_option maxHeartbeats 1000000 in
theorem isCarriedClose_any (x : Pc) (w : World) : Calls Tryz.prog 100 #[pcV x] w fun e w' => e = .returned (.bool (ccB x)) ∧ Below w.heap.size w w' := by
  obtain ⟨k, s, c⟩ := x
  unfold ccB pcV
  have ag := Tryz.isAgg39
  have zg := Tryz.sizeOf39
  by_cases h : k = 3 <;> cases c
  all_goals
    go_enter Tryz.func100, Tryz.ntmps100
    go_wp2
    go_ret
    exact ⟨ret_bool (by simp [h]), below_box _⟩
set_option maxHeartbeats 1000000 in
theorem isSpecial_any (b : UInt8) (w : World) : Calls Tryz.prog 69 #[.int .u8 (b.toNat : Int)] w fun e w' => e = .returned (.bool (special b)) ∧ w' = w := by
  have e1 : special b = (decide ((b.toNat : Int) = 92) || decide ((b.toNat : Int) = 60) || decide ((b.toNat : Int) = 123)) := by
    unfold special
    have h : ∀ n : UInt8, (b == n) = decide ((b.toNat : Int) = (n.toNat : Int)) := fun n => by
      rw [Bool.eq_iff_iff]; simp [← UInt8.toNat_inj]; omega
    rw [h, h, h]; rfl
  have HS := Lib.hid e1; clear e1
  generalize (b.toNat : Int) = c at HS
  by_cases h1 : c = 92 <;> by_cases h2 : c = 60 <;> by_cases h3 : c = 123
  all_goals
    first
    | (exfalso; omega)
    | (go_enter Tryz.func69, Tryz.ntmps69
       go_wp2
       go_ret
       exact ⟨ret_bool (by rw [HS.out]; simp [h1, h2, h3]), rfl⟩)
/-- the table of classes: a class is 0 just for control runes -/
def Cls (w : World) : Prop := ∀ c, c < 128 → ∃ z : Int, w.cell? ⟨1, c, none⟩ = some (.int .u8 z) ∧ (z = 0 ↔ ctl c = true)
theorem Cls.below {B : Nat} {w w' : World} (h : Cls w) (hb : Below B w w') (hB : 1 < B) : Cls w' := fun c hc => by
  obtain ⟨z, h1, h2⟩ := h c hc
  exact ⟨z, by rw [hb.cell (p := ⟨1, c, none⟩) hB]; exact h1, h2⟩
set_option maxHeartbeats 1000000 in
theorem classOf_any (r : Nat) (w : World) (hr : r ≤ 2147483647) (hC : Cls w) :
    Calls Tryz.prog 76 #[.int .i32 (r : Int)] w fun e w' => (∃ z : Int, e = .returned (.int .u8 z) ∧ (z = 0 ↔ ctl r = true)) ∧ w' = w := by
  by_cases h : 127 < r
  · have hc : ctl r = false := by unfold ctl; simp; omega
    have HC := Lib.hid hc; clear hc
    go_enter Tryz.func76, Tryz.ntmps76
    go_wp2
    go_ret
    exact ⟨⟨1, rfl, by rw [HC.out]; simp⟩, rfl⟩
  · obtain ⟨z, h1, h2⟩ := hC r (by omega)
    have H2 := Lib.hid h2; clear h2
    clear hC
    go_enter Tryz.func76, Tryz.ntmps76
    go_wp2
    go_ret
    exact ⟨⟨z, rfl, H2.out⟩, rfl⟩
end Go.Proofs.YtcgghmpafphcpaaGreatDoor
