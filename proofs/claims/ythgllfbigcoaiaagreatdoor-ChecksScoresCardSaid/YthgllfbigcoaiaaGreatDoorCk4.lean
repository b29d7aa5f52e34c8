/- Lists of lists of words; which are too many to be asked. -/
import Derived.Test.YthgllfbigcoaiaaGreatDoorCk3
namespace Go.Proofs.YthgllfbigcoaiaaGreatDoor
open Go Go.RowKit Go.Lib
set_option maxRecDepth 100000
def BoolEnd (e : Ending) : Prop := ∃ b : Bool, e = .returned (.bool b)
/-- lists of words in a slice -/
def noList : Value × List ByteArray := (.nilIface, [])
def ListsAt (w : World) (v : Value) (ls : List (Value × List ByteArray)) : Prop := SliceAt w.heap.size w v ls.length 1 (fun i _ => (ls.getD i noList).1) ∧ ∀ x ∈ ls, WdsAt w x.1 x.2
theorem ListsAt.step {w w' : World} {v : Value} {ls : List (Value × List ByteArray)} (hb : Below w.heap.size w w') (h : ListsAt w v ls) : ListsAt w' v ls := ⟨(SliceAt.below hb h.1).mono hb.size, fun x hx => (h.2 x hx).step hb⟩
theorem ls_mem {ls : List (Value × List ByteArray)} {k : Nat} (hk : k < ls.length) : ls.getD k noList ∈ ls := by
  rw [List.getD_eq_getElem?_getD, List.getElem?_eq_getElem hk]; exact List.getElem_mem hk
set_option maxHeartbeats 8000000 in
theorem many_any (ls : List (Value × List ByteArray)) (v : Value) (w : World) (h : ListsAt w v ls) : Calls Tryz.prog 10 #[v] w fun e w' => BoolEnd e ∧ w' = w := by
  obtain ⟨⟨p, cap, rfl, hl, hc, hrow⟩, hz⟩ := h
  unfold maxLen at hc
  have HR := Lib.hid hrow
  have HZ := Lib.hid hz
  clear hrow hz
  go_enter Tryz.func10, Tryz.ntmps10
  go_wp2
  go_loop [3, 4] (fun n i => ∃ (k : Nat) (z : Int), k ≤ ls.length ∧ i = .int .i64 k ∧ n = .int .i64 z) (fun _ i => ls.length - (RowKit.intOf i).toNat)
  case atStart => exact ⟨0, 0, Nat.zero_le _, rfl, rfl⟩
  case round =>
    obtain ⟨k, z, hk, rfl, rfl⟩ := hrel
    by_cases hlt : k < ls.length
    · obtain ⟨A, rfl, hA, hcell⟩ := HR.out (by omega)
      have hx := HZ.out _ (ls_mem hlt)
      have x0 : w.cell? (A.add k) = some (ls.getD k noList).1 := by
        have := hcell k 0 hlt (by omega)
        rwa [Nat.mul_one, Nat.add_zero] at this
      clear hcell
      obtain ⟨⟨q, cap2, hq, hl2, hc2, hrow2⟩, hz2⟩ := hx
      rw [hq] at x0
      clear hq
      generalize (ls.getD k noList).2 = L at *
      unfold maxLen at hc2
      have HR2 := Lib.hid hrow2
      clear hrow2 hz2
      rcases (show L.length ≤ 40 ∨ (40 < L.length ∧ L.length ≤ 512) ∨ (512 < L.length ∧ L.length ≤ 600) ∨ 600 < L.length by omega) with h1 | ⟨h1, h2⟩ | ⟨h1, h2⟩ | h1
      case inr.inl =>
        have i1 : (40 : Int) < (L.length : Int) := by omega
        have i2 : (L.length : Int) ≤ 512 := by omega
        go_wp2
        go_ret
        exact ⟨⟨_, rfl⟩, rfl⟩
      case inr.inr.inr =>
        have i1 : (40 : Int) < (L.length : Int) := by omega
        have i2 : ¬ (L.length : Int) ≤ 512 := by omega
        have i3 : (600 : Int) < (L.length : Int) := by omega
        go_wp2
        go_ret
        exact ⟨⟨_, rfl⟩, rfl⟩
      all_goals
        have i3 : ¬ (600 : Int) < (L.length : Int) := by omega
        first
          | (have i1 : ¬ (40 : Int) < (L.length : Int) := by omega)
          | (have i1 : (40 : Int) < (L.length : Int) := by omega
             have i2 : ¬ (L.length : Int) ≤ 512 := by omega)
        go_wp2
        go_loop [3, 5] (fun n i => ∃ (m : Nat) (z : Int), m ≤ L.length ∧ i = .int .i64 m ∧ n = .int .i64 z) (fun _ i => L.length - (RowKit.intOf i).toNat)
        case atStart => exact ⟨0, z, Nat.zero_le _, rfl, rfl⟩
        case round =>
          obtain ⟨m, z2, hm, rfl, rfl⟩ := hrel
          by_cases hlt2 : m < L.length
          · obtain ⟨A2, rfl, hA2, hcell2⟩ := HR2.out (by omega)
            have y0 : w.cell? (A2.add m) = some (.string (L.getD m ⟨#[]⟩)) := by
              have := hcell2 m 0 hlt2 (by omega)
              rwa [Nat.mul_one, Nat.add_zero] at this
            clear hcell2
            generalize L.getD m ⟨#[]⟩ = xw at y0
            go_wp2
            go_round
            case rel => exact ⟨m + 1, _, by omega, by go_num, rfl⟩
            case measure => simp [RowKit.intOf]; omega
          · go_wp2
            go_round
            case rel => exact ⟨k + 1, _, by omega, by go_num, rfl⟩
            case measure => simp [RowKit.intOf]; omega
    · go_wp2
      go_ret
      exact ⟨⟨_, rfl⟩, rfl⟩
end Go.Proofs.YthgllfbigcoaiaaGreatDoor
