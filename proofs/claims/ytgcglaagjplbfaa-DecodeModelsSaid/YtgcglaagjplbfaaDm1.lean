/- Models: places, costs, the order of strings and of pairs, on both sides. -/
import Derived.Test.YtgcglaagjplbfaaNames3
import Derived.Deep.QuietTactic
import Derived.Deep.LoopGhost
import Derived.BigQuiet
import Derived.WalkSmall
import Derived.Sort.Walk0
namespace Go.Proofs.Ytgcglaagjplbfaa
open Go Go.RowKit Go.Lib
set_option maxRecDepth 100000
theorem below_box {w : World} (o : Obj) : Below w.heap.size w (w.alloc o) := (Below.refl _ _).alloc (Nat.le_refl _) _
theorem below_next {w wr w' : World} (h : Below w.heap.size w wr) (hb : Below wr.heap.size wr w') : Below w.heap.size w w' := h.trans (hb.mono h.size)
theorem ret_u8 {a b : Int} (h : a = b) : Ending.returned (.int .u8 a) = .returned (.int .u8 b) := by rw [h]
theorem ret_int {a b : Int} (h : a = b) : Ending.returned (.int .i64 a) = .returned (.int .i64 b) := by rw [h]
theorem lt_flip {x y : List UInt8} (hn : (x == y) = false) : Op.bytesLess x y = !Op.bytesLess y x := by
  rw [bytesLess_eq, bytesLess_eq]
  have hn' : x ≠ y := by simpa using hn
  by_cases h : x < y
  · have h2 : ¬ y < x := fun h' => List.lt_irrefl _ (List.lt_trans h h')
    simp [h, h2]
  · have h2 : y < x := by
      rcases List.le_iff_lt_or_eq.1 (List.not_lt.1 h) with h1 | h1
      · exact h1
      · exact absurd h1.symm hn'
    simp [h, h2]
theorem lt_self (x : List UInt8) : Op.bytesLess x x = false := by
  rw [bytesLess_eq]
  simp [List.lt_irrefl]
def eqB (a b : ByteArray) : Bool := a.toList == b.toList
def ltB (a b : ByteArray) : Bool := Op.bytesLess a.toList b.toList
/-- a word, or none -/
def placeB (s : ByteArray) : Bool := s.toList.isEmpty || wordB s
def costB (n : Int) : Bool := decide (0 ≤ n) && decide (n ≤ 10000)
set_option maxHeartbeats 1000000 in
theorem isCost_any (n : Int) (w : World) : Calls Try.prog 24 #[.int .i64 n] w fun e w' => e = .returned (.bool (costB n)) ∧ w' = w := by
  have e1 : costB n = (decide (0 ≤ n) && decide (n ≤ 10000)) := rfl
  have HS := Lib.hid e1; clear e1
  by_cases h1 : 0 ≤ n <;> by_cases h2 : n ≤ 10000
  all_goals
    go_enter Try.func24, Try.ntmps24
    go_wp2
    go_ret
    exact ⟨ret_bool (by rw [HS.out]; simp [*]), rfl⟩
set_option maxHeartbeats 1000000 in
theorem refCost_any (n : Int) (w : World) : Calls Try.prog 27 #[.int .i64 n] w fun e w' => e = .returned (.bool (costB n)) ∧ w' = w := by
  have e1 : costB n = (decide (0 ≤ n) && decide (n ≤ 10000)) := rfl
  have HS := Lib.hid e1; clear e1
  by_cases h1 : 0 ≤ n <;> by_cases h2 : n ≤ 10000
  all_goals
    go_enter Try.func27, Try.ntmps27
    go_wp2
    go_ret
    exact ⟨ret_bool (by rw [HS.out]; simp [*]), rfl⟩
set_option maxHeartbeats 1000000 in
theorem isPlace_any (s : ByteArray) (w : World) (hs : s.size ≤ maxLen) : Calls Try.prog 13 #[.string s] w fun e w' => e = .returned (.bool (placeB s)) ∧ w' = w := by
  have cW := word_any s w hs
  have HS := Lib.hid (show placeB s = (s.toList.isEmpty || wordB s) from rfl)
  obtain ⟨E, hE⟩ : ∃ E, s.toList.isEmpty = E := ⟨_, rfl⟩
  rw [hE] at HS
  generalize wordB s = W at cW HS
  cases E
  all_goals
    go_enter Try.func13, Try.ntmps13
    go_wp2_with (go_at_call 20; (with_reducible refine cW.mono ?_); rintro e w' ⟨rfl, rfl⟩)
    go_ret
    exact ⟨ret_bool (by rw [HS.out]; simp), rfl⟩
set_option maxHeartbeats 1000000 in
theorem refPlace_any (s : ByteArray) (w : World) (hs : s.size ≤ maxLen) : Calls Try.prog 16 #[.string s] w fun e w' => e = .returned (.bool (placeB s)) ∧ w' = w := by
  have cW := refWord_any s w hs
  have HS := Lib.hid (show placeB s = (s.toList.isEmpty || wordB s) from rfl)
  obtain ⟨E, hE⟩ : ∃ E, s.toList.isEmpty = E := ⟨_, rfl⟩
  rw [hE] at HS
  generalize wordB s = W at cW HS
  cases E
  all_goals
    go_enter Try.func16, Try.ntmps16
    go_wp2_with (go_at_call 22; (with_reducible refine cW.mono ?_); rintro e w' ⟨rfl, rfl⟩)
    go_ret
    exact ⟨ret_bool (by rw [HS.out]; simp), rfl⟩
set_option maxHeartbeats 1000000 in
theorem disorder_any (b : Bool) (w : World) : Calls Try.prog 25 #[.bool b] w fun e w' => e = .returned (.int .u8 (if b = true then 6 else 1)) ∧ w' = w := by
  cases b
  all_goals
    go_enter Try.func25, Try.ntmps25
    go_wp2
    go_ret
    exact ⟨rfl, rfl⟩
set_option maxHeartbeats 1000000 in
theorem isNaN_any (s : ByteArray) (w : World) : Calls Try.prog 33 #[.string s] w fun e w' => e = .returned (.bool false) ∧ w' = w := by
  go_enter Try.func33, Try.ntmps33
  go_wp2
  go_ret
  exact ⟨rfl, rfl⟩
def cmpN (a b : ByteArray) : Int := if ltB a b = true then -1 else if eqB a b = true then 0 else 1
set_option maxHeartbeats 2000000 in
theorem compare_any (a b : ByteArray) (w : World) : Calls Try.prog 32 #[.string a, .string b] w fun e w' => e = .returned (.int .i64 (cmpN a b)) ∧ w' = w := by
  have cA := fun w => isNaN_any a w
  have cB := fun w => isNaN_any b w
  have HS := Lib.hid (show cmpN a b = if Op.bytesLess a.toList b.toList = true then -1 else if (a.toList == b.toList) = true then 0 else 1 from rfl)
  cases he : (a.toList == b.toList)
  · have hf : Op.bytesLess b.toList a.toList = !Op.bytesLess a.toList b.toList := by rw [lt_flip he, Bool.not_not]
    cases hl : Op.bytesLess a.toList b.toList
    all_goals
      rw [hl] at hf
      have hg := hf
      rw [hl, he] at HS
      clear hf
      go_enter Try.func32, Try.ntmps32
      go_wp2_with (first
        | (go_at_call 33; (with_reducible refine (cA _).mono ?_); rintro e w' ⟨rfl, rfl⟩)
        | (go_at_call 33; (with_reducible refine (cB _).mono ?_); rintro e w' ⟨rfl, rfl⟩))
      go_ret
      exact ⟨ret_int (by rw [HS.out]; rfl), rfl⟩
  · have hab : a.toList = b.toList := eq_of_beq he
    have hl : Op.bytesLess a.toList b.toList = false := by rw [hab]; exact lt_self _
    have hg : Op.bytesLess b.toList a.toList = false := by rw [hab]; exact lt_self _
    rw [hl, he] at HS
    clear hab
    go_enter Try.func32, Try.ntmps32
    go_wp2_with (first
      | (go_at_call 33; (with_reducible refine (cA _).mono ?_); rintro e w' ⟨rfl, rfl⟩)
      | (go_at_call 33; (with_reducible refine (cB _).mono ?_); rintro e w' ⟨rfl, rfl⟩))
    go_ret
    exact ⟨ret_int (by rw [HS.out]; rfl), rfl⟩
def orN (x y : Int) : Int := if x = 0 then y else x
set_option maxHeartbeats 2000000 in
theorem or_any (x y : Int) (g : Nat) (w : World) (h0 : w.cell? ⟨g, 0, none⟩ = some (.int .i64 x)) (h1 : w.cell? ⟨g, 1, none⟩ = some (.int .i64 y)) :
    Calls Try.prog 31 #[.slice (some ⟨g, 0, none⟩) 2 2] w fun e w' => e = .returned (.int .i64 (orN x y)) ∧ w' = w := by
  have HS := Lib.hid (show orN x y = if x = 0 then y else x from rfl)
  go_enter Try.func31, Try.ntmps31
  go_wp2
  go_loop [8] (fun i => ∃ k : Nat, k ≤ 2 ∧ i = .int .i64 k ∧ (1 ≤ k → x = 0) ∧ (2 ≤ k → y = 0)) (fun i => 2 - (RowKit.intOf i).toNat)
  case atStart => exact ⟨0, by omega, rfl, by omega, by omega⟩
  case round =>
    obtain ⟨k, hk, rfl, hx, hy⟩ := hrel
    rcases (show k = 0 ∨ k = 1 ∨ k = 2 by omega) with rfl | rfl | rfl
    · by_cases hx0 : x = 0
      · subst hx0
        go_wp2
        go_round
        case rel => exact ⟨1, by omega, rfl, by simp, by simp⟩
        case measure => simp [RowKit.intOf]
      · have hxb : (x == 0) = false := by simpa using hx0
        have HX := Lib.hid hx0
        go_wp2
        go_ret
        exact ⟨ret_int (by rw [HS.out]; simp [HX.out]), rfl⟩
    · have hx0 := hx (by omega)
      subst hx0
      by_cases hy0 : y = 0
      · subst hy0
        go_wp2
        go_round
        case rel => exact ⟨2, by omega, rfl, by simp, by simp⟩
        case measure => simp [RowKit.intOf]
      · have hyb : (y == 0) = false := by simpa using hy0
        go_wp2
        go_ret
        exact ⟨ret_int (by rw [HS.out]; simp), rfl⟩
    · have hx0 := hx (by omega)
      have hy0 := hy (by omega)
      subst hx0 hy0
      go_wp2
      go_ret
      exact ⟨ret_int (by rw [HS.out]; rfl), rfl⟩
end Go.Proofs.Ytgcglaagjplbfaa
