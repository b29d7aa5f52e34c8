/- The functions that tell names and words: what each returns, told by a list's bytes. -/
import Derived.Test.YtgcglaagjplbfaaProg
import Derived.WalkKit
import Derived.WalkSpells
import Derived.WalkLawsBesides
import Derived.Lib.Hide
namespace Go.Proofs.Ytgcglaagjplbfaa
open Go Go.RowKit
/-- a letter · begins a name · in a name · in a word -/
def isL (c : Int) : Bool := decide (97 ≤ c) && decide (c ≤ 122)
def isB (c : Int) : Bool := isL c || (decide (65 ≤ c) && decide (c ≤ 90))
def isN (c : Int) : Bool := isB c || (decide (48 ≤ c) && decide (c ≤ 57)) || decide (c = 95)
def isW (c : Int) : Bool := decide (33 ≤ c) && decide (c ≤ 126)
theorem ret_bool {a b : Bool} (h : a = b) : Ending.returned (.bool a) = .returned (.bool b) := by rw [h]
set_option maxHeartbeats 400000 in
theorem inWord_any (c : Int) (w : World) : Calls Try.prog 30 #[.int .u8 c] w fun e w' => e = .returned (.bool (isW c)) ∧ w = w' := by
  have e1 : isW c = (decide (33 ≤ c) && decide (c ≤ 126)) := rfl
  have HS := Lib.hid e1; clear e1
  by_cases h1 : 33 ≤ c <;> by_cases h2 : c ≤ 126
  all_goals
    go_enter Try.func30, Try.ntmps30
    go_wp2
    go_ret
    exact ⟨by rw [HS.out]; simp [*], rfl⟩
/-- all bytes are of a kind; those before place k are -/
def allB (p : Int → Bool) (s : ByteArray) : Bool := s.data.toList.all fun b => p (b.toNat : Int)
def upTo (p : Int → Bool) (s : ByteArray) (k : Nat) : Prop := ∀ i (h : i < s.size), i < k → p (s[i].toNat : Int) = true
theorem upTo_zero (p : Int → Bool) (s : ByteArray) : upTo p s 0 := fun _ _ h => absurd h (Nat.not_lt_zero _)
theorem upTo_succ {p : Int → Bool} {s : ByteArray} {k : Nat} (h : upTo p s k) (hk : k < s.size) (hp : p (s[k].toNat : Int) = true) : upTo p s (k + 1) := by
  intro i hi hik
  by_cases e : i = k
  · subst e; exact hp
  · exact h i hi (by omega)
theorem allB_true {p : Int → Bool} {s : ByteArray} {k : Nat} (h : upTo p s k) (hk : s.size ≤ k) : allB p s = true := by
  unfold allB
  rw [List.all_eq_true]
  intro b hb
  obtain ⟨i, hi, rfl⟩ := List.getElem_of_mem hb
  have hi' : i < s.size := by simpa using hi
  exact h i hi' (by omega)
theorem allB_false {p : Int → Bool} {s : ByteArray} {k : Nat} (hk : k < s.size) (hp : p (s[k].toNat : Int) = false) : allB p s = false := by
  unfold allB
  rw [List.all_eq_false]
  exact ⟨s[k], by show s.data[k] ∈ _; exact Array.mem_toList_iff.mpr (Array.getElem_mem _), by rw [hp]; simp⟩

set_option maxHeartbeats 1000000 in
theorem allAre36 (s : ByteArray) (w : World) (hs : s.size ≤ maxLen) :
    Calls Try.prog 29 #[.string s, .func (.func 30) #[] #[]] w fun e w' => e = .returned (.bool (allB isW s)) ∧ w = w' := by
  unfold maxLen at hs
  go_enter Try.func29, Try.ntmps29
  go_wp2
  go_loop [8] (fun i => ∃ k : Nat, k ≤ s.size ∧ i = .int .i64 k ∧ upTo isW s k) (fun i => s.size - (intOf i).toNat)
  case atStart => exact ⟨0, Nat.zero_le _, rfl, upTo_zero _ _⟩
  case round =>
    obtain ⟨k, hk, rfl, hu⟩ := hrel
    by_cases hlt : k < s.size
    · have HU := Lib.hid hu; clear hu
      cases hp : isW (s[k].toNat : Int)
      · have HP := Lib.hid hp
        go_wp2_with (go_at_call 30; refine (inWord_any _ _).mono ?_; rintro e w' ⟨rfl, rfl⟩)
        go_ret
        exact ⟨ret_bool (allB_false hlt HP.out).symm, rfl⟩
      · have HP := Lib.hid hp
        go_wp2_with (go_at_call 30; refine (inWord_any _ _).mono ?_; rintro e w' ⟨rfl, rfl⟩)
        go_round
        case rel => exact ⟨k + 1, by omega, by go_num, upTo_succ HU.out hlt HP.out⟩
        case measure => simp [intOf]; omega
    · go_wp2
      go_ret
      exact ⟨ret_bool (allB_true hu (by omega)).symm, rfl⟩

end Go.Proofs.Ytgcglaagjplbfaa
