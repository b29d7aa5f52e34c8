/- Names by the specification, and names, words and plain words by the program: what each returns. -/
import Derived.Test.YtgcglaagjplbfaaNames2
namespace Go.Proofs.Ytgcglaagjplbfaa
open Go Go.RowKit
theorem get0 {s : ByteArray} (h : 0 < s.size) : s.get! 0 = s[0] := by
  show s.data[0]! = s.data[0]
  exact getElem!_pos s.data 0 h
theorem nameB_of {s : ByteArray} (h1 : 1 ≤ s.size) (h2 : s.size ≤ 12) : nameB s = (isB ((s.get! 0).toNat : Int) && allB isN s) := by unfold nameB; simp [h1, h2]
theorem nameB_not {s : ByteArray} (h : s.size < 1 ∨ 12 < s.size) : nameB s = false := by
  unfold nameB; rcases h with h | h
  · simp [show ¬ 1 ≤ s.size by omega]
  · simp [show ¬ s.size ≤ 12 by omega]
theorem nameB_first {s : ByteArray} (h1 : 0 < s.size) (hb : isB (s[0].toNat : Int) = false) : nameB s = false := by
  unfold nameB; rw [get0 h1, hb]; simp
theorem nameB_later {s : ByteArray} {k : Nat} (hk : k < s.size) (hn : isN (s[k].toNat : Int) = false) : nameB s = false := by
  unfold nameB; rw [allB_false hk hn]; simp
theorem nameB_all {s : ByteArray} {k : Nat} (h1 : 1 ≤ s.size) (h2 : s.size ≤ 12) (hb : ∀ h : 0 < s.size, 0 < k → isB (s[0].toNat : Int) = true) (hu : upTo isN s k) (hk : s.size ≤ k) : nameB s = true := by
  rw [nameB_of h1 h2, get0 (by omega), hb (by omega) (by omega), allB_true hu hk]; rfl
theorem isL_le {c : Int} (h : isL c = true) : 97 ≤ c := by unfold isL at h; simp at h; omega
/-- what holds of the loop's counter -/
def NameAt (s : ByteArray) (v : Value) : Prop := ∃ k : Nat, k ≤ s.size ∧ v = .int .i64 k ∧ (∀ h : 0 < s.size, 0 < k → isB (s[0].toNat : Int) = true) ∧ upTo isN s k
theorem isB_first {c : Int} (h : 65 ≤ c ∧ c ≤ 90 ∨ isL c = true) : isB c = true := by unfold isB; rcases h with h | h <;> simp [h]
theorem isB_not {c : Int} (h : ¬ (65 ≤ c ∧ c ≤ 90)) (hl : isL c = false) : isB c = false := by unfold isB; rw [hl]; simp; omega
theorem isN_yes {c : Int} (h : 65 ≤ c ∧ c ≤ 90 ∨ 48 ≤ c ∧ c ≤ 57 ∨ c = 95 ∨ isL c = true) : isN c = true := by
  unfold isN isB; rcases h with h | h | h | h <;> simp [h]
theorem isN_not {c : Int} (h : ¬ (65 ≤ c ∧ c ≤ 90)) (h2 : ¬ (48 ≤ c ∧ c ≤ 57)) (h3 : c ≠ 95) (hl : isL c = false) : isN c = false := by unfold isN isB; rw [hl]; simp; omega
theorem NameAt.next0 {s : ByteArray} (hlt : 0 < s.size) (hb : isB (s[0].toNat : Int) = true) (hu : upTo isN s 0) : NameAt s (.int .i64 1) :=
  ⟨1, hlt, rfl, fun _ _ => hb, upTo_succ hu hlt (isN_of_isB hb)⟩
theorem NameAt.next {s : ByteArray} {k : Nat} (hlt : k < s.size) (hb : ∀ h : 0 < s.size, 0 < k → isB (s[0].toNat : Int) = true) (hk : 0 < k) (hn : isN (s[k].toNat : Int) = true) (hu : upTo isN s k) : NameAt s (.int .i64 (k + 1 : Nat)) :=
  ⟨k + 1, hlt, rfl, fun h _ => hb h hk, upTo_succ hu hlt hn⟩
theorem nonempty {s : ByteArray} (h : 1 ≤ s.size) : s.toList.isEmpty = false := by
  rw [ByteArray.toList_eq]
  cases e : s.data.toList with
  | nil => have : s.size = 0 := by have := congrArg List.length e; simpa using this
           omega
  | cons _ _ => rfl
theorem isempty {s : ByteArray} (h : ¬ 1 ≤ s.size) : s.toList.isEmpty = true := by
  rw [ByteArray.toList_eq]
  cases e : s.data.toList with
  | nil => rfl
  | cons _ _ => have : s.size ≠ 0 := by have := congrArg List.length e; simp at this; omega
                omega
set_option maxHeartbeats 1000000 in
theorem word_any (s : ByteArray) (w : World) (hs : s.size ≤ maxLen) :
    Calls Try.prog 20 #[.string s] w fun e w' => e = .returned (.bool (wordB s)) ∧ w = w' := by
  by_cases h0 : 1 ≤ s.size <;> by_cases h24 : s.size ≤ 24 <;> cases hl : allB isW s
  all_goals
    first
    | (exfalso; omega)
    | (first | have hE := nonempty h0 | have hE := isempty h0
       have HL := Lib.hid hl
       go_enter Try.func20, Try.ntmps20
       go_wp2_with (go_at_call 29; refine (allAre36 _ _ (by assumption)).mono ?_; rintro e w' ⟨rfl, rfl⟩)
       go_ret
       exact ⟨ret_bool (by first | rw [wordB_not (by omega)] | rw [wordB_of h0 h24, HL.out]), rfl⟩)
end Go.Proofs.Ytgcglaagjplbfaa
