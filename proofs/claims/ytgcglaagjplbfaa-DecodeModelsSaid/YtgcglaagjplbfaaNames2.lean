/- Names and words as the specification's own functions tell them. -/
import Derived.Test.YtgcglaagjplbfaaNames
namespace Go.Proofs.Ytgcglaagjplbfaa
open Go Go.RowKit
/-- a word · a plain word · a name -/
def wordB (s : ByteArray) : Bool := decide (1 ≤ s.size) && decide (s.size ≤ 24) && allB isW s
def plainB (s : ByteArray) : Bool := decide (1 ≤ s.size) && decide (s.size ≤ 24) && allB isL s
def nameB (s : ByteArray) : Bool := decide (1 ≤ s.size) && decide (s.size ≤ 12) && isB ((s.get! 0).toNat : Int) && allB isN s
theorem isN_of_isB {c : Int} (h : isB c = true) : isN c = true := by unfold isN; rw [h]; rfl
theorem isW_of_isL {c : Int} (h : isL c = true) : isW c = true := by unfold isL at h; unfold isW; simp at h ⊢; omega
theorem allB_mono {p q : Int → Bool} (h : ∀ c, p c = true → q c = true) {s : ByteArray} (hs : allB p s = true) : allB q s = true := by
  unfold allB at hs ⊢; rw [List.all_eq_true] at hs ⊢; exact fun b hb => h _ (hs b hb)
theorem upTo_of_allB {p : Int → Bool} {s : ByteArray} (h : allB p s = true) : upTo p s s.size := by
  unfold allB at h; rw [List.all_eq_true] at h
  exact fun i hi _ => h _ (by show s.data[i] ∈ _; exact Array.mem_toList_iff.mpr (Array.getElem_mem _))
theorem wordB_of {s : ByteArray} (h1 : 1 ≤ s.size) (h2 : s.size ≤ 24) : wordB s = allB isW s := by unfold wordB; simp [h1, h2]
theorem wordB_not {s : ByteArray} (h : s.size < 1 ∨ 24 < s.size) : wordB s = false := by
  unfold wordB; rcases h with h | h
  · simp [show ¬ 1 ≤ s.size by omega]
  · simp [show ¬ s.size ≤ 24 by omega]
theorem plainB_and (s : ByteArray) : plainB s = (wordB s && allB isL s) := by
  unfold plainB wordB
  by_cases h : allB isL s = true
  · rw [h, allB_mono (fun _ => isW_of_isL) h]; simp
  · simp [Bool.not_eq_true] at h; rw [h]; simp
set_option maxHeartbeats 1000000 in
theorem refWord_any (s : ByteArray) (w : World) (hs : s.size ≤ maxLen) :
    Calls Try.prog 22 #[.string s] w fun e w' => e = .returned (.bool (wordB s)) ∧ w = w' := by
  unfold maxLen at hs
  by_cases h0 : 1 ≤ s.size <;> by_cases h24 : s.size ≤ 24
  · go_enter Try.func22, Try.ntmps22
    go_wp2
    go_loop [3] (fun i => ∃ k : Nat, k ≤ s.size ∧ i = .int .i64 k ∧ upTo isW s k) (fun i => s.size - (intOf i).toNat)
    case atStart => exact ⟨0, Nat.zero_le _, rfl, upTo_zero _ _⟩
    case round =>
      obtain ⟨k, hk, rfl, hu⟩ := hrel
      have HU := Lib.hid hu; clear hu
      by_cases hlt : k < s.size
      · by_cases h1 : 33 ≤ (s[k].toNat : Int) <;> by_cases h2 : (s[k].toNat : Int) ≤ 126
        · go_wp2
          go_round
          case rel => exact ⟨k + 1, by omega, by go_num, upTo_succ HU.out hlt (by unfold isW; simp; omega)⟩
          case measure => simp [intOf]; omega
        all_goals
          go_wp2
          go_ret
          exact ⟨ret_bool (by rw [wordB_of h0 h24, allB_false hlt (by unfold isW; simp; omega)]), rfl⟩
      · go_wp2
        go_ret
        exact ⟨ret_bool (by rw [wordB_of h0 h24, allB_true HU.out (by omega)]), rfl⟩
  all_goals
    first
    | (exfalso; omega)
    | (go_enter Try.func22, Try.ntmps22
       go_wp2
       go_ret
       exact ⟨ret_bool (by rw [wordB_not (by omega)]), rfl⟩)
end Go.Proofs.Ytgcglaagjplbfaa
