/- The functions that tell names and words: what each returns, told by a list's bytes. Names and words as the specification's own functions tell them. Names by the specification, and names, words and plain words by the program: what each returns. -/
import Derived.Test.YtgddmegjncbndaaGreatDoorProg
import Derived.WalkKit
import Derived.WalkSpells
import Derived.WalkLawsBesides
import Derived.Lib.Hide
namespace Go.Proofs.YtgddmegjncbndaaGreatDoor
open Go Go.RowKit
/-- a letter · begins a name · in a name · in a word -/
def isL (c : Int) : Bool := decide (97 ≤ c) && decide (c ≤ 122)
def isB (c : Int) : Bool := isL c || (decide (65 ≤ c) && decide (c ≤ 90))
def isN (c : Int) : Bool := isB c || (decide (48 ≤ c) && decide (c ≤ 57)) || decide (c = 95)
def isW (c : Int) : Bool := decide (33 ≤ c) && decide (c ≤ 126)
theorem ret_bool {a b : Bool} (h : a = b) : Ending.returned (.bool a) = .returned (.bool b) := by rw [h]
set_option maxHeartbeats 400000 in
theorem letter_any (c : Int) (w : World) : Calls Tryz.prog 69 #[.int .u8 c] w fun e w' => e = .returned (.bool (isL c)) ∧ w = w' := by
  have e1 : isL c = (decide (97 ≤ c) && decide (c ≤ 122)) := rfl
  have HS := Lib.hid e1; clear e1
  by_cases h1 : 97 ≤ c <;> by_cases h2 : c ≤ 122
  all_goals
    go_enter Tryz.func69, Tryz.ntmps69
    go_wp2
    go_ret
    exact ⟨by rw [HS.out]; simp [*], rfl⟩
set_option maxHeartbeats 400000 in
theorem refLetter_any (c : Int) (w : World) : Calls Tryz.prog 80 #[.int .u8 c] w fun e w' => e = .returned (.bool (isL c)) ∧ w = w' := by
  have e1 : isL c = (decide (97 ≤ c) && decide (c ≤ 122)) := rfl
  have HS := Lib.hid e1; clear e1
  by_cases h1 : 97 ≤ c <;> by_cases h2 : c ≤ 122
  all_goals
    go_enter Tryz.func80, Tryz.ntmps80
    go_wp2
    go_ret
    exact ⟨by rw [HS.out]; simp [*], rfl⟩
set_option maxHeartbeats 1000000 in
theorem beginsName_any (c : Int) (w : World) : Calls Tryz.prog 101 #[.int .u8 c] w fun e w' => e = .returned (.bool (isB c)) ∧ w = w' := by
  have e1 : isB c = (isL c || (decide (65 ≤ c) && decide (c ≤ 90))) := rfl
  have HS := Lib.hid e1; clear e1
  by_cases h1 : 65 ≤ c <;> by_cases h2 : c ≤ 90 <;> cases h3 : isL c
  all_goals
    first
    | (exfalso; omega)
    | (go_enter Tryz.func101, Tryz.ntmps101
       go_wp2_with (go_at_call 69; refine (letter_any _ _).mono ?_; rintro e w' ⟨rfl, rfl⟩)
       go_ret
       exact ⟨ret_bool (by rw [HS.out, Bool.eq_iff_iff]; simp [h3]; try omega), rfl⟩)
set_option maxHeartbeats 1000000 in
theorem inName_any (c : Int) (w : World) : Calls Tryz.prog 102 #[.int .u8 c] w fun e w' => e = .returned (.bool (isN c)) ∧ w = w' := by
  have e1 : isN c = (isB c || (decide (48 ≤ c) && decide (c ≤ 57)) || decide (c = 95)) := rfl
  have HS := Lib.hid e1; clear e1
  by_cases h1 : 48 ≤ c <;> by_cases h2 : c ≤ 57 <;> by_cases h4 : c = 95 <;> cases h3 : isB c
  all_goals
    first
    | (exfalso; omega)
    | (go_enter Tryz.func102, Tryz.ntmps102
       go_wp2_with (go_at_call 101; refine (beginsName_any _ _).mono ?_; rintro e w' ⟨rfl, rfl⟩)
       go_ret
       exact ⟨ret_bool (by rw [HS.out, Bool.eq_iff_iff]; simp [h3]; try omega), rfl⟩)

/-- all bytes are of a kind; those before place k are -/
def allB (p : Int → Bool) (s : ByteArray) : Bool := s.data.toList.all fun b => p (b.toNat : Int)
def upTo (p : Int → Bool) (s : ByteArray) (k : Nat) : Prop := ∀ i (h : i < s.size), i < k → p (s[i].toNat : Int) = true
theorem upTo_zero (p : Int → Bool) (s : ByteArray) : upTo p s 0 := fun _ _ h => absurd h (Nat.not_lt_zero _)
theorem upTo_succ {p : Int → Bool} {s : ByteArray} {k : Nat} (h : upTo p s k) (hk : k < s.size) (hp : p (s[k].toNat : Int) = true) : upTo p s (k + 1) := by
  intro i hi hik
  by_cases e : i = k
  · subst e; exact hp
  · exact h i hi (by omega)
theorem allB_true {p : Int → Bool} {s : ByteArray} {k : Nat} (h : upTo p s k) (hk : s.size ≤ k) : allB p s = true := by
  unfold allB
  rw [List.all_eq_true]
  intro b hb
  obtain ⟨i, hi, rfl⟩ := List.getElem_of_mem hb
  have hi' : i < s.size := by simpa using hi
  exact h i hi' (by omega)
theorem allB_false {p : Int → Bool} {s : ByteArray} {k : Nat} (hk : k < s.size) (hp : p (s[k].toNat : Int) = false) : allB p s = false := by
  unfold allB
  rw [List.all_eq_false]
  exact ⟨s[k], by show s.data[k] ∈ _; exact Array.mem_toList_iff.mpr (Array.getElem_mem _), by rw [hp]; simp⟩

set_option maxHeartbeats 1000000 in
theorem allAre34 (s : ByteArray) (w : World) (hs : s.size ≤ maxLen) :
    Calls Tryz.prog 47 #[.string s, .func (.func 102) #[] #[]] w fun e w' => e = .returned (.bool (allB isN s)) ∧ w = w' := by
  unfold maxLen at hs
  go_enter Tryz.func47, Tryz.ntmps47
  go_wp2
  go_loop [8] (fun i => ∃ k : Nat, k ≤ s.size ∧ i = .int .i64 k ∧ upTo isN s k) (fun i => s.size - (intOf i).toNat)
  case atStart => exact ⟨0, Nat.zero_le _, rfl, upTo_zero _ _⟩
  case round =>
    obtain ⟨k, hk, rfl, hu⟩ := hrel
    by_cases hlt : k < s.size
    · have HU := Lib.hid hu; clear hu
      cases hp : isN (s[k].toNat : Int)
      · have HP := Lib.hid hp
        go_wp2_with (go_at_call 102; refine (inName_any _ _).mono ?_; rintro e w' ⟨rfl, rfl⟩)
        go_ret
        exact ⟨ret_bool (allB_false hlt HP.out).symm, rfl⟩
      · have HP := Lib.hid hp
        go_wp2_with (go_at_call 102; refine (inName_any _ _).mono ?_; rintro e w' ⟨rfl, rfl⟩)
        go_round
        case rel => exact ⟨k + 1, by omega, by go_num, upTo_succ HU.out hlt HP.out⟩
        case measure => simp [intOf]; omega
    · go_wp2
      go_ret
      exact ⟨ret_bool (allB_true hu (by omega)).symm, rfl⟩

set_option maxHeartbeats 1000000 in
theorem allAre37 (s : ByteArray) (w : World) (hs : s.size ≤ maxLen) :
    Calls Tryz.prog 47 #[.string s, .func (.func 69) #[] #[]] w fun e w' => e = .returned (.bool (allB isL s)) ∧ w = w' := by
  unfold maxLen at hs
  go_enter Tryz.func47, Tryz.ntmps47
  go_wp2
  go_loop [8] (fun i => ∃ k : Nat, k ≤ s.size ∧ i = .int .i64 k ∧ upTo isL s k) (fun i => s.size - (intOf i).toNat)
  case atStart => exact ⟨0, Nat.zero_le _, rfl, upTo_zero _ _⟩
  case round =>
    obtain ⟨k, hk, rfl, hu⟩ := hrel
    by_cases hlt : k < s.size
    · have HU := Lib.hid hu; clear hu
      cases hp : isL (s[k].toNat : Int)
      · have HP := Lib.hid hp
        go_wp2_with (go_at_call 69; refine (letter_any _ _).mono ?_; rintro e w' ⟨rfl, rfl⟩)
        go_ret
        exact ⟨ret_bool (allB_false hlt HP.out).symm, rfl⟩
      · have HP := Lib.hid hp
        go_wp2_with (go_at_call 69; refine (letter_any _ _).mono ?_; rintro e w' ⟨rfl, rfl⟩)
        go_round
        case rel => exact ⟨k + 1, by omega, by go_num, upTo_succ HU.out hlt HP.out⟩
        case measure => simp [intOf]; omega
    · go_wp2
      go_ret
      exact ⟨ret_bool (allB_true hu (by omega)).symm, rfl⟩
end Go.Proofs.YtgddmegjncbndaaGreatDoor
namespace Go.Proofs.YtgddmegjncbndaaGreatDoor
open Go Go.RowKit
/-- a word · a plain word · a name -/
def wordB (s : ByteArray) : Bool := decide (1 ≤ s.size) && decide (s.size ≤ 24) && allB isW s
def plainB (s : ByteArray) : Bool := decide (1 ≤ s.size) && decide (s.size ≤ 24) && allB isL s
def nameB (s : ByteArray) : Bool := decide (1 ≤ s.size) && decide (s.size ≤ 12) && isB ((s.get! 0).toNat : Int) && allB isN s
theorem isN_of_isB {c : Int} (h : isB c = true) : isN c = true := by unfold isN; rw [h]; rfl
theorem isW_of_isL {c : Int} (h : isL c = true) : isW c = true := by unfold isL at h; unfold isW; simp at h ⊢; omega
theorem allB_mono {p q : Int → Bool} (h : ∀ c, p c = true → q c = true) {s : ByteArray} (hs : allB p s = true) : allB q s = true := by
  unfold allB at hs ⊢; rw [List.all_eq_true] at hs ⊢; exact fun b hb => h _ (hs b hb)
theorem upTo_of_allB {p : Int → Bool} {s : ByteArray} (h : allB p s = true) : upTo p s s.size := by
  unfold allB at h; rw [List.all_eq_true] at h
  exact fun i hi _ => h _ (by show s.data[i] ∈ _; exact Array.mem_toList_iff.mpr (Array.getElem_mem _))
theorem wordB_of {s : ByteArray} (h1 : 1 ≤ s.size) (h2 : s.size ≤ 24) : wordB s = allB isW s := by unfold wordB; simp [h1, h2]
theorem wordB_not {s : ByteArray} (h : s.size < 1 ∨ 24 < s.size) : wordB s = false := by
  unfold wordB; rcases h with h | h
  · simp [show ¬ 1 ≤ s.size by omega]
  · simp [show ¬ s.size ≤ 24 by omega]
theorem plainB_and (s : ByteArray) : plainB s = (wordB s && allB isL s) := by
  unfold plainB wordB
  by_cases h : allB isL s = true
  · rw [h, allB_mono (fun _ => isW_of_isL) h]; simp
  · simp [Bool.not_eq_true] at h; rw [h]; simp
set_option maxHeartbeats 1000000 in
theorem refWord_any (s : ByteArray) (w : World) (hs : s.size ≤ maxLen) :
    Calls Tryz.prog 109 #[.string s] w fun e w' => e = .returned (.bool (wordB s)) ∧ w = w' := by
  unfold maxLen at hs
  by_cases h0 : 1 ≤ s.size <;> by_cases h24 : s.size ≤ 24
  · go_enter Tryz.func109, Tryz.ntmps109
    go_wp2
    go_loop [3] (fun i => ∃ k : Nat, k ≤ s.size ∧ i = .int .i64 k ∧ upTo isW s k) (fun i => s.size - (intOf i).toNat)
    case atStart => exact ⟨0, Nat.zero_le _, rfl, upTo_zero _ _⟩
    case round =>
      obtain ⟨k, hk, rfl, hu⟩ := hrel
      have HU := Lib.hid hu; clear hu
      by_cases hlt : k < s.size
      · by_cases h1 : 33 ≤ (s[k].toNat : Int) <;> by_cases h2 : (s[k].toNat : Int) ≤ 126
        · go_wp2
          go_round
          case rel => exact ⟨k + 1, by omega, by go_num, upTo_succ HU.out hlt (by unfold isW; simp; omega)⟩
          case measure => simp [intOf]; omega
        all_goals
          go_wp2
          go_ret
          exact ⟨ret_bool (by rw [wordB_of h0 h24, allB_false hlt (by unfold isW; simp; omega)]), rfl⟩
      · go_wp2
        go_ret
        exact ⟨ret_bool (by rw [wordB_of h0 h24, allB_true HU.out (by omega)]), rfl⟩
  all_goals
    first
    | (exfalso; omega)
    | (go_enter Tryz.func109, Tryz.ntmps109
       go_wp2
       go_ret
       exact ⟨ret_bool (by rw [wordB_not (by omega)]), rfl⟩)
set_option maxHeartbeats 1000000 in
theorem of_any (s : ByteArray) (w : World) (hs : s.size ≤ maxLen) :
    Calls Tryz.prog 40 #[.string s, .string ⟨#[]⟩] w fun e w' => e = .returned (.bool (allB isL s)) ∧ w = w' := by
  unfold maxLen at hs
  go_enter Tryz.func40, Tryz.ntmps40
  go_wp2
  go_loop [5] (fun i => ∃ k : Nat, k ≤ s.size ∧ i = .int .i64 k ∧ upTo isL s k) (fun i => s.size - (intOf i).toNat)
  case atStart => exact ⟨0, Nat.zero_le _, rfl, upTo_zero _ _⟩
  case round =>
    obtain ⟨k, hk, rfl, hu⟩ := hrel
    have HU := Lib.hid hu; clear hu
    by_cases hlt : k < s.size
    · cases hp : isL (s[k].toNat : Int)
      · have HP := Lib.hid hp
        go_wp2_with (go_at_call 80; refine (refLetter_any _ _).mono ?_; rintro e w' ⟨rfl, rfl⟩)
        go_loop [6, 7] (fun o i => o = .bool false ∧ i = .int .i64 0) (fun _ _ => 0)
        case atStart => exact ⟨rfl, rfl⟩
        case round =>
          obtain ⟨rfl, rfl⟩ := hrel
          go_wp2
          go_ret
          exact ⟨ret_bool (by rw [allB_false hlt HP.out]), rfl⟩
      · have HP := Lib.hid hp
        go_wp2_with (go_at_call 80; refine (refLetter_any _ _).mono ?_; rintro e w' ⟨rfl, rfl⟩)
        go_loop [6, 7] (fun o i => o = .bool true ∧ i = .int .i64 0) (fun _ _ => 0)
        case atStart => exact ⟨rfl, rfl⟩
        case round =>
          obtain ⟨rfl, rfl⟩ := hrel
          go_wp2
          go_round
          case rel => exact ⟨k + 1, by omega, by go_num, upTo_succ HU.out hlt HP.out⟩
          case measure => simp [intOf]; omega
    · go_wp2
      go_ret
      exact ⟨ret_bool (by rw [allB_true HU.out (by omega)]), rfl⟩
set_option maxHeartbeats 1000000 in
theorem refPlain_any (s : ByteArray) (w : World) (hs : s.size ≤ maxLen) :
    Calls Tryz.prog 83 #[.string s] w fun e w' => e = .returned (.bool (plainB s)) ∧ w = w' := by
  have HP := Lib.hid (plainB_and s)
  cases hw : wordB s <;> cases hl : allB isL s
  all_goals
    go_enter Tryz.func83, Tryz.ntmps83
    go_wp2_with (first
      | (go_at_call 109; refine (refWord_any _ _ (by assumption)).mono ?_; rintro e w' ⟨rfl, rfl⟩)
      | (go_at_call 40; refine (of_any _ _ (by assumption)).mono ?_; rintro e w' ⟨rfl, rfl⟩))
    go_ret
    exact ⟨ret_bool (by rw [HP.out, hw, hl]; rfl), rfl⟩
end Go.Proofs.YtgddmegjncbndaaGreatDoor
namespace Go.Proofs.YtgddmegjncbndaaGreatDoor
open Go Go.RowKit
theorem get0 {s : ByteArray} (h : 0 < s.size) : s.get! 0 = s[0] := by
  show s.data[0]! = s.data[0]
  exact getElem!_pos s.data 0 h
theorem nameB_of {s : ByteArray} (h1 : 1 ≤ s.size) (h2 : s.size ≤ 12) : nameB s = (isB ((s.get! 0).toNat : Int) && allB isN s) := by unfold nameB; simp [h1, h2]
theorem nameB_not {s : ByteArray} (h : s.size < 1 ∨ 12 < s.size) : nameB s = false := by
  unfold nameB; rcases h with h | h
  · simp [show ¬ 1 ≤ s.size by omega]
  · simp [show ¬ s.size ≤ 12 by omega]
theorem nameB_first {s : ByteArray} (h1 : 0 < s.size) (hb : isB (s[0].toNat : Int) = false) : nameB s = false := by
  unfold nameB; rw [get0 h1, hb]; simp
theorem nameB_later {s : ByteArray} {k : Nat} (hk : k < s.size) (hn : isN (s[k].toNat : Int) = false) : nameB s = false := by
  unfold nameB; rw [allB_false hk hn]; simp
theorem nameB_all {s : ByteArray} {k : Nat} (h1 : 1 ≤ s.size) (h2 : s.size ≤ 12) (hb : ∀ h : 0 < s.size, 0 < k → isB (s[0].toNat : Int) = true) (hu : upTo isN s k) (hk : s.size ≤ k) : nameB s = true := by
  rw [nameB_of h1 h2, get0 (by omega), hb (by omega) (by omega), allB_true hu hk]; rfl
theorem isL_le {c : Int} (h : isL c = true) : 97 ≤ c := by unfold isL at h; simp at h; omega
/-- what holds of the loop's counter -/
def NameAt (s : ByteArray) (v : Value) : Prop := ∃ k : Nat, k ≤ s.size ∧ v = .int .i64 k ∧ (∀ h : 0 < s.size, 0 < k → isB (s[0].toNat : Int) = true) ∧ upTo isN s k
theorem isB_first {c : Int} (h : 65 ≤ c ∧ c ≤ 90 ∨ isL c = true) : isB c = true := by unfold isB; rcases h with h | h <;> simp [h]
theorem isB_not {c : Int} (h : ¬ (65 ≤ c ∧ c ≤ 90)) (hl : isL c = false) : isB c = false := by unfold isB; rw [hl]; simp; omega
theorem isN_yes {c : Int} (h : 65 ≤ c ∧ c ≤ 90 ∨ 48 ≤ c ∧ c ≤ 57 ∨ c = 95 ∨ isL c = true) : isN c = true := by
  unfold isN isB; rcases h with h | h | h | h <;> simp [h]
theorem isN_not {c : Int} (h : ¬ (65 ≤ c ∧ c ≤ 90)) (h2 : ¬ (48 ≤ c ∧ c ≤ 57)) (h3 : c ≠ 95) (hl : isL c = false) : isN c = false := by unfold isN isB; rw [hl]; simp; omega
theorem NameAt.next0 {s : ByteArray} (hlt : 0 < s.size) (hb : isB (s[0].toNat : Int) = true) (hu : upTo isN s 0) : NameAt s (.int .i64 1) :=
  ⟨1, hlt, rfl, fun _ _ => hb, upTo_succ hu hlt (isN_of_isB hb)⟩
theorem NameAt.next {s : ByteArray} {k : Nat} (hlt : k < s.size) (hb : ∀ h : 0 < s.size, 0 < k → isB (s[0].toNat : Int) = true) (hk : 0 < k) (hn : isN (s[k].toNat : Int) = true) (hu : upTo isN s k) : NameAt s (.int .i64 (k + 1 : Nat)) :=
  ⟨k + 1, hlt, rfl, fun h _ => hb h hk, upTo_succ hu hlt hn⟩
theorem nonempty {s : ByteArray} (h : 1 ≤ s.size) : s.toList.isEmpty = false := by
  rw [ByteArray.toList_eq]
  cases e : s.data.toList with
  | nil => have : s.size = 0 := by have := congrArg List.length e; simpa using this
           omega
  | cons _ _ => rfl
theorem isempty {s : ByteArray} (h : ¬ 1 ≤ s.size) : s.toList.isEmpty = true := by
  rw [ByteArray.toList_eq]
  cases e : s.data.toList with
  | nil => rfl
  | cons _ _ => have : s.size ≠ 0 := by have := congrArg List.length e; simp at this; omega
                omega
set_option maxHeartbeats 4000000 in
theorem refName_any (s : ByteArray) (w : World) (hs : s.size ≤ maxLen) :
    Calls Tryz.prog 81 #[.string s] w fun e w' => e = .returned (.bool (nameB s)) ∧ w = w' := by
  unfold maxLen at hs
  by_cases h0 : 1 ≤ s.size <;> by_cases h12 : s.size ≤ 12
  · go_enter Tryz.func81, Tryz.ntmps81
    go_wp2
    go_loop [3] (fun i => NameAt s i) (fun i => s.size - (intOf i).toNat)
    case atStart => exact ⟨0, Nat.zero_le _, rfl, fun _ h => absurd h (Nat.lt_irrefl _), upTo_zero _ _⟩
    case round =>
      obtain ⟨k, hk, rfl, hb, hu⟩ := hrel
      have HB := Lib.hid hb; clear hb
      have HU := Lib.hid hu; clear hu
      by_cases hlt : k < s.size
      · by_cases hk0 : k = 0
        · subst hk0
          by_cases h1 : 65 ≤ (s[0].toNat : Int) <;> by_cases h2 : (s[0].toNat : Int) ≤ 90 <;> by_cases h3 : 48 ≤ (s[0].toNat : Int) <;> by_cases h4 : (s[0].toNat : Int) ≤ 57 <;> by_cases h5 : (s[0].toNat : Int) = 95 <;> cases hl : isL (s[0].toNat : Int)
          all_goals
            first
            | (exfalso; omega)
            | (exfalso; have := isL_le hl; omega)
            | (have HL := Lib.hid hl
               go_wp2_with (go_at_call 80; refine (refLetter_any _ _).mono ?_; rintro e w' ⟨rfl, rfl⟩)
               first
               | (go_ret
                  exact ⟨ret_bool (by rw [nameB_first hlt (isB_not (by omega) HL.out)]), rfl⟩)
               | (go_round
                  case rel => exact NameAt.next0 hlt (isB_first (by first | exact .inl (by omega) | exact .inr HL.out)) HU.out
                  case measure => simp [intOf]; omega))
        · have hk1 : 0 < k := by omega
          have hkz : ((k : Int) == 0) = false := by simp; omega
          by_cases h1 : 65 ≤ (s[k].toNat : Int) <;> by_cases h2 : (s[k].toNat : Int) ≤ 90 <;> by_cases h3 : 48 ≤ (s[k].toNat : Int) <;> by_cases h4 : (s[k].toNat : Int) ≤ 57 <;> by_cases h5 : (s[k].toNat : Int) = 95 <;> cases hl : isL (s[k].toNat : Int)
          all_goals
            first
            | (exfalso; omega)
            | (exfalso; have := isL_le hl; omega)
            | (have HL := Lib.hid hl
               go_wp2_with (go_at_call 80; refine (refLetter_any _ _).mono ?_; rintro e w' ⟨rfl, rfl⟩)
               first
               | (go_ret
                  exact ⟨ret_bool (by rw [nameB_later hlt (isN_not (by omega) (by omega) (by omega) HL.out)]), rfl⟩)
               | (go_round
                  case rel => exact NameAt.next hlt HB.out hk1 (isN_yes (by first | exact .inr (.inr (.inr HL.out)) | omega)) HU.out
                  case measure => simp [intOf]; omega))
      · go_wp2
        go_ret
        exact ⟨ret_bool (by rw [nameB_all h0 h12 HB.out HU.out (by omega)]), rfl⟩
  all_goals
    first
    | (exfalso; omega)
    | (go_enter Tryz.func81, Tryz.ntmps81
       go_wp2
       go_ret
       exact ⟨ret_bool (by rw [nameB_not (by omega)]), rfl⟩)
set_option maxHeartbeats 1000000 in
theorem plain_any (s : ByteArray) (w : World) (hs : s.size ≤ maxLen) :
    Calls Tryz.prog 75 #[.string s] w fun e w' => e = .returned (.bool (plainB s)) ∧ w = w' := by
  have HP := Lib.hid (plainB_and s)
  by_cases h0 : 1 ≤ s.size <;> by_cases h24 : s.size ≤ 24 <;> cases hl : allB isL s
  all_goals
    first
    | (exfalso; omega)
    | (first | have hE := nonempty h0 | have hE := isempty h0
       have HL := Lib.hid hl
       go_enter Tryz.func75, Tryz.ntmps75
       go_wp2_with (go_at_call 47; refine (allAre37 _ _ (by assumption)).mono ?_; rintro e w' ⟨rfl, rfl⟩)
       go_ret
       exact ⟨ret_bool (by unfold plainB; rw [HL.out]; simp <;> omega), rfl⟩)
set_option maxHeartbeats 1000000 in
theorem name_any (s : ByteArray) (w : World) (hs : s.size ≤ maxLen) :
    Calls Tryz.prog 70 #[.string s] w fun e w' => e = .returned (.bool (nameB s)) ∧ w = w' := by
  by_cases h0 : 1 ≤ s.size
  · have h00 : 0 < s.size := by omega
    have HG := Lib.hid (get0 h00)
    have hE := nonempty h0
    by_cases h12 : s.size ≤ 12 <;> cases hb : isB (s[0].toNat : Int) <;> cases hl : allB isN s
    all_goals
      have HL := Lib.hid hl
      have HB := Lib.hid hb
      go_enter Tryz.func70, Tryz.ntmps70
      go_wp2_with (first
        | (go_at_call 47; refine (allAre34 _ _ (by assumption)).mono ?_; rintro e w' ⟨rfl, rfl⟩)
        | (go_at_call 101; refine (beginsName_any _ _).mono ?_; rintro e w' ⟨rfl, rfl⟩))
      go_ret
      exact ⟨ret_bool (by first | rw [nameB_not (by omega)] | rw [nameB_of h0 h12, HG.out, HB.out, HL.out]; rfl), rfl⟩
  · have hE := isempty h0
    go_enter Tryz.func70, Tryz.ntmps70
    go_wp2_with (go_at_call 47; refine (allAre34 _ _ (by assumption)).mono ?_; rintro e w' ⟨rfl, rfl⟩)
    go_ret
    exact ⟨ret_bool (by rw [nameB_not (by omega)]), rfl⟩
end Go.Proofs.YtgddmegjncbndaaGreatDoor
