/- Slices of features as lists; what the functions that only read them return. -/
import Derived.Test.YtdfhciijpcgicaaGreatDoorProg
import Derived.WalkKit
import Derived.WalkSpells
import Derived.WalkLawsBesides
import Derived.Lib.Hide
import Derived.Deep.QuietTactic
import Derived.BigQuiet
namespace Go.Proofs.YtdfhciijpcgicaaGreatDoor
open Go Go.RowKit
abbrev Ft := ByteArray × ByteArray
/-- from an address on, the features lie -/
def RowAt (w : World) (a : Addr) (l : List Ft) : Prop :=
  ∀ i (h : i < l.length), w.cell? (a.add (i * 2)) = some (.string l[i].1) ∧ w.cell? (a.add (i * 2 + 1)) = some (.string l[i].2)
/-- a slice that reads as a list -/
def Reads (w : World) (v : Value) (l : List Ft) : Prop :=
  (v = .slice none 0 0 ∧ l = []) ∨ ∃ (a : Addr) (cap : Nat), v = .slice (some a) l.length cap ∧ l.length ≤ cap ∧ cap ≤ maxLen ∧ RowAt w a l
theorem cell_next {w : World} {a : Addr} {n : Nat} {v : Value} (h : w.cell? (a.add (n + 1)) = some v) : w.cell? { block := (a.add n).block, off := (a.add n).off + 1 } = some v := by
  have e : ({ block := (a.add n).block, off := (a.add n).off + 1 } : Addr) = a.add (n + 1) := by
    unfold Addr.add
    by_cases h0 : n = 0
    · subst h0; simp
    · simp [h0]; omega
  rw [e]; exact h
theorem f_ret_bool {a b : Bool} (h : a = b) : Ending.returned (.bool a) = .returned (.bool b) := by rw [h]
def less (x y : Ft) : Bool := Op.bytesLess x.1.toList y.1.toList
/-- the names rise -/
def incr (l : List Ft) : Bool := (List.range (l.length - 1)).all fun i => match l[i]?, l[i + 1]? with
  | some x, some y => less x y
  | _, _ => true
def risen (l : List Ft) (k : Nat) : Prop := ∀ i (h : i < l.length), 1 ≤ i → i < k → less (l[i - 1]'(by omega)) l[i] = true
theorem incr_true {l : List Ft} {k : Nat} (h : risen l k) (hk : l.length ≤ k) : incr l = true := by
  unfold incr
  rw [List.all_eq_true]
  intro i hi
  rw [List.mem_range] at hi
  have h1 : i + 1 < l.length := by omega
  have := h (i + 1) h1 (by omega) (by omega)
  rw [List.getElem?_eq_getElem (by omega), List.getElem?_eq_getElem h1]
  simpa using this
theorem risen_of_incr {l : List Ft} (h : incr l = true) : risen l l.length := by
  unfold incr at h
  rw [List.all_eq_true] at h
  intro i hi h1 _
  have := h (i - 1) (by rw [List.mem_range]; omega)
  rw [List.getElem?_eq_getElem (by omega), List.getElem?_eq_getElem (by omega)] at this
  simpa [show i - 1 + 1 = i by omega] using this
theorem incr_false {l : List Ft} {k : Nat} (h1 : 1 ≤ k) (hk : k < l.length) (h : less (l[k - 1]'(by omega)) l[k] = false) : incr l = false := by
  cases e : incr l with
  | false => rfl
  | true => rw [risen_of_incr e k hk h1 hk] at h; cases h
theorem risen_succ {l : List Ft} {k : Nat} (h : risen l k) (hk : k < l.length) (hp : 1 ≤ k → less (l[k - 1]'(by omega)) l[k] = true) : risen l (k + 1) := by
  intro i hi h1 hik
  by_cases e : i = k
  · subst e; exact hp h1
  · exact h i hi h1 (by omega)
set_option maxHeartbeats 400000 in
theorem increasing_row (a : Addr) (l : List Ft) (cap : Nat) (w : World) (hl : l.length ≤ cap) (hc : cap ≤ maxLen) (H : RowAt w a l) :
    Calls Tryz.prog 39 #[.slice (some a) l.length cap] w fun e w' => e = .returned (.bool (incr l)) ∧ (∃ n, w' = w.drewN n) := by
  unfold maxLen at hc
  have HH := Lib.hid H; clear H
  go_enter Tryz.func39, Tryz.ntmps39
  go_wp2
  go_loopw [3] (fun i wr => ∃ k n : Nat, 1 ≤ k ∧ (k ≤ l.length ∨ k = 1) ∧ i = .int .i64 k ∧ risen l k ∧ wr = w.drewN n) (fun i _ => l.length - (intOf i).toNat)
  case atStart => exact ⟨1, 0, by omega, .inr rfl, rfl, fun i _ h1 h2 => by omega, rfl⟩
  case round =>
    obtain ⟨k, n, hk1, hk, rfl, hr, rfl⟩ := hrel
    have HR := Lib.hid hr; clear hr
    by_cases hlt : k < l.length
    · have c1 := (HH.out (k - 1) (by omega)).1
      have c2 := (HH.out k hlt).1
      cases hb : Op.bytesLess l[k - 1].1.toList l[k].1.toList
      · have HB := Lib.hid hb
        go_wp2
        go_quiet (fail)
        go_wp2
        go_ret
        exact ⟨f_ret_bool (incr_false hk1 hlt HB.out).symm, ⟨_, by first | exact World.drewN_drewN _ _ _ | rfl⟩⟩
      · have HB := Lib.hid hb
        go_wp2
        go_quiet (fail)
        go_wp2
        go_roundw
        case rel => exact ⟨k + 1, _, by omega, .inl (by omega), by go_num, risen_succ HR.out hlt (fun _ => HB.out), by first | exact World.drewN_drewN _ _ _ | rfl⟩
        case measure => simp [intOf]; omega
    · go_wp2
      go_ret
      exact ⟨f_ret_bool (incr_true HR.out (by omega)).symm, ⟨_, rfl⟩⟩

theorem increasing_nil (w : World) : Calls Tryz.prog 39 #[.slice none 0 0] w fun e w' => e = .returned (.bool true) ∧ (∃ n, w' = w.drewN n) := by
  go_enter Tryz.func39, Tryz.ntmps39
  go_wp2
  go_loop [3] (fun i => i = .int .i64 1) (fun _ => 0)
  case atStart => rfl
  case round =>
    subst hrel
    go_wp2
    go_ret
    exact ⟨rfl, 0, rfl⟩
theorem increasing_any {v : Value} {l : List Ft} (w : World) (h : Reads w v l) :
    Calls Tryz.prog 39 #[v] w fun e w' => e = .returned (.bool (incr l)) ∧ (∃ n, w' = w.drewN n) := by
  rcases h with ⟨rfl, rfl⟩ | ⟨a, cap, rfl, hl, hc, H⟩
  · exact increasing_nil w
  · exact increasing_row a l cap w hl hc H
/-- two lists agree up to k -/
def same (l m : List Ft) (k : Nat) : Prop := ∀ i (h : i < l.length) (h' : i < m.length), i < k → l[i] = m[i]
theorem same_all {l m : List Ft} {k : Nat} (hlen : l.length = m.length) (h : same l m k) (hk : l.length ≤ k) : decide (l = m) = true := by
  rw [decide_eq_true_eq]
  exact List.ext_getElem hlen fun i h1 h2 => h i h1 h2 (by omega)
theorem same_not {l m : List Ft} {k : Nat} (h1 : k < l.length) (h2 : k < m.length) (h : l[k] ≠ m[k]) : decide (l = m) = false := by
  rw [decide_eq_false_iff_not]
  rintro rfl
  exact h rfl
theorem same_succ {l m : List Ft} {k : Nat} (h : same l m k) (h1 : k < l.length) (h2 : k < m.length) (he : l[k] = m[k]) : same l m (k + 1) := by
  intro i hi hi' hik
  by_cases e : i = k
  · subst e; exact he
  · exact h i hi hi' (by omega)
theorem bytes_ext {x y : ByteArray} (h : x.toList = y.toList) : x = y := by
  rw [ByteArray.toList_eq, ByteArray.toList_eq] at h
  obtain ⟨⟨x⟩⟩ := x
  obtain ⟨⟨y⟩⟩ := y
  simp at h
  rw [h]
theorem ft_ext {x y : Ft} (h1 : x.1.toList = y.1.toList) (h2 : x.2.toList = y.2.toList) : x = y := Prod.ext (bytes_ext h1) (bytes_ext h2)
theorem ft_ne {x y : Ft} (h : ¬ x.1.toList = y.1.toList ∨ ¬ x.2.toList = y.2.toList) : x ≠ y := by
  rintro rfl; rcases h with h | h <;> exact h rfl
set_option maxHeartbeats 400000 in
theorem same_rows (a b : Addr) (l m : List Ft) (cap cap' : Nat) (w : World) (hl : l.length ≤ cap) (hc : cap ≤ maxLen) (_hl' : l.length ≤ cap') (_hc' : cap' ≤ maxLen) (hlen : l.length = m.length) (H : RowAt w a l) (H' : RowAt w b m) :
    Calls Tryz.prog 17 #[.slice (some a) l.length cap, .slice (some b) l.length cap'] w fun e w' => e = .returned (.bool (decide (l = m))) ∧ (∃ n, w' = w.drewN n) := by
  unfold maxLen at hc _hc'
  have HH := Lib.hid H; clear H
  have HK := Lib.hid H'; clear H'
  have HL := Lib.hid hlen; clear hlen
  go_enter Tryz.func17, Tryz.ntmps17
  go_wp2
  go_loopw [5] (fun i wr => ∃ k n : Nat, k ≤ l.length ∧ i = .int .i64 k ∧ same l m k ∧ wr = w.drewN n) (fun i _ => l.length - (intOf i).toNat)
  case atStart => exact ⟨0, 0, by omega, rfl, fun i _ _ h2 => by omega, rfl⟩
  case round =>
    obtain ⟨k, n, hk, rfl, hr, rfl⟩ := hrel
    have HR := Lib.hid hr; clear hr
    by_cases hlt : k < l.length
    · have hlt' : k < m.length := by have := HL.out; omega
      have c1 := HH.out k hlt
      have c2 := HK.out k hlt'
      obtain ⟨c11, c12⟩ := c1
      obtain ⟨c21, c22⟩ := c2
      have d12 : w.cell? { block := (a.add (k * 2)).block, off := (a.add (k * 2)).off + 1 } = some (.string l[k].2) := cell_next c12
      have d22 : w.cell? { block := (b.add (k * 2)).block, off := (b.add (k * 2)).off + 1 } = some (.string m[k].2) := cell_next c22
      clear c12 c22
      by_cases h1 : l[k].1.toList = m[k].1.toList <;> by_cases h2 : l[k].2.toList = m[k].2.toList
      · have HE := Lib.hid (ft_ext h1 h2)
        go_wp2
        go_quiet (fail)
        go_wp2
        go_roundw
        case rel => exact ⟨k + 1, _, by omega, by go_num, same_succ HR.out hlt hlt' HE.out, by first | exact World.drewN_drewN _ _ _ | rfl⟩
        case measure => simp [intOf]; omega
      all_goals
        have HE := Lib.hid (ft_ne (x := l[k]) (y := m[k]) (by first | exact .inl h1 | exact .inr h2))
        go_wp2
        go_quiet (fail)
        go_wp2
        go_ret
        exact ⟨f_ret_bool (same_not hlt hlt' HE.out).symm, ⟨_, by first | exact World.drewN_drewN _ _ _ | rfl⟩⟩
    · go_wp2
      go_ret
      exact ⟨f_ret_bool (same_all HL.out HR.out (by omega)).symm, ⟨_, rfl⟩⟩
end Go.Proofs.YtdfhciijpcgicaaGreatDoor
