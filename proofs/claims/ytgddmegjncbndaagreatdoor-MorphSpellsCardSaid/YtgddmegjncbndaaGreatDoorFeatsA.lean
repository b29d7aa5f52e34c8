/- Slices of features as lists; what the functions that only read them return. Slices of features: SameFeats, Index and Contains whole. Slices of features: Subsumes, as the program and as the specification tells it. Slices of features: the specification's Subsumes whole. -/
import Derived.Test.YtgddmegjncbndaaGreatDoorProg
import Derived.WalkKit
import Derived.WalkSpells
import Derived.WalkLawsBesides
import Derived.Lib.Hide
import Derived.Deep.QuietTactic
import Derived.BigQuiet
namespace Go.Proofs.YtgddmegjncbndaaGreatDoor
open Go Go.RowKit
abbrev Ft := ByteArray × ByteArray
/-- from an address on, the features lie -/
def RowAt (w : World) (a : Addr) (l : List Ft) : Prop :=
  ∀ i (h : i < l.length), w.cell? (a.add (i * 2)) = some (.string l[i].1) ∧ w.cell? (a.add (i * 2 + 1)) = some (.string l[i].2)
/-- a slice that reads as a list -/
def Reads (w : World) (v : Value) (l : List Ft) : Prop :=
  (v = .slice none 0 0 ∧ l = []) ∨ ∃ (a : Addr) (cap : Nat), v = .slice (some a) l.length cap ∧ l.length ≤ cap ∧ cap ≤ maxLen ∧ RowAt w a l
theorem cell_next {w : World} {a : Addr} {n : Nat} {v : Value} (h : w.cell? (a.add (n + 1)) = some v) : w.cell? { block := (a.add n).block, off := (a.add n).off + 1 } = some v := by
  have e : ({ block := (a.add n).block, off := (a.add n).off + 1 } : Addr) = a.add (n + 1) := by
    unfold Addr.add
    by_cases h0 : n = 0
    · subst h0; simp
    · simp [h0]; omega
  rw [e]; exact h
theorem f_ret_bool {a b : Bool} (h : a = b) : Ending.returned (.bool a) = .returned (.bool b) := by rw [h]
def less (x y : Ft) : Bool := Op.bytesLess x.1.toList y.1.toList
/-- the names rise -/
def incr (l : List Ft) : Bool := (List.range (l.length - 1)).all fun i => match l[i]?, l[i + 1]? with
  | some x, some y => less x y
  | _, _ => true
def risen (l : List Ft) (k : Nat) : Prop := ∀ i (h : i < l.length), 1 ≤ i → i < k → less (l[i - 1]'(by omega)) l[i] = true
theorem incr_true {l : List Ft} {k : Nat} (h : risen l k) (hk : l.length ≤ k) : incr l = true := by
  unfold incr
  rw [List.all_eq_true]
  intro i hi
  rw [List.mem_range] at hi
  have h1 : i + 1 < l.length := by omega
  have := h (i + 1) h1 (by omega) (by omega)
  rw [List.getElem?_eq_getElem (by omega), List.getElem?_eq_getElem h1]
  simpa using this
theorem risen_of_incr {l : List Ft} (h : incr l = true) : risen l l.length := by
  unfold incr at h
  rw [List.all_eq_true] at h
  intro i hi h1 _
  have := h (i - 1) (by rw [List.mem_range]; omega)
  rw [List.getElem?_eq_getElem (by omega), List.getElem?_eq_getElem (by omega)] at this
  simpa [show i - 1 + 1 = i by omega] using this
theorem incr_false {l : List Ft} {k : Nat} (h1 : 1 ≤ k) (hk : k < l.length) (h : less (l[k - 1]'(by omega)) l[k] = false) : incr l = false := by
  cases e : incr l with
  | false => rfl
  | true => rw [risen_of_incr e k hk h1 hk] at h; cases h
theorem risen_succ {l : List Ft} {k : Nat} (h : risen l k) (hk : k < l.length) (hp : 1 ≤ k → less (l[k - 1]'(by omega)) l[k] = true) : risen l (k + 1) := by
  intro i hi h1 hik
  by_cases e : i = k
  · subst e; exact hp h1
  · exact h i hi h1 (by omega)
set_option maxHeartbeats 400000 in
theorem increasing_row (a : Addr) (l : List Ft) (cap : Nat) (w : World) (hl : l.length ≤ cap) (hc : cap ≤ maxLen) (H : RowAt w a l) :
    Calls Tryz.prog 114 #[.slice (some a) l.length cap] w fun e w' => e = .returned (.bool (incr l)) ∧ (∃ n, w' = w.drewN n) := by
  unfold maxLen at hc
  have HH := Lib.hid H; clear H
  go_enter Tryz.func114, Tryz.ntmps114
  go_wp2
  go_loopw [3] (fun i wr => ∃ k n : Nat, 1 ≤ k ∧ (k ≤ l.length ∨ k = 1) ∧ i = .int .i64 k ∧ risen l k ∧ wr = w.drewN n) (fun i _ => l.length - (intOf i).toNat)
  case atStart => exact ⟨1, 0, by omega, .inr rfl, rfl, fun i _ h1 h2 => by omega, rfl⟩
  case round =>
    obtain ⟨k, n, hk1, hk, rfl, hr, rfl⟩ := hrel
    have HR := Lib.hid hr; clear hr
    by_cases hlt : k < l.length
    · have c1 := (HH.out (k - 1) (by omega)).1
      have c2 := (HH.out k hlt).1
      cases hb : Op.bytesLess l[k - 1].1.toList l[k].1.toList
      · have HB := Lib.hid hb
        go_wp2
        go_quiet (fail)
        go_wp2
        go_ret
        exact ⟨f_ret_bool (incr_false hk1 hlt HB.out).symm, ⟨_, by first | exact World.drewN_drewN _ _ _ | rfl⟩⟩
      · have HB := Lib.hid hb
        go_wp2
        go_quiet (fail)
        go_wp2
        go_roundw
        case rel => exact ⟨k + 1, _, by omega, .inl (by omega), by go_num, risen_succ HR.out hlt (fun _ => HB.out), by first | exact World.drewN_drewN _ _ _ | rfl⟩
        case measure => simp [intOf]; omega
    · go_wp2
      go_ret
      exact ⟨f_ret_bool (incr_true HR.out (by omega)).symm, ⟨_, rfl⟩⟩

theorem increasing_nil (w : World) : Calls Tryz.prog 114 #[.slice none 0 0] w fun e w' => e = .returned (.bool true) ∧ (∃ n, w' = w.drewN n) := by
  go_enter Tryz.func114, Tryz.ntmps114
  go_wp2
  go_loop [3] (fun i => i = .int .i64 1) (fun _ => 0)
  case atStart => rfl
  case round =>
    subst hrel
    go_wp2
    go_ret
    exact ⟨rfl, 0, rfl⟩
theorem increasing_any {v : Value} {l : List Ft} (w : World) (h : Reads w v l) :
    Calls Tryz.prog 114 #[v] w fun e w' => e = .returned (.bool (incr l)) ∧ (∃ n, w' = w.drewN n) := by
  rcases h with ⟨rfl, rfl⟩ | ⟨a, cap, rfl, hl, hc, H⟩
  · exact increasing_nil w
  · exact increasing_row a l cap w hl hc H
/-- two lists agree up to k -/
def same (l m : List Ft) (k : Nat) : Prop := ∀ i (h : i < l.length) (h' : i < m.length), i < k → l[i] = m[i]
theorem same_all {l m : List Ft} {k : Nat} (hlen : l.length = m.length) (h : same l m k) (hk : l.length ≤ k) : decide (l = m) = true := by
  rw [decide_eq_true_eq]
  exact List.ext_getElem hlen fun i h1 h2 => h i h1 h2 (by omega)
theorem same_not {l m : List Ft} {k : Nat} (h1 : k < l.length) (h2 : k < m.length) (h : l[k] ≠ m[k]) : decide (l = m) = false := by
  rw [decide_eq_false_iff_not]
  rintro rfl
  exact h rfl
theorem same_succ {l m : List Ft} {k : Nat} (h : same l m k) (h1 : k < l.length) (h2 : k < m.length) (he : l[k] = m[k]) : same l m (k + 1) := by
  intro i hi hi' hik
  by_cases e : i = k
  · subst e; exact he
  · exact h i hi hi' (by omega)
theorem bytes_ext {x y : ByteArray} (h : x.toList = y.toList) : x = y := by
  rw [ByteArray.toList_eq, ByteArray.toList_eq] at h
  obtain ⟨⟨x⟩⟩ := x
  obtain ⟨⟨y⟩⟩ := y
  simp at h
  rw [h]
theorem ft_ext {x y : Ft} (h1 : x.1.toList = y.1.toList) (h2 : x.2.toList = y.2.toList) : x = y := Prod.ext (bytes_ext h1) (bytes_ext h2)
theorem ft_ne {x y : Ft} (h : ¬ x.1.toList = y.1.toList ∨ ¬ x.2.toList = y.2.toList) : x ≠ y := by
  rintro rfl; rcases h with h | h <;> exact h rfl
set_option maxHeartbeats 400000 in
theorem same_rows (a b : Addr) (l m : List Ft) (cap cap' : Nat) (w : World) (hl : l.length ≤ cap) (hc : cap ≤ maxLen) (_hl' : l.length ≤ cap') (_hc' : cap' ≤ maxLen) (hlen : l.length = m.length) (H : RowAt w a l) (H' : RowAt w b m) :
    Calls Tryz.prog 18 #[.slice (some a) l.length cap, .slice (some b) l.length cap'] w fun e w' => e = .returned (.bool (decide (l = m))) ∧ (∃ n, w' = w.drewN n) := by
  unfold maxLen at hc _hc'
  have HH := Lib.hid H; clear H
  have HK := Lib.hid H'; clear H'
  have HL := Lib.hid hlen; clear hlen
  go_enter Tryz.func18, Tryz.ntmps18
  go_wp2
  go_loopw [5] (fun i wr => ∃ k n : Nat, k ≤ l.length ∧ i = .int .i64 k ∧ same l m k ∧ wr = w.drewN n) (fun i _ => l.length - (intOf i).toNat)
  case atStart => exact ⟨0, 0, by omega, rfl, fun i _ _ h2 => by omega, rfl⟩
  case round =>
    obtain ⟨k, n, hk, rfl, hr, rfl⟩ := hrel
    have HR := Lib.hid hr; clear hr
    by_cases hlt : k < l.length
    · have hlt' : k < m.length := by have := HL.out; omega
      have c1 := HH.out k hlt
      have c2 := HK.out k hlt'
      obtain ⟨c11, c12⟩ := c1
      obtain ⟨c21, c22⟩ := c2
      have d12 : w.cell? { block := (a.add (k * 2)).block, off := (a.add (k * 2)).off + 1 } = some (.string l[k].2) := cell_next c12
      have d22 : w.cell? { block := (b.add (k * 2)).block, off := (b.add (k * 2)).off + 1 } = some (.string m[k].2) := cell_next c22
      clear c12 c22
      by_cases h1 : l[k].1.toList = m[k].1.toList <;> by_cases h2 : l[k].2.toList = m[k].2.toList
      · have HE := Lib.hid (ft_ext h1 h2)
        go_wp2
        go_quiet (fail)
        go_wp2
        go_roundw
        case rel => exact ⟨k + 1, _, by omega, by go_num, same_succ HR.out hlt hlt' HE.out, by first | exact World.drewN_drewN _ _ _ | rfl⟩
        case measure => simp [intOf]; omega
      all_goals
        have HE := Lib.hid (ft_ne (x := l[k]) (y := m[k]) (by first | exact .inl h1 | exact .inr h2))
        go_wp2
        go_quiet (fail)
        go_wp2
        go_ret
        exact ⟨f_ret_bool (same_not hlt hlt' HE.out).symm, ⟨_, by first | exact World.drewN_drewN _ _ _ | rfl⟩⟩
    · go_wp2
      go_ret
      exact ⟨f_ret_bool (same_all HL.out HR.out (by omega)).symm, ⟨_, rfl⟩⟩
end Go.Proofs.YtgddmegjncbndaaGreatDoor
namespace Go.Proofs.YtgddmegjncbndaaGreatDoor
open Go Go.RowKit
set_option maxHeartbeats 400000 in
theorem same_len (p q : Option Addr) (n n' cap cap' : Nat) (w : World) (h : n ≠ n') (_hn : n ≤ maxLen) (_hn' : n' ≤ maxLen) :
    Calls Tryz.prog 18 #[.slice p n cap, .slice q n' cap'] w fun e w' => e = .returned (.bool false) ∧ (∃ n, w' = w.drewN n) := by
  unfold maxLen at _hn _hn'
  have hb : ((n : Int) == (n' : Int)) = false := by simp; omega
  have hb' : ((n : Int) != (n' : Int)) = true := by simp; omega
  go_enter Tryz.func18, Tryz.ntmps18
  go_wp2
  go_ret
  exact ⟨rfl, 0, rfl⟩
set_option maxHeartbeats 400000 in
theorem same_nil (p q : Option Addr) (cap cap' : Nat) (w : World) :
    Calls Tryz.prog 18 #[.slice p 0 cap, .slice q 0 cap'] w fun e w' => e = .returned (.bool true) ∧ (∃ n, w' = w.drewN n) := by
  go_enter Tryz.func18, Tryz.ntmps18
  go_wp2
  go_loop [5] (fun i => i = .int .i64 0) (fun _ => 0)
  case atStart => rfl
  case round =>
    subst hrel
    go_wp2
    go_ret
    exact ⟨rfl, 0, rfl⟩
theorem same_any {v u : Value} {l m : List Ft} (w : World) (h : Reads w v l) (h' : Reads w u m) :
    Calls Tryz.prog 18 #[v, u] w fun e w' => e = .returned (.bool (decide (l = m))) ∧ (∃ n, w' = w.drewN n) := by
  by_cases hlen : l.length = m.length
  · rcases h with ⟨rfl, rfl⟩ | ⟨a, cap, rfl, hl, hc, H⟩
    · have hm : m = [] := by cases m <;> simp_all
      subst hm
      rcases h' with ⟨rfl, -⟩ | ⟨b, cap', rfl, hl', hc', H'⟩
      · exact same_nil _ _ _ _ w
      · exact same_nil _ _ _ _ w
    · rcases h' with ⟨rfl, rfl⟩ | ⟨b, cap', rfl, hl', hc', H'⟩
      · have hm : l = [] := by cases l <;> simp_all
        subst hm
        exact same_nil _ _ _ _ w
      · have := same_rows a b l m cap cap' w hl hc (by omega) hc' hlen H H'
        rw [← hlen]; exact this
  · have hd : decide (l = m) = false := by rw [decide_eq_false_iff_not]; rintro rfl; exact hlen rfl
    rw [hd]
    rcases h with ⟨rfl, rfl⟩ | ⟨a, cap, rfl, hl, hc, H⟩ <;> rcases h' with ⟨rfl, rfl⟩ | ⟨b, cap', rfl, hl', hc', H'⟩
    all_goals exact same_len _ _ _ _ _ _ w (fun e => hlen (by first | exact e | simpa using e)) (by first | omega | (unfold maxLen; omega)) (by first | omega | (unfold maxLen; omega))
/-- the first k are other than x -/
def none_of (l : List Ft) (x : Ft) (k : Nat) : Prop := ∀ i (h : i < l.length), i < k → l[i] ≠ x
def has (l : List Ft) (x : Ft) : Bool := l.any fun y => decide (y = x)
theorem has_no {l : List Ft} {x : Ft} {k : Nat} (h : none_of l x k) (hk : l.length ≤ k) : has l x = false := by
  unfold has
  rw [List.any_eq_false]
  intro y hy
  obtain ⟨i, hi, rfl⟩ := List.getElem_of_mem hy
  simpa using h i hi (by omega)
theorem has_yes {l : List Ft} {x : Ft} {k : Nat} (hk : k < l.length) (h : x = l[k]) : has l x = true := by
  unfold has
  rw [List.any_eq_true]
  exact ⟨l[k], List.getElem_mem _, by simpa using h.symm⟩
theorem none_succ {l : List Ft} {x : Ft} {k : Nat} (h : none_of l x k) (hk : k < l.length) (hx : x ≠ l[k]) : none_of l x (k + 1) := by
  intro i hi hik
  by_cases e : i = k
  · subst e; exact fun h' => hx h'.symm
  · exact h i hi (by omega)
/-- what Index returns: a number that is not negative just where the feature is there -/
def Found (l : List Ft) (x : Ft) (w : World) (e : Ending) (w' : World) : Prop :=
  ∃ i : Int, e = .returned (.int .i64 i) ∧ decide (0 ≤ i) = has l x ∧ Below w.heap.size w w'
theorem below_drewN {B : Nat} {a w : World} (n : Nat) (h : Below B a w) : Below B a (w.drewN n) := ⟨h.os, h.tape, h.output, h.size, h.block⟩
theorem below_boxed (w : World) (o : Obj) (n : Nat) : Below w.heap.size w ((w.alloc o).drewN n) := below_drewN n ((Below.refl _ _).alloc (Nat.le_refl _) _)
theorem add_block (a : Addr) (n : Nat) : (a.add n).block = a.block := by unfold Addr.add; split <;> rfl
set_option maxHeartbeats 400000 in
theorem index_row (a : Addr) (l : List Ft) (cap : Nat) (x : Ft) (w : World) (hl : l.length ≤ cap) (hc : cap ≤ maxLen) (H : RowAt w a l) (hb0 : 0 < l.length → a.block < w.heap.size) :
    Calls Tryz.prog 140 #[.slice (some a) l.length cap, .agg #[.string x.1, .string x.2]] w (Found l x w) := by
  unfold maxLen at hc
  have HH := Lib.hid H; clear H
  go_enter Tryz.func140, Tryz.ntmps140
  go_wp2
  go_loopw [8] (fun i wr => ∃ k n : Nat, k ≤ l.length ∧ i = .int .i64 k ∧ none_of l x k ∧ wr = (w.alloc (.cells #[.string x.1, .string x.2] 61)).drewN n) (fun i _ => l.length - (intOf i).toNat)
  case atStart => exact ⟨0, 0, by omega, rfl, fun i _ h2 => by omega, rfl⟩
  case round =>
    obtain ⟨k, n, hk, rfl, hr, rfl⟩ := hrel
    have HR := Lib.hid hr; clear hr
    by_cases hlt : k < l.length
    · have hb := hb0 (by omega)
      obtain ⟨c11, c12⟩ := HH.out k hlt
      have e1 : (w.alloc (.cells #[.string x.1, .string x.2] 61)).cell? (a.add (k * 2)) = some (.string l[k].1) := by
        rw [(((Below.refl w.heap.size w).alloc (Nat.le_refl _) _).cell (p := a.add (k * 2)) (by rw [add_block]; exact hb))]; exact c11
      have e2 : (w.alloc (.cells #[.string x.1, .string x.2] 61)).cell? { block := (a.add (k * 2)).block, off := (a.add (k * 2)).off + 1 } = some (.string l[k].2) := by
        rw [(((Below.refl w.heap.size w).alloc (Nat.le_refl _) _).cell (p := ⟨(a.add (k * 2)).block, (a.add (k * 2)).off + 1, none⟩) (by show (a.add (k * 2)).block < _; rw [add_block]; exact hb))]; exact cell_next c12
      have a66 := Tryz.isAgg61
      have z66 := Tryz.sizeOf61
      clear c11 c12
      by_cases h1 : x.1.toList = l[k].1.toList <;> by_cases h2 : x.2.toList = l[k].2.toList
      · have HE := Lib.hid (ft_ext h1 h2)
        go_wp2
        go_quiet (fail)
        go_wp2
        go_ret
        exact ⟨k, rfl, by rw [has_yes hlt HE.out]; simp, by first | exact below_boxed _ _ _ | exact below_drewN _ (below_boxed _ _ _)⟩
      all_goals
        have HE := Lib.hid (ft_ne (x := x) (y := l[k]) (by first | exact .inl h1 | exact .inr h2))
        go_wp2
        go_quiet (fail)
        go_wp2
        go_roundw
        case rel => exact ⟨k + 1, _, by omega, by go_num, none_succ HR.out hlt HE.out, by first | exact World.drewN_drewN _ _ _ | rfl⟩
        case measure => simp [intOf]; omega
    · go_wp2
      go_ret
      exact ⟨-1, rfl, by rw [has_no HR.out (by omega)]; rfl, below_boxed _ _ _⟩
set_option maxHeartbeats 400000 in
theorem index_nil (x : Ft) (w : World) :
    Calls Tryz.prog 140 #[.slice none 0 0, .agg #[.string x.1, .string x.2]] w (Found [] x w) := by
  go_enter Tryz.func140, Tryz.ntmps140
  go_wp2
  go_loopw [8] (fun i wr => i = .int .i64 0 ∧ wr = (w.alloc (.cells #[.string x.1, .string x.2] 61))) (fun _ _ => 0)
  case atStart => exact ⟨rfl, rfl⟩
  case round =>
    obtain ⟨rfl, rfl⟩ := hrel
    go_wp2
    go_ret
    exact ⟨-1, rfl, rfl, (Below.refl _ _).alloc (Nat.le_refl _) _⟩
/-- a slice that reads as a list, its row below a bound -/
def ReadsIn (B : Nat) (w : World) (v : Value) (l : List Ft) : Prop :=
  (v = .slice none 0 0 ∧ l = []) ∨ ∃ (a : Addr) (cap : Nat), v = .slice (some a) l.length cap ∧ l.length ≤ cap ∧ cap ≤ maxLen ∧ (0 < l.length → a.block < B) ∧ RowAt w a l
theorem index_any {v : Value} {l : List Ft} (x : Ft) (w : World) (h : ReadsIn w.heap.size w v l) :
    Calls Tryz.prog 140 #[v, .agg #[.string x.1, .string x.2]] w (Found l x w) := by
  rcases h with ⟨rfl, rfl⟩ | ⟨a, cap, rfl, hl, hc, hb, H⟩
  · exact index_nil x w
  · exact index_row a l cap x w hl hc H hb
theorem rowAt_below {w w' : World} {a : Addr} {l : List Ft} {B : Nat} (h : Below B w w') (ha : 0 < l.length → a.block < B) (H : RowAt w a l) : RowAt w' a l := by
  intro i hi
  obtain ⟨h1, h2⟩ := H i hi
  exact ⟨by rw [h.cell (by rw [add_block]; exact ha (by omega))]; exact h1, by rw [h.cell (by rw [add_block]; exact ha (by omega))]; exact h2⟩
theorem readsIn_below {w w' : World} {v : Value} {l : List Ft} {B : Nat} (h : Below B w w') (H : ReadsIn B w v l) : ReadsIn B w' v l := by
  rcases H with H | ⟨a, cap, e, hl, hc, hb, H⟩
  · exact .inl H
  · exact .inr ⟨a, cap, e, hl, hc, hb, rowAt_below h hb H⟩
theorem readsIn_mono {w : World} {v : Value} {l : List Ft} {B B' : Nat} (h : B ≤ B') (H : ReadsIn B w v l) : ReadsIn B' w v l := by
  rcases H with H | ⟨a, cap, e, hl, hc, hb, H⟩
  · exact .inl H
  · exact .inr ⟨a, cap, e, hl, hc, fun h0 => Nat.lt_of_lt_of_le (hb h0) h, H⟩
set_option maxHeartbeats 400000 in
theorem contains_any {v : Value} {l : List Ft} (x : Ft) (w : World) (h : ReadsIn w.heap.size w v l) :
    Calls Tryz.prog 118 #[v, .agg #[.string x.1, .string x.2]] w fun e w' => e = .returned (.bool (has l x)) ∧ Below w.heap.size w w' := by
  have hB : Below w.heap.size w (w.alloc (.cells #[.string x.1, .string x.2] 61)) := (Below.refl _ _).alloc (Nat.le_refl _) _
  have HR := Lib.hid (readsIn_mono hB.size (readsIn_below hB h))
  have HB := Lib.hid hB
  clear h hB
  have a66 := Tryz.isAgg61
  have z66 := Tryz.sizeOf61
  go_enter Tryz.func118, Tryz.ntmps118
  go_wp2_with (go_at_call 140; refine (index_any x _ HR.out).mono ?_; rintro e w' ⟨i, rfl, hi, hb⟩; have HI := Lib.hid hi; clear hi)
  go_ret
  exact ⟨f_ret_bool HI.out, HB.out.trans (hb.mono HB.out.size)⟩
end Go.Proofs.YtgddmegjncbndaaGreatDoor
namespace Go.Proofs.YtgddmegjncbndaaGreatDoor
open Go Go.RowKit
def subs (l m : List Ft) : Bool := l.all fun x => has m x
def allIn (l m : List Ft) (k : Nat) : Prop := ∀ i (h : i < l.length), i < k → has m l[i] = true
theorem allIn_succ {l m : List Ft} {k : Nat} (h : allIn l m k) (hk : k < l.length) (hx : has m l[k] = true) : allIn l m (k + 1) := by
  intro i hi hik
  by_cases e : i = k
  · subst e; exact hx
  · exact h i hi (by omega)
theorem subs_true {l m : List Ft} {k : Nat} (h : allIn l m k) (hk : l.length ≤ k) : subs l m = true := by
  unfold subs
  rw [List.all_eq_true]
  intro y hy
  obtain ⟨i, hi, rfl⟩ := List.getElem_of_mem hy
  exact h i hi (by omega)
theorem subs_false {l m : List Ft} {k : Nat} (hk : k < l.length) (h : has m l[k] = false) : subs l m = false := by
  unfold subs
  rw [List.all_eq_false]
  exact ⟨l[k], List.getElem_mem _, by rw [h]; simp⟩
set_option maxHeartbeats 1000000 in
theorem subsumes_row (a : Addr) (l m : List Ft) (cap : Nat) (v : Value) (w : World) (hl : l.length ≤ cap) (hc : cap ≤ maxLen) (H : RowAt w a l) (hb0 : 0 < l.length → a.block < w.heap.size) (hm : ReadsIn w.heap.size w v m) :
    Calls Tryz.prog 94 #[.slice (some a) l.length cap, v] w fun e w' => e = .returned (.bool (subs l m)) ∧ Below w.heap.size w w' := by
  unfold maxLen at hc
  have HH := Lib.hid H; clear H
  have HM := Lib.hid hm; clear hm
  go_enter Tryz.func94, Tryz.ntmps94
  go_wp2
  go_loopw [9] (fun i wr => ∃ k : Nat, k ≤ l.length ∧ i = .int .i64 k ∧ allIn l m k ∧ Below w.heap.size w wr) (fun i _ => l.length - (intOf i).toNat)
  case atStart => exact ⟨0, by omega, rfl, fun i _ h2 => by omega, Below.refl _ _⟩
  case round =>
    obtain ⟨k, hk, rfl, hr, hB⟩ := hrel
    have HR := Lib.hid hr; clear hr
    by_cases hlt : k < l.length
    · have hb := hb0 (by omega)
      obtain ⟨c11, c12⟩ := HH.out k hlt
      have HB := Lib.hid hB; clear hB
      rename World => wr
      have e1 : wr.cell? (a.add (k * 2)) = some (.string l[k].1) := by rw [HB.out.cell (p := a.add (k * 2)) (by rw [add_block]; exact hb)]; exact c11
      have e2 : wr.cell? { block := (a.add (k * 2)).block, off := (a.add (k * 2)).off + 1 } = some (.string l[k].2) := by
        rw [HB.out.cell (p := ⟨(a.add (k * 2)).block, (a.add (k * 2)).off + 1, none⟩) (by show (a.add (k * 2)).block < _; rw [add_block]; exact hb)]; exact cell_next c12
      have a66 := Tryz.isAgg61
      have z66 := Tryz.sizeOf61
      clear c11 c12
      have HC : Hid (Below w.heap.size w (wr.alloc (.cells #[.string l[k].1, .string l[k].2] 61))) := Lib.hid (HB.out.alloc HB.out.size _)
      have HN := Lib.hid (readsIn_mono HC.out.size (readsIn_below HC.out HM.out))
      cases hx : has m l[k]
      · have HX := Lib.hid hx
        go_wp2_with (go_at_call 118; refine (contains_any l[k] _ HN.out).mono ?_; rintro e w' ⟨rfl, hb'⟩)
        go_ret
        exact ⟨f_ret_bool (subs_false hlt HX.out).symm, HC.out.trans (hb'.mono HC.out.size)⟩
      · have HX := Lib.hid hx
        go_wp2_with (go_at_call 118; refine (contains_any l[k] _ HN.out).mono ?_; rintro e w' ⟨rfl, hb'⟩)
        go_roundw
        case rel => exact ⟨k + 1, by omega, by go_num, allIn_succ HR.out hlt HX.out, HC.out.trans (hb'.mono HC.out.size)⟩
        case measure => simp [intOf]; omega
    · go_wp2
      go_ret
      exact ⟨f_ret_bool (subs_true HR.out (by omega)).symm, hB⟩
set_option maxHeartbeats 400000 in
theorem subsumes_nil (v : Value) (m : List Ft) (w : World) :
    Calls Tryz.prog 94 #[.slice none 0 0, v] w fun e w' => e = .returned (.bool (subs [] m)) ∧ Below w.heap.size w w' := by
  go_enter Tryz.func94, Tryz.ntmps94
  go_wp2
  go_loop [9] (fun i => i = .int .i64 0) (fun _ => 0)
  case atStart => rfl
  case round =>
    subst hrel
    go_wp2
    go_ret
    exact ⟨rfl, Below.refl _ _⟩
theorem subsumes_any {u v : Value} {l m : List Ft} (w : World) (h : ReadsIn w.heap.size w u l) (hm : ReadsIn w.heap.size w v m) :
    Calls Tryz.prog 94 #[u, v] w fun e w' => e = .returned (.bool (subs l m)) ∧ Below w.heap.size w w' := by
  rcases h with ⟨rfl, rfl⟩ | ⟨a, cap, rfl, hl, hc, hb, H⟩
  · exact subsumes_nil v m w
  · exact subsumes_row a l m cap v w hl hc H hb hm
/-- among the first k -/
def hasTo (m : List Ft) (x : Ft) (k : Nat) : Bool := (m.take k).any fun y => decide (y = x)
theorem hasTo_zero (m : List Ft) (x : Ft) : hasTo m x 0 = false := by simp [hasTo]
theorem hasTo_all {m : List Ft} {x : Ft} {k : Nat} (h : m.length ≤ k) : hasTo m x k = has m x := by unfold hasTo has; rw [List.take_of_length_le h]
theorem hasTo_on {m : List Ft} {x : Ft} {k : Nat} (h : hasTo m x k = true) (hk : k < m.length) : hasTo m x (k + 1) = true := by
  unfold hasTo at h ⊢
  rw [List.take_succ_eq_append_getElem hk, List.any_append, h]; rfl
theorem hasTo_hit {m : List Ft} {x : Ft} {k : Nat} (hk : k < m.length) (h : x = m[k]) : hasTo m x (k + 1) = true := by
  unfold hasTo
  rw [List.take_succ_eq_append_getElem hk, List.any_append]; simp [h]
theorem hasTo_miss {m : List Ft} {x : Ft} {k : Nat} (h0 : hasTo m x k = false) (hk : k < m.length) (h : x ≠ m[k]) : hasTo m x (k + 1) = false := by
  unfold hasTo at h0 ⊢
  rw [List.take_succ_eq_append_getElem hk, List.any_append, h0]; simpa using fun e => h e.symm
def HasAt (m : List Ft) (x : Ft) (w : World) (o i : Value) (wr : World) : Prop :=
  ∃ k n : Nat, k ≤ m.length ∧ i = .int .i64 k ∧ o = .bool (hasTo m x k) ∧ wr = w.drewN n
def SubsAt (l m : List Ft) (w : World) (i : Value) (wr : World) : Prop :=
  ∃ k n : Nat, k ≤ l.length ∧ i = .int .i64 k ∧ allIn l m k ∧ wr = w.drewN n
set_option maxHeartbeats 1000000 in
theorem refSubsumes_rows (a b : Addr) (l m : List Ft) (cap cap' : Nat) (w : World) (hl : l.length ≤ cap) (hc : cap ≤ maxLen) (hl' : m.length ≤ cap') (hc' : cap' ≤ maxLen) (H : RowAt w a l) (H' : RowAt w b m) :
    Calls Tryz.prog 66 #[.slice (some a) l.length cap, .slice (some b) m.length cap'] w fun e w' => e = .returned (.bool (subs l m)) ∧ (∃ n, w' = w.drewN n) := by
  unfold maxLen at hc hc'
  have HH := Lib.hid H; clear H
  have HK := Lib.hid H'; clear H'
  go_enter Tryz.func66, Tryz.ntmps66
  go_wp2
  go_loopw [5] (fun i wr => SubsAt l m w i wr) (fun i _ => l.length - (intOf i).toNat)
  case atStart => exact ⟨0, 0, by omega, rfl, fun i _ h2 => by omega, rfl⟩
  case round =>
    obtain ⟨i, n, hi, rfl, hr, rfl⟩ := hrel
    have HR := Lib.hid hr; clear hr
    by_cases hlt : i < l.length
    · obtain ⟨c11, c12⟩ := HH.out i hlt
      have d12 := cell_next c12
      clear c12
      go_wp2
      go_loopw [6, 7] (fun o k wr => HasAt m l[i] w o k wr) (fun _ k _ => m.length - (intOf k).toNat)
      case atStart => exact ⟨0, _, by omega, rfl, by rw [hasTo_zero], rfl⟩
      case round =>
        obtain ⟨k, n2, hk, rfl, rfl, rfl⟩ := hrel
        by_cases hlt' : k < m.length
        · obtain ⟨c21, c22⟩ := HK.out k hlt'
          have d22 := cell_next c22
          clear c22
          have a66 := Tryz.isAgg61
          have z66 := Tryz.sizeOf61
          cases ho : hasTo m l[i] k
          · have HO := Lib.hid ho; clear ho
            by_cases h1 : l[i].1.toList = m[k].1.toList <;> by_cases h2 : l[i].2.toList = m[k].2.toList
            · have HE := Lib.hid (hasTo_hit hlt' (ft_ext h1 h2))
              go_wp2
              go_quiet (fail)
              go_wp2
              go_roundw
              case rel => exact ⟨k + 1, _, by omega, by go_num, by rw [HE.out], by first | exact World.drewN_drewN _ _ _ | rfl⟩
              case measure => simp [intOf]; omega
            all_goals
              have HE := Lib.hid (hasTo_miss HO.out hlt' (ft_ne (x := l[i]) (y := m[k]) (by first | exact .inl h1 | exact .inr h2)))
              go_wp2
              go_quiet (fail)
              go_wp2
              go_roundw
              case rel => exact ⟨k + 1, _, by omega, by go_num, by rw [HE.out], by first | exact World.drewN_drewN _ _ _ | rfl⟩
              case measure => simp [intOf]; omega
          · have HE := Lib.hid (hasTo_on ho hlt'); clear ho
            go_wp2
            go_quiet (fail)
            go_wp2
            go_roundw
            case rel => exact ⟨k + 1, _, by omega, by go_num, by rw [HE.out], by first | exact World.drewN_drewN _ _ _ | rfl⟩
            case measure => simp [intOf]; omega
        · have HA := Lib.hid (hasTo_all (m := m) (x := l[i]) (k := k) (by omega))
          cases ho : hasTo m l[i] k
          · have HO := Lib.hid ho; clear ho
            go_wp2
            go_ret
            exact ⟨f_ret_bool (subs_false hlt (by rw [← HA.out, HO.out])).symm, ⟨_, by first | exact World.drewN_drewN _ _ _ | rfl⟩⟩
          · have HO := Lib.hid ho; clear ho
            go_wp2
            go_roundw
            case rel => exact ⟨i + 1, _, by omega, by go_num, allIn_succ HR.out hlt (by rw [← HA.out, HO.out]), by first | exact World.drewN_drewN _ _ _ | rfl⟩
            case measure => simp [intOf]; omega
    · go_wp2
      go_ret
      exact ⟨f_ret_bool (subs_true HR.out (by omega)).symm, ⟨_, rfl⟩⟩
end Go.Proofs.YtgddmegjncbndaaGreatDoor
namespace Go.Proofs.YtgddmegjncbndaaGreatDoor
open Go Go.RowKit
set_option maxHeartbeats 400000 in
theorem refSubsumes_nil (v : Value) (m : List Ft) (w : World) :
    Calls Tryz.prog 66 #[.slice none 0 0, v] w fun e w' => e = .returned (.bool (subs [] m)) ∧ (∃ n, w' = w.drewN n) := by
  go_enter Tryz.func66, Tryz.ntmps66
  go_wp2
  go_loop [5] (fun i => i = .int .i64 0) (fun _ => 0)
  case atStart => rfl
  case round =>
    subst hrel
    go_wp2
    go_ret
    exact ⟨rfl, 0, rfl⟩
set_option maxHeartbeats 400000 in
theorem refSubsumes_none (p : Option Addr) (l : List Ft) (cap : Nat) (w : World) (_hl : l.length ≤ cap) (_hc : cap ≤ maxLen) :
    Calls Tryz.prog 66 #[.slice p l.length cap, .slice none 0 0] w fun e w' => e = .returned (.bool (subs l [])) ∧ (∃ n, w' = w.drewN n) := by
  unfold maxLen at _hc
  go_enter Tryz.func66, Tryz.ntmps66
  go_wp2
  go_loop [5] (fun i => i = .int .i64 0) (fun _ => 0)
  case atStart => rfl
  case round =>
    subst hrel
    by_cases h : 0 < l.length
    · have HF := Lib.hid (show subs l [] = false from subs_false h rfl)
      go_wp2
      go_loop [6, 7] (fun o i => o = .bool false ∧ i = .int .i64 0) (fun _ _ => 0)
      case atStart => exact ⟨rfl, rfl⟩
      case round =>
        obtain ⟨rfl, rfl⟩ := hrel
        go_wp2
        go_ret
        exact ⟨f_ret_bool HF.out.symm, 0, rfl⟩
    · have HF := Lib.hid (show subs l [] = true from subs_true (k := 0) (fun _ _ h => by omega) (by omega))
      have HZ : l.length = 0 := by omega
      go_wp2
      go_ret
      exact ⟨f_ret_bool HF.out.symm, 0, rfl⟩
theorem refSubsumes_any {u v : Value} {l m : List Ft} (w : World) (h : Reads w u l) (hm : Reads w v m) :
    Calls Tryz.prog 66 #[u, v] w fun e w' => e = .returned (.bool (subs l m)) ∧ (∃ n, w' = w.drewN n) := by
  rcases h with ⟨rfl, rfl⟩ | ⟨a, cap, rfl, hl, hc, H⟩
  · exact refSubsumes_nil v m w
  · rcases hm with ⟨rfl, rfl⟩ | ⟨b, cap', rfl, hl', hc', H'⟩
    · exact refSubsumes_none (some a) l cap w hl hc
    · exact refSubsumes_rows a b l m cap cap' w hl hc hl' hc' H H'
end Go.Proofs.YtgddmegjncbndaaGreatDoor
