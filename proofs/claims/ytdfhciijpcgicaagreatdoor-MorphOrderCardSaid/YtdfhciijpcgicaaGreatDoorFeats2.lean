/- Slices of features: SameFeats, Index and Contains whole. -/
import Derived.Test.YtdfhciijpcgicaaGreatDoorFeats
namespace Go.Proofs.YtdfhciijpcgicaaGreatDoor
open Go Go.RowKit
set_option maxHeartbeats 400000 in
theorem same_len (p q : Option Addr) (n n' cap cap' : Nat) (w : World) (h : n ≠ n') (_hn : n ≤ maxLen) (_hn' : n' ≤ maxLen) :
    Calls Tryz.prog 17 #[.slice p n cap, .slice q n' cap'] w fun e w' => e = .returned (.bool false) ∧ (∃ n, w' = w.drewN n) := by
  unfold maxLen at _hn _hn'
  have hb : ((n : Int) == (n' : Int)) = false := by simp; omega
  have hb' : ((n : Int) != (n' : Int)) = true := by simp; omega
  go_enter Tryz.func17, Tryz.ntmps17
  go_wp2
  go_ret
  exact ⟨rfl, 0, rfl⟩
set_option maxHeartbeats 400000 in
theorem same_nil (p q : Option Addr) (cap cap' : Nat) (w : World) :
    Calls Tryz.prog 17 #[.slice p 0 cap, .slice q 0 cap'] w fun e w' => e = .returned (.bool true) ∧ (∃ n, w' = w.drewN n) := by
  go_enter Tryz.func17, Tryz.ntmps17
  go_wp2
  go_loop [5] (fun i => i = .int .i64 0) (fun _ => 0)
  case atStart => rfl
  case round =>
    subst hrel
    go_wp2
    go_ret
    exact ⟨rfl, 0, rfl⟩
theorem same_any {v u : Value} {l m : List Ft} (w : World) (h : Reads w v l) (h' : Reads w u m) :
    Calls Tryz.prog 17 #[v, u] w fun e w' => e = .returned (.bool (decide (l = m))) ∧ (∃ n, w' = w.drewN n) := by
  by_cases hlen : l.length = m.length
  · rcases h with ⟨rfl, rfl⟩ | ⟨a, cap, rfl, hl, hc, H⟩
    · have hm : m = [] := by cases m <;> simp_all
      subst hm
      rcases h' with ⟨rfl, -⟩ | ⟨b, cap', rfl, hl', hc', H'⟩
      · exact same_nil _ _ _ _ w
      · exact same_nil _ _ _ _ w
    · rcases h' with ⟨rfl, rfl⟩ | ⟨b, cap', rfl, hl', hc', H'⟩
      · have hm : l = [] := by cases l <;> simp_all
        subst hm
        exact same_nil _ _ _ _ w
      · have := same_rows a b l m cap cap' w hl hc (by omega) hc' hlen H H'
        rw [← hlen]; exact this
  · have hd : decide (l = m) = false := by rw [decide_eq_false_iff_not]; rintro rfl; exact hlen rfl
    rw [hd]
    rcases h with ⟨rfl, rfl⟩ | ⟨a, cap, rfl, hl, hc, H⟩ <;> rcases h' with ⟨rfl, rfl⟩ | ⟨b, cap', rfl, hl', hc', H'⟩
    all_goals exact same_len _ _ _ _ _ _ w (fun e => hlen (by first | exact e | simpa using e)) (by first | omega | (unfold maxLen; omega)) (by first | omega | (unfold maxLen; omega))
/-- the first k are other than x -/
def none_of (l : List Ft) (x : Ft) (k : Nat) : Prop := ∀ i (h : i < l.length), i < k → l[i] ≠ x
def has (l : List Ft) (x : Ft) : Bool := l.any fun y => decide (y = x)
theorem has_no {l : List Ft} {x : Ft} {k : Nat} (h : none_of l x k) (hk : l.length ≤ k) : has l x = false := by
  unfold has
  rw [List.any_eq_false]
  intro y hy
  obtain ⟨i, hi, rfl⟩ := List.getElem_of_mem hy
  simpa using h i hi (by omega)
theorem has_yes {l : List Ft} {x : Ft} {k : Nat} (hk : k < l.length) (h : x = l[k]) : has l x = true := by
  unfold has
  rw [List.any_eq_true]
  exact ⟨l[k], List.getElem_mem _, by simpa using h.symm⟩
theorem none_succ {l : List Ft} {x : Ft} {k : Nat} (h : none_of l x k) (hk : k < l.length) (hx : x ≠ l[k]) : none_of l x (k + 1) := by
  intro i hi hik
  by_cases e : i = k
  · subst e; exact fun h' => hx h'.symm
  · exact h i hi (by omega)
/-- what Index returns: a number that is not negative just where the feature is there -/
def Found (l : List Ft) (x : Ft) (w : World) (e : Ending) (w' : World) : Prop :=
  ∃ i : Int, e = .returned (.int .i64 i) ∧ decide (0 ≤ i) = has l x ∧ Below w.heap.size w w'
theorem below_drewN {B : Nat} {a w : World} (n : Nat) (h : Below B a w) : Below B a (w.drewN n) := ⟨h.os, h.tape, h.output, h.size, h.block⟩
theorem below_boxed (w : World) (o : Obj) (n : Nat) : Below w.heap.size w ((w.alloc o).drewN n) := below_drewN n ((Below.refl _ _).alloc (Nat.le_refl _) _)
theorem add_block (a : Addr) (n : Nat) : (a.add n).block = a.block := by unfold Addr.add; split <;> rfl
set_option maxHeartbeats 400000 in
theorem index_row (a : Addr) (l : List Ft) (cap : Nat) (x : Ft) (w : World) (hl : l.length ≤ cap) (hc : cap ≤ maxLen) (H : RowAt w a l) (hb : a.block < w.heap.size) :
    Calls Tryz.prog 55 #[.slice (some a) l.length cap, .agg #[.string x.1, .string x.2]] w (Found l x w) := by
  unfold maxLen at hc
  have HH := Lib.hid H; clear H
  go_enter Tryz.func55, Tryz.ntmps55
  go_wp2
  go_loopw [8] (fun i wr => ∃ k n : Nat, k ≤ l.length ∧ i = .int .i64 k ∧ none_of l x k ∧ wr = (w.alloc (.cells #[.string x.1, .string x.2] 66)).drewN n) (fun i _ => l.length - (intOf i).toNat)
  case atStart => exact ⟨0, 0, by omega, rfl, fun i _ h2 => by omega, rfl⟩
  case round =>
    obtain ⟨k, n, hk, rfl, hr, rfl⟩ := hrel
    have HR := Lib.hid hr; clear hr
    by_cases hlt : k < l.length
    · obtain ⟨c11, c12⟩ := HH.out k hlt
      have e1 : (w.alloc (.cells #[.string x.1, .string x.2] 66)).cell? (a.add (k * 2)) = some (.string l[k].1) := by
        rw [(((Below.refl w.heap.size w).alloc (Nat.le_refl _) _).cell (p := a.add (k * 2)) (by rw [add_block]; exact hb))]; exact c11
      have e2 : (w.alloc (.cells #[.string x.1, .string x.2] 66)).cell? { block := (a.add (k * 2)).block, off := (a.add (k * 2)).off + 1 } = some (.string l[k].2) := by
        rw [(((Below.refl w.heap.size w).alloc (Nat.le_refl _) _).cell (p := ⟨(a.add (k * 2)).block, (a.add (k * 2)).off + 1, none⟩) (by show (a.add (k * 2)).block < _; rw [add_block]; exact hb))]; exact cell_next c12
      have a66 := Tryz.isAgg66
      have z66 := Tryz.sizeOf66
      clear c11 c12
      by_cases h1 : x.1.toList = l[k].1.toList <;> by_cases h2 : x.2.toList = l[k].2.toList
      · have HE := Lib.hid (ft_ext h1 h2)
        go_wp2
        go_quiet (fail)
        go_wp2
        go_ret
        exact ⟨k, rfl, by rw [has_yes hlt HE.out]; simp, by first | exact below_boxed _ _ _ | exact below_drewN _ (below_boxed _ _ _)⟩
      all_goals
        have HE := Lib.hid (ft_ne (x := x) (y := l[k]) (by first | exact .inl h1 | exact .inr h2))
        go_wp2
        go_quiet (fail)
        go_wp2
        go_roundw
        case rel => exact ⟨k + 1, _, by omega, by go_num, none_succ HR.out hlt HE.out, by first | exact World.drewN_drewN _ _ _ | rfl⟩
        case measure => simp [intOf]; omega
    · go_wp2
      go_ret
      exact ⟨-1, rfl, by rw [has_no HR.out (by omega)]; rfl, below_boxed _ _ _⟩
set_option maxHeartbeats 400000 in
theorem index_nil (x : Ft) (w : World) :
    Calls Tryz.prog 55 #[.slice none 0 0, .agg #[.string x.1, .string x.2]] w (Found [] x w) := by
  go_enter Tryz.func55, Tryz.ntmps55
  go_wp2
  go_loopw [8] (fun i wr => i = .int .i64 0 ∧ wr = (w.alloc (.cells #[.string x.1, .string x.2] 66))) (fun _ _ => 0)
  case atStart => exact ⟨rfl, rfl⟩
  case round =>
    obtain ⟨rfl, rfl⟩ := hrel
    go_wp2
    go_ret
    exact ⟨-1, rfl, rfl, (Below.refl _ _).alloc (Nat.le_refl _) _⟩
/-- a slice that reads as a list, its row below a bound -/
def ReadsIn (B : Nat) (w : World) (v : Value) (l : List Ft) : Prop :=
  (v = .slice none 0 0 ∧ l = []) ∨ ∃ (a : Addr) (cap : Nat), v = .slice (some a) l.length cap ∧ l.length ≤ cap ∧ cap ≤ maxLen ∧ a.block < B ∧ RowAt w a l
theorem index_any {v : Value} {l : List Ft} (x : Ft) (w : World) (h : ReadsIn w.heap.size w v l) :
    Calls Tryz.prog 55 #[v, .agg #[.string x.1, .string x.2]] w (Found l x w) := by
  rcases h with ⟨rfl, rfl⟩ | ⟨a, cap, rfl, hl, hc, hb, H⟩
  · exact index_nil x w
  · exact index_row a l cap x w hl hc H hb
theorem rowAt_below {w w' : World} {a : Addr} {l : List Ft} {B : Nat} (h : Below B w w') (ha : a.block < B) (H : RowAt w a l) : RowAt w' a l := by
  intro i hi
  obtain ⟨h1, h2⟩ := H i hi
  exact ⟨by rw [h.cell (by rw [add_block]; exact ha)]; exact h1, by rw [h.cell (by rw [add_block]; exact ha)]; exact h2⟩
theorem readsIn_below {w w' : World} {v : Value} {l : List Ft} {B : Nat} (h : Below B w w') (H : ReadsIn B w v l) : ReadsIn B w' v l := by
  rcases H with H | ⟨a, cap, e, hl, hc, hb, H⟩
  · exact .inl H
  · exact .inr ⟨a, cap, e, hl, hc, hb, rowAt_below h hb H⟩
theorem readsIn_mono {w : World} {v : Value} {l : List Ft} {B B' : Nat} (h : B ≤ B') (H : ReadsIn B w v l) : ReadsIn B' w v l := by
  rcases H with H | ⟨a, cap, e, hl, hc, hb, H⟩
  · exact .inl H
  · exact .inr ⟨a, cap, e, hl, hc, by omega, H⟩
set_option maxHeartbeats 400000 in
theorem contains_any {v : Value} {l : List Ft} (x : Ft) (w : World) (h : ReadsIn w.heap.size w v l) :
    Calls Tryz.prog 40 #[v, .agg #[.string x.1, .string x.2]] w fun e w' => e = .returned (.bool (has l x)) ∧ Below w.heap.size w w' := by
  have hB : Below w.heap.size w (w.alloc (.cells #[.string x.1, .string x.2] 66)) := (Below.refl _ _).alloc (Nat.le_refl _) _
  have HR := Lib.hid (readsIn_mono hB.size (readsIn_below hB h))
  have HB := Lib.hid hB
  clear h hB
  have a66 := Tryz.isAgg66
  have z66 := Tryz.sizeOf66
  go_enter Tryz.func40, Tryz.ntmps40
  go_wp2_with (go_at_call 55; refine (index_any x _ HR.out).mono ?_; rintro e w' ⟨i, rfl, hi, hb⟩; have HI := Lib.hid hi; clear hi)
  go_ret
  exact ⟨f_ret_bool HI.out, HB.out.trans (hb.mono HB.out.size)⟩
end Go.Proofs.YtdfhciijpcgicaaGreatDoor
