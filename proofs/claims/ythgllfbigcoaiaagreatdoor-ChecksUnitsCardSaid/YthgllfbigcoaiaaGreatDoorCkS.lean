/- Steps that make one list of another one, as data: how many are needed. Steps: what each costs, and which is best, by the program. Steps: the best one, by the program. Steps: the best one costs what is needed. -/
import GoSem.Step
import Derived.Test.YthgllfbigcoaiaaGreatDoorCkA
namespace Go.Proofs.YthgllfbigcoaiaaGreatDoor
set_option maxRecDepth 100000
section
variable {α : Type} [DecidableEq α]
/-- how many steps that keep nothing are needed -/
def lev : List α → List α → Nat
  | [], b => b.length
  | _ :: r, [] => r.length + 1
  | x :: r, y :: s => min (min (lev r (y :: s) + 1) (lev (x :: r) s + 1)) (if x = y then lev r s else lev r s + 1)
termination_by a b => a.length + b.length
theorem lev_nil (b : List α) : lev [] b = b.length := by rw [lev]
theorem lev_nil2 (a : List α) : lev a [] = a.length := by cases a <;> simp [lev]
theorem lev_cons (x y : α) (r s : List α) : lev (x :: r) (y :: s) = min (min (lev r (y :: s) + 1) (lev (x :: r) s + 1)) (if x = y then lev r s else lev r s + 1) := by rw [lev]
theorem lev_drop (x : α) (r c : List α) : lev (x :: r) c ≤ lev r c + 1 := by
  cases c with
  | nil => rw [lev_nil2, lev_nil2]; exact Nat.le_refl _
  | cons y s => rw [lev_cons]; omega
theorem lev_put (a : List α) (y : α) (s : List α) : lev a (y :: s) ≤ lev a s + 1 := by
  cases a with
  | nil => rw [lev_nil, lev_nil]; exact Nat.le_refl _
  | cons x r => rw [lev_cons]; omega
theorem lev_swap (x y : α) (r s : List α) : lev (x :: r) (y :: s) ≤ lev r s + 1 := by rw [lev_cons]; split <;> omega
theorem lev_keep (x : α) (r s : List α) : lev (x :: r) (x :: s) ≤ lev r s := by rw [lev_cons]; simp only [if_true]; omega
/-- rows of steps with what they cost -/
inductive Sc : List α → List α → Nat → Prop
  | nil : Sc [] [] 0
  | keep {x : α} {r s : List α} {n : Nat} (h : Sc r s n) : Sc (x :: r) (x :: s) n
  | swap {x y : α} {r s : List α} {n : Nat} (h : Sc r s n) : Sc (x :: r) (y :: s) (n + 1)
  | drop {x : α} {r s : List α} {n : Nat} (h : Sc r s n) : Sc (x :: r) s (n + 1)
  | put {y : α} {r s : List α} {n : Nat} (h : Sc r s n) : Sc r (y :: s) (n + 1)
theorem sc_le {a b : List α} {n : Nat} (h : Sc a b n) : lev a b ≤ n := by
  induction h with
  | nil => rw [lev_nil]; exact Nat.le_refl _
  | keep _ ih => exact Nat.le_trans (lev_keep ..) ih
  | swap _ ih => exact Nat.le_trans (lev_swap ..) (Nat.succ_le_succ ih)
  | drop _ ih => exact Nat.le_trans (lev_drop ..) (Nat.succ_le_succ ih)
  | put _ ih => exact Nat.le_trans (lev_put ..) (Nat.succ_le_succ ih)
omit [DecidableEq α] in
theorem sc_puts : ∀ b : List α, Sc [] b b.length
  | [] => .nil
  | _ :: s => .put (sc_puts s)
omit [DecidableEq α] in
theorem sc_drops : ∀ a : List α, Sc a [] a.length
  | [] => .nil
  | _ :: s => .drop (sc_drops s)
theorem sc_lev : ∀ a b : List α, Sc a b (lev a b)
  | [], b => by rw [lev_nil]; exact sc_puts b
  | x :: r, [] => by rw [lev_nil2]; exact sc_drops _
  | x :: r, y :: s => by
    have h1 := sc_lev r (y :: s)
    have h2 := sc_lev (x :: r) s
    have h3 := sc_lev r s
    rw [lev_cons]
    by_cases e : x = y
    · subst e
      rw [if_pos rfl]
      by_cases c1 : lev r s ≤ min (lev r (x :: s) + 1) (lev (x :: r) s + 1)
      · rw [Nat.min_eq_right c1]; exact .keep h3
      · rw [Nat.min_eq_left (by omega)]
        by_cases c2 : lev r (x :: s) + 1 ≤ lev (x :: r) s + 1
        · rw [Nat.min_eq_left c2]; exact .drop h1
        · rw [Nat.min_eq_right (by omega)]; exact .put h2
    · rw [if_neg e]
      by_cases c1 : lev r s + 1 ≤ min (lev r (y :: s) + 1) (lev (x :: r) s + 1)
      · rw [Nat.min_eq_right c1]; exact .swap h3
      · rw [Nat.min_eq_left (by omega)]
        by_cases c2 : lev r (y :: s) + 1 ≤ lev (x :: r) s + 1
        · rw [Nat.min_eq_left c2]; exact .drop h1
        · rw [Nat.min_eq_right (by omega)]; exact .put h2
termination_by a b => a.length + b.length
omit [DecidableEq α] in
theorem sc_symm {a b : List α} {n : Nat} (h : Sc a b n) : Sc b a n := by
  induction h with
  | nil => exact .nil
  | keep _ ih => exact .keep ih
  | swap _ ih => exact .swap ih
  | drop _ ih => exact .put ih
  | put _ ih => exact .drop ih
theorem lev_symm (a b : List α) : lev a b = lev b a := Nat.le_antisymm (sc_le (sc_symm (sc_lev b a))) (sc_le (sc_symm (sc_lev a b)))
theorem tri_len : ∀ (N : Nat) (a b c : List α) (n m : Nat), a.length + b.length + c.length ≤ N → Sc a b n → Sc b c m → lev a c ≤ n + m := by
  intro N
  induction N with
  | zero =>
    intro a b c n m hN h1 h2
    have ea : a = [] := List.eq_nil_of_length_eq_zero (by omega)
    have ec : c = [] := List.eq_nil_of_length_eq_zero (by omega)
    subst ea ec
    rw [lev_nil]; exact Nat.zero_le _
  | succ N ih =>
    intro a b c n m hN h1 h2
    cases h2 with
    | put h2 =>
      have := ih a b _ n _ (by simp at hN; omega) h1 h2
      exact Nat.le_trans (lev_put ..) (by omega)
    | nil =>
      cases h1 with
      | nil => rw [lev_nil]; exact Nat.zero_le _
      | drop h1 =>
        have := ih _ [] [] _ 0 (by simp at hN ⊢; omega) h1 .nil
        exact Nat.le_trans (lev_drop ..) (by omega)
    | keep h2 =>
      cases h1 with
      | drop h1 =>
        have := ih _ _ _ _ _ (by simp at hN ⊢; omega) h1 (.keep h2)
        exact Nat.le_trans (lev_drop ..) (by omega)
      | keep h1 =>
        have := ih _ _ _ _ _ (by simp at hN ⊢; omega) h1 h2
        exact Nat.le_trans (lev_keep ..) this
      | swap h1 =>
        have := ih _ _ _ _ _ (by simp at hN ⊢; omega) h1 h2
        exact Nat.le_trans (lev_swap ..) (by omega)
      | put h1 =>
        have := ih _ _ _ _ _ (by simp at hN ⊢; omega) h1 h2
        exact Nat.le_trans (lev_put ..) (by omega)
    | @swap x2 y2 r2 s2 n2 h2 =>
      have h2' : Sc (x2 :: r2) (y2 :: s2) (n2 + 1) := .swap h2
      cases h1 with
      | drop h1 =>
        have := ih _ _ _ _ _ (by simp at hN ⊢; omega) h1 h2'
        exact Nat.le_trans (lev_drop ..) (by omega)
      | keep h1 =>
        have := ih _ _ _ _ _ (by simp at hN ⊢; omega) h1 h2
        exact Nat.le_trans (lev_swap ..) (by omega)
      | swap h1 =>
        have := ih _ _ _ _ _ (by simp at hN ⊢; omega) h1 h2
        exact Nat.le_trans (lev_swap ..) (by omega)
      | put h1 =>
        have := ih _ _ _ _ _ (by simp at hN ⊢; omega) h1 h2
        exact Nat.le_trans (lev_put ..) (by omega)
    | drop h2 =>
      cases h1 with
      | drop h1 =>
        have := ih _ _ _ _ _ (by simp at hN ⊢; omega) h1 (.drop h2)
        exact Nat.le_trans (lev_drop ..) (by omega)
      | keep h1 =>
        have := ih _ _ _ _ _ (by simp at hN ⊢; omega) h1 h2
        exact Nat.le_trans (lev_drop ..) (by omega)
      | swap h1 =>
        have := ih _ _ _ _ _ (by simp at hN ⊢; omega) h1 h2
        exact Nat.le_trans (lev_drop ..) (by omega)
      | put h1 =>
        have := ih _ _ _ _ _ (by simp at hN ⊢; omega) h1 h2
        omega
/-- never more than by way of a third list -/
theorem lev_tri (a b c : List α) : lev a b ≤ lev a c + lev c b := tri_len _ a c b _ _ (Nat.le_refl _) (sc_lev a c) (sc_lev c b)
omit [DecidableEq α] in
theorem sc_same : ∀ a : List α, Sc a a 0
  | [] => .nil
  | _ :: r => .keep (sc_same r)
theorem lev_zero (a b : List α) : lev a b = 0 ↔ a = b := by
  constructor
  · intro h
    have hs := sc_lev a b
    rw [h] at hs
    have key : ∀ {a b : List α} {n : Nat}, Sc a b n → n = 0 → a = b := by
      intro a b n h
      induction h with
      | nil => intro _; rfl
      | keep _ ih => intro e; rw [ih e]
      | swap _ _ => intro e; cases e
      | drop _ _ => intro e; cases e
      | put _ _ => intro e; cases e
    exact key hs rfl
  · rintro rfl
    exact Nat.le_zero.1 (sc_le (sc_same a))
omit [DecidableEq α] in
theorem sc_append {a b : List α} {n : Nat} (h : Sc a b n) {c d : List α} {m : Nat} (k : Sc c d m) : Sc (a ++ c) (b ++ d) (n + m) := by
  induction h with
  | nil => simpa using k
  | keep _ ih => exact .keep ih
  | swap _ ih => rw [Nat.add_right_comm]; exact .swap ih
  | drop _ ih => rw [Nat.add_right_comm]; exact .drop ih
  | put _ ih => rw [Nat.add_right_comm]; exact .put ih
omit [DecidableEq α] in
theorem sc_reverse {a b : List α} {n : Nat} (h : Sc a b n) : Sc a.reverse b.reverse n := by
  induction h with
  | nil => exact .nil
  | keep _ ih => simp only [List.reverse_cons]; exact sc_append ih (m := 0) (.keep .nil)
  | swap _ ih => simp only [List.reverse_cons]; exact sc_append ih (m := 1) (.swap .nil)
  | @drop x r s n _ ih => simp only [List.reverse_cons]; have := sc_append ih (m := 1) (c := [x]) (d := []) (.drop .nil); rwa [List.append_nil] at this
  | @put y r s n _ ih => simp only [List.reverse_cons]; have := sc_append ih (m := 1) (c := []) (d := [y]) (.put .nil); rwa [List.append_nil] at this
theorem lev_reverse (a b : List α) : lev a.reverse b.reverse = lev a b := by
  refine Nat.le_antisymm (sc_le (sc_reverse (sc_lev a b))) ?_
  have := sc_le (sc_reverse (sc_lev a.reverse b.reverse))
  rwa [List.reverse_reverse, List.reverse_reverse] at this
theorem lev_head (w : α) (a b : List α) : lev (w :: a) (w :: b) = lev a b := by
  refine Nat.le_antisymm (lev_keep ..) ?_
  have h := sc_lev (w :: a) (w :: b)
  generalize lev (w :: a) (w :: b) = n at h
  cases h with
  | keep h => exact sc_le h
  | swap h => exact Nat.le_succ_of_le (sc_le h)
  | drop h => exact tri_len _ a (w :: b) b _ _ (Nat.le_refl _) h (.drop (sc_same b))
  | put h =>
    have := tri_len _ a (w :: a) b _ _ (Nat.le_refl _) (.put (sc_same a)) h
    omega
/-- one more at the end of both changes nothing -/
theorem lev_snoc (a b : List α) (w : α) : lev (a ++ [w]) (b ++ [w]) = lev a b := by
  rw [← lev_reverse, List.reverse_append, List.reverse_append]
  show lev (w :: a.reverse) (w :: b.reverse) = _
  rw [lev_head, lev_reverse]
omit [DecidableEq α] in
theorem sc_len {a b : List α} {n : Nat} (h : Sc a b n) : a.length ≤ b.length + n ∧ b.length ≤ a.length + n := by
  induction h with
  | nil => simp
  | keep _ ih => simp only [List.length_cons]; omega
  | swap _ ih => simp only [List.length_cons]; omega
  | drop _ ih => simp only [List.length_cons]; omega
  | put _ ih => simp only [List.length_cons]; omega
theorem lev_ge (a b : List α) : a.length ≤ b.length + lev a b ∧ b.length ≤ a.length + lev a b := sc_len (sc_lev a b)
theorem lev_max : ∀ a b : List α, lev a b ≤ max a.length b.length
  | [], b => by rw [lev_nil]; omega
  | x :: r, [] => by rw [lev_nil2]; omega
  | x :: r, y :: s => by
    have h1 := lev_swap x y r s
    have h2 := lev_max r s
    simp only [List.length_cons]
    omega
/-- what is left behind places of both lists -/
def dL (a b : List α) (i j : Nat) : Nat := lev (a.drop i) (b.drop j)
theorem dL_both {a b : List α} {i j : Nat} {x y : α} (hi : a[i]? = some x) (hj : b[j]? = some y) :
    dL a b i j = min (min (dL a b (i + 1) j + 1) (dL a b i (j + 1) + 1)) (if x = y then dL a b (i + 1) (j + 1) else dL a b (i + 1) (j + 1) + 1) := by
  unfold dL
  obtain ⟨hi1, rfl⟩ := List.getElem?_eq_some_iff.1 hi
  obtain ⟨hj1, rfl⟩ := List.getElem?_eq_some_iff.1 hj
  conv => lhs; rw [List.drop_eq_getElem_cons hi1, List.drop_eq_getElem_cons hj1, lev_cons]
  rw [← List.drop_eq_getElem_cons hi1, ← List.drop_eq_getElem_cons hj1]
theorem dL_left {a b : List α} {i j : Nat} (hi : i < a.length) (hj : b.length ≤ j) : dL a b i j = dL a b (i + 1) j + 1 := by
  unfold dL
  rw [List.drop_eq_nil_of_le hj, lev_nil2, lev_nil2, List.length_drop, List.length_drop]
  omega
theorem dL_right {a b : List α} {i j : Nat} (hi : a.length ≤ i) (hj : j < b.length) : dL a b i j = dL a b i (j + 1) + 1 := by
  unfold dL
  rw [List.drop_eq_nil_of_le hi, lev_nil, lev_nil, List.length_drop, List.length_drop]
  omega
theorem dL_end {a b : List α} {i j : Nat} (hi : a.length ≤ i) (hj : b.length ≤ j) : dL a b i j = 0 := by
  unfold dL
  rw [List.drop_eq_nil_of_le hi, List.drop_eq_nil_of_le hj, lev_nil]
  rfl
theorem dL_le (a b : List α) (i j : Nat) : dL a b i j ≤ max a.length b.length := by
  unfold dL
  have := lev_max (a.drop i) (b.drop j)
  simp only [List.length_drop] at this
  omega
end
end Go.Proofs.YthgllfbigcoaiaaGreatDoor
namespace Go.Proofs.YthgllfbigcoaiaaGreatDoor
open Go Go.RowKit Go.Lib
set_option maxRecDepth 100000
def eqB (a b : ByteArray) : Bool := a.toList == b.toList
theorem eqB_iff {a b : ByteArray} : eqB a b = true ↔ a = b := by
  unfold eqB
  constructor
  · intro h
    have h1 := eq_of_beq h
    rw [Lib.toList_data, Lib.toList_data] at h1
    cases a; cases b
    simp only at h1
    rw [Array.toList_inj.1 h1]
  · rintro rfl
    simp
/-- the words that come next behind a step -/
def aheadI (s i : Nat) : Nat := if s = 3 then i else i + 1
def aheadJ (s j : Nat) : Nat := if s = 2 then j else j + 1
set_option maxHeartbeats 1000000 in
theorem ahead_any (s i j : Nat) (w : World) (hs : s ≤ 3) (hi : i ≤ 1000) (hj : j ≤ 1000) : Calls Tryz.prog 41 #[.int .u8 s, .int .i64 i, .int .i64 j] w fun e w' => e = .returned (.tuple #[.int .i64 (aheadI s i), .int .i64 (aheadJ s j)]) ∧ w' = w := by
  rcases (show s = 0 ∨ s = 1 ∨ s = 2 ∨ s = 3 by omega) with rfl | rfl | rfl | rfl
  all_goals
    go_enter Tryz.func41, Tryz.ntmps41
    go_wp2
    go_ret2
    exact ⟨by simp [aheadI, aheadJ], rfl⟩
/-- a table of numbers, as far as it is filled -/
def TabW (w : World) (o : Nat) (rb : Nat → Nat) (la lb : Nat) (D : Nat → Nat → Nat) (P : Nat → Nat → Prop) : Prop :=
  ∀ i j, i ≤ la → j ≤ lb → P i j → w.cell? ⟨o, i, none⟩ = some (.slice (some ⟨rb i, 0, none⟩) (lb + 1) (lb + 1)) ∧ w.cell? ⟨rb i, j, none⟩ = some (.int .i64 (D i j))
theorem TabW.step {w w' : World} {o : Nat} {rb : Nat → Nat} {la lb : Nat} {D : Nat → Nat → Nat} {P : Nat → Nat → Prop} (hb : Below w.heap.size w w') (h : TabW w o rb la lb D P) : TabW w' o rb la lb D P := by
  intro i j hi hj hP
  obtain ⟨h1, h2⟩ := h i j hi hj hP
  exact ⟨by rw [hb.cell (World.block_lt_of_cell? w _ h1)]; exact h1, by rw [hb.cell (World.block_lt_of_cell? w _ h2)]; exact h2⟩
theorem TabW.weak {w : World} {o : Nat} {rb : Nat → Nat} {la lb : Nat} {D : Nat → Nat → Nat} {P P' : Nat → Nat → Prop} (hP : ∀ i j, i ≤ la → j ≤ lb → P' i j → P i j) (h : TabW w o rb la lb D P) : TabW w o rb la lb D P' := fun i j hi hj hp => h i j hi hj (hP i j hi hj hp)
/-- behind a place: the rows below it, and what stands to its right -/
def Behind (i j : Nat) (i' j' : Nat) : Prop := i < i' ∨ (i = i' ∧ j < j')
/-- two lists and their table -/
def editsV (va vb : Value) (o la : Nat) : Value := .agg #[va, vb, .slice (some ⟨o, 0, none⟩) (la + 1) (la + 1)]
/-- what a step costs, and whether it may come -/
def costV (a b : List ByteArray) (D : Nat → Nat → Nat) (s i j : Nat) : Int × Bool :=
  if aheadI s i ≤ a.length ∧ aheadJ s j ≤ b.length then
    (if s = 0 then ((D (aheadI s i) (aheadJ s j) : Nat), eqB (a.getD i ⟨#[]⟩) (b.getD j ⟨#[]⟩)) else ((D (aheadI s i) (aheadJ s j) : Nat) + 1, true))
  else (0, false)
/-- the cells of the boxed lists and table -/
def BoxE (g : Nat) (va vb : Value) (o la : Nat) (w : World) : Prop := (w.cell? ⟨g, 0, none⟩ = some va ∧ w.cell? ⟨g, 1, none⟩ = some vb ∧ w.cell? ⟨g, 2, none⟩ = some (.slice (some ⟨o, 0, none⟩) (la + 1) (la + 1))) ∧ g < w.heap.size
theorem BoxE.new (w : World) (va vb : Value) (o la : Nat) (t : TypeId) : BoxE w.heap.size va vb o la (w.alloc (.cells #[va, vb, .slice (some ⟨o, 0, none⟩) (la + 1) (la + 1)] t)) := by
  refine ⟨⟨?_, ?_, ?_⟩, ?_⟩ <;> simp
theorem BoxE.step {g : Nat} {va vb : Value} {o la : Nat} {w w' : World} (hb : Below w.heap.size w w') (h : BoxE g va vb o la w) : BoxE g va vb o la w' := by
  obtain ⟨⟨h0, h1, h2⟩, h3⟩ := h
  exact ⟨⟨by rw [hb.cell (p := ⟨g, 0, none⟩) h3]; exact h0, by rw [hb.cell (p := ⟨g, 1, none⟩) h3]; exact h1, by rw [hb.cell (p := ⟨g, 2, none⟩) h3]; exact h2⟩, Nat.lt_of_lt_of_le h3 hb.size⟩
theorem bdN (w : World) (n : Nat) : Below w.heap.size w (w.drewN n) := ⟨rfl, rfl, rfl, Nat.le_refl _, fun _ _ => rfl⟩
theorem slot_add (o i : Nat) : (⟨o, 0, none⟩ : Addr).add i = ⟨o, i, none⟩ := by
  unfold Addr.add
  split
  · rename_i h0
    subst h0; rfl
  · simp
set_option maxHeartbeats 8000000 in
theorem cost_any (a b : List ByteArray) (va vb : Value) (o : Nat) (rb : Nat → Nat) (D : Nat → Nat → Nat) (s i j : Nat) (w : World) (ha : WdsAt w va a) (hb : WdsAt w vb b)
    (hT : TabW w o rb a.length b.length D (Behind i j)) (hs : s ≤ 3) (hi : i ≤ a.length) (hj : j ≤ b.length) (hal : a.length ≤ 512) (hbl : b.length ≤ 512) (hD : ∀ i j, D i j ≤ 1024) :
    Calls Tryz.prog 64 #[editsV va vb o a.length, .int .u8 s, .int .i64 i, .int .i64 j] w fun e w' => e = .returned (.tuple #[.int .i64 (costV a b D s i j).1, .bool (costV a b D s i j).2]) ∧ Below w.heap.size w w' := by
  obtain ⟨⟨p, cap, rfl, hl, hc, hrA⟩, hza⟩ := ha
  obtain ⟨⟨p2, cap2, rfl, hl2, hc2, hrB⟩, hzb⟩ := hb
  unfold maxLen at hc hc2
  unfold editsV
  have agE := Tryz.isAgg78
  have zgE := Tryz.sizeOf78
  have HBX := Lib.hid (BoxE.new w (.slice p a.length cap) (.slice p2 b.length cap2) o a.length 78)
  have HT := Lib.hid (hT.step (below_box (w := w) (.cells #[.slice p a.length cap, .slice p2 b.length cap2, .slice (some ⟨o, 0, none⟩) (a.length + 1) (a.length + 1)] 78)))
  have HB := Lib.hid (below_box (w := w) (.cells #[.slice p a.length cap, .slice p2 b.length cap2, .slice (some ⟨o, 0, none⟩) (a.length + 1) (a.length + 1)] 78))
  have HV := Lib.hid (show costV a b D s i j = (if aheadI s i ≤ a.length ∧ aheadJ s j ≤ b.length then
    (if s = 0 then ((D (aheadI s i) (aheadJ s j) : Nat), eqB (a.getD i ⟨#[]⟩) (b.getD j ⟨#[]⟩)) else ((D (aheadI s i) (aheadJ s j) : Nat) + 1, true))
    else (0, false) : Int × Bool) from rfl)
  have hDD := hD (aheadI s i) (aheadJ s j)
  have hP : Behind i j (aheadI s i) (aheadJ s j) := by unfold Behind aheadI aheadJ; rcases (show s = 0 ∨ s = 1 ∨ s = 2 ∨ s = 3 by omega) with rfl | rfl | rfl | rfl <;> simp
  have h0 : s = 0 → aheadI s i = i + 1 ∧ aheadJ s j = j + 1 := by rintro rfl; exact ⟨rfl, rfl⟩
  have hTT := HT.out (aheadI s i) (aheadJ s j)
  have cA := fun w => ahead_any s i j w hs (by omega) (by omega)
  have hIle : aheadI s i ≤ i + 1 := by unfold aheadI; split <;> omega
  have hJle : aheadJ s j ≤ j + 1 := by unfold aheadJ; split <;> omega
  generalize aheadI s i = I at *
  generalize aheadJ s j = J at *
  have hdw : IntKind.i64.wrap (((D I J : Nat) : Int) + 1) = ((D I J : Nat) : Int) + 1 := by rw [IntKind.wrap_i64] <;> omega
  clear hT hza hzb hD
  by_cases hI : I ≤ a.length ∧ J ≤ b.length
  · obtain ⟨x0, x1⟩ := hTT hI.1 hI.2 hP
    have i1 : ¬ (a.length : Int) < (I : Int) := by omega
    have i2 : ¬ (b.length : Int) < (J : Int) := by omega
    have i3 : (I : Int) < (a.length : Int) + 1 := by omega
    have i4 : (J : Int) < (b.length : Int) + 1 := by omega
    have i5 : I < a.length + 1 := by omega
    have i6 : J < b.length + 1 := by omega
    generalize D I J = d at *
    obtain ⟨⟨m0, m1, m2⟩, hsz⟩ := HBX.out
    by_cases hs0 : s = 0
    · subst hs0
      obtain ⟨rfl, rfl⟩ := h0 rfl
      obtain ⟨A, rfl, hA, hcA⟩ := hrA (by omega)
      obtain ⟨A2, rfl, hA2, hcB⟩ := hrB (by omega)
      have y0 : (w.alloc (.cells #[.slice (some A) a.length cap, .slice (some A2) b.length cap2, .slice (some ⟨o, 0, none⟩) (a.length + 1) (a.length + 1)] 78)).cell? (A.add i) = some (.string (a.getD i ⟨#[]⟩)) := by
        rw [HB.out.cell (by rw [add_block]; exact hA)]
        have := hcA i 0 (by omega) (by omega)
        rwa [Nat.mul_one, Nat.add_zero] at this
      have y1 : (w.alloc (.cells #[.slice (some A) a.length cap, .slice (some A2) b.length cap2, .slice (some ⟨o, 0, none⟩) (a.length + 1) (a.length + 1)] 78)).cell? (A2.add j) = some (.string (b.getD j ⟨#[]⟩)) := by
        rw [HB.out.cell (by rw [add_block]; exact hA2)]
        have := hcB j 0 (by omega) (by omega)
        rwa [Nat.mul_one, Nat.add_zero] at this
      clear hcA hcB
      have hi1 : i < a.length := by omega
      have hj1 : j < b.length := by omega
      have HI := Lib.hid hI
      have cA : ∀ w, Calls Tryz.prog 41 #[.int .u8 0, .int .i64 i, .int .i64 j] w fun e w' => e = .returned (.tuple #[.int .i64 ((i + 1 : Nat) : Int), .int .i64 ((j + 1 : Nat) : Int)]) ∧ w' = w := cA
      clear hTT hP h0 hI
      generalize a.getD i ⟨#[]⟩ = sa at *
      generalize b.getD j ⟨#[]⟩ = sb at *
      cases he : eqB sa sb
      all_goals
        have he' := he
        unfold eqB at he'
        go_enter Tryz.func64, Tryz.ntmps64
        go_wp2_with (go_at_call 41; (with_reducible refine (cA _).mono ?_); rintro e w1 ⟨rfl, rfl⟩)
        go_quiet (fail)
        go_wp2
        go_ret2
        exact ⟨by rw [HV.out, if_pos HI.out]; simp only [if_true, he]; rfl, below_next HB.out (bdN _ _)⟩
    · have i7 : ((s : Int) == 0) = false := by simp; omega
      have i8 : ¬ (s : Int) = 0 := by omega
      go_enter Tryz.func64, Tryz.ntmps64
      go_wp2_with (go_at_call 41; (with_reducible refine (cA _).mono ?_); rintro e w1 ⟨rfl, rfl⟩)
      go_ret2
      exact ⟨by rw [HV.out, if_pos hI, if_neg hs0]; rfl, HB.out⟩
  · obtain ⟨⟨m0, m1, m2⟩, hsz⟩ := HBX.out
    have HI := Lib.hid hI
    have h3 : a.length < I ∨ b.length < J := by omega
    clear hTT hP h0
    by_cases i1 : (a.length : Int) < (I : Int) <;> by_cases i2 : (b.length : Int) < (J : Int)
    all_goals first
      | (exfalso; omega)
      | (clear hI h3
         go_enter Tryz.func64, Tryz.ntmps64
         go_wp2_with (go_at_call 41; (with_reducible refine (cA _).mono ?_); rintro e w1 ⟨rfl, rfl⟩)
         go_ret2
         exact ⟨by rw [HV.out, if_neg HI.out]; rfl, HB.out⟩)
end Go.Proofs.YthgllfbigcoaiaaGreatDoor
namespace Go.Proofs.YthgllfbigcoaiaaGreatDoor
open Go Go.RowKit Go.Lib
set_option maxRecDepth 100000
/-- the best step, and what it costs, among the first ones -/
def blTo (a b : List ByteArray) (D : Nat → Nat → Nat) (i j : Nat) : Nat → Nat × Int
  | 0 => (0, -1)
  | s + 1 => if (costV a b D s i j).2 = true ∧ ((blTo a b D i j s).2 < 0 ∨ (costV a b D s i j).1 < (blTo a b D i j s).2) then (s, (costV a b D s i j).1) else blTo a b D i j s
def bestN (a b : List ByteArray) (D : Nat → Nat → Nat) (i j : Nat) : Nat := (blTo a b D i j 4).1
theorem blTo_le (a b : List ByteArray) (D : Nat → Nat → Nat) (i j : Nat) : ∀ s, (blTo a b D i j s).1 ≤ s
  | 0 => Nat.le_refl _
  | s + 1 => by
    have := blTo_le a b D i j s
    rw [blTo]
    split
    · exact Nat.le_succ _
    · omega
set_option maxHeartbeats 8000000 in
theorem best_any (a b : List ByteArray) (va vb : Value) (o : Nat) (rb : Nat → Nat) (D : Nat → Nat → Nat) (i j : Nat) (w : World) (ha : WdsAt w va a) (hb : WdsAt w vb b)
    (hT : TabW w o rb a.length b.length D (Behind i j)) (hi : i ≤ a.length) (hj : j ≤ b.length) (hal : a.length ≤ 512) (hbl : b.length ≤ 512) (hD : ∀ i j, D i j ≤ 1024) :
    Calls Tryz.prog 40 #[editsV va vb o a.length, .int .i64 i, .int .i64 j] w fun e w' => e = .returned (.int .u8 (bestN a b D i j)) ∧ Below w.heap.size w w' := by
  have agE := Tryz.isAgg78
  have zgE := Tryz.sizeOf78
  have cC := fun s w ha hb hT hs => cost_any a b va vb o rb D s i j w ha hb hT hs hi hj hal hbl hD
  have HA := Lib.hid ha
  have HB := Lib.hid hb
  have HT := Lib.hid hT
  have hva : ∃ p n c, va = .slice p n c := by obtain ⟨⟨p, c, e, _⟩, _⟩ := ha; exact ⟨_, _, _, e⟩
  have hvb : ∃ p n c, vb = .slice p n c := by obtain ⟨⟨p, c, e, _⟩, _⟩ := hb; exact ⟨_, _, _, e⟩
  obtain ⟨p1, n1, c1, rfl⟩ := hva
  obtain ⟨p2, n2, c2, rfl⟩ := hvb
  unfold editsV at *
  have HX0 := Lib.hid (BoxE.new w (.slice p1 n1 c1) (.slice p2 n2 c2) o a.length 78)
  have HB0 := Lib.hid (below_box (w := w) (.cells #[.slice p1 n1 c1, .slice p2 n2 c2, .slice (some ⟨o, 0, none⟩) (a.length + 1) (a.length + 1)] 78))
  have HN : Hid (bestN a b D i j = (blTo a b D i j 4).1) := rfl
  clear ha hb hT hD
  go_enter Tryz.func40, Tryz.ntmps40
  go_wp2
  go_loopw [7, 8, 9, 10, 11] (fun bk ls st _ _ wr => ∃ s : Nat, s ≤ 4 ∧ st = .int .u8 s ∧ bk = .int .u8 (blTo a b D i j s).1 ∧ ls = .int .i64 (blTo a b D i j s).2 ∧ Hid (Below w.heap.size w wr) ∧ Hid (BoxE w.heap.size (.slice p1 n1 c1) (.slice p2 n2 c2) o a.length wr)) (fun _ _ st _ _ _ => 4 - (RowKit.intOf st).toNat)
  case atStart => exact ⟨0, by omega, rfl, rfl, rfl, HB0.out, HX0.out⟩
  case round =>
    obtain ⟨s, hs, rfl, rfl, rfl, HBW, HX⟩ := hrel
    obtain ⟨⟨m0, m1, m2⟩, hsz⟩ := HX.out
    by_cases hlt : s < 4
    · have HS : Hid (blTo a b D i j (s + 1) = if (costV a b D s i j).2 = true ∧ ((blTo a b D i j s).2 < 0 ∨ (costV a b D s i j).1 < (blTo a b D i j s).2) then (s, (costV a b D s i j).1) else blTo a b D i j s) := rfl
      have cS := cC s wr (HA.out.step HBW.out) (HB.out.step HBW.out) (HT.out.step HBW.out) (by omega)
      have hw8 : IntKind.u8.wrap ((s : Int) + 1) = (s : Int) + 1 := by
        rcases (show s = 0 ∨ s = 1 ∨ s = 2 ∨ s = 3 by omega) with rfl | rfl | rfl | rfl <;> rfl
      have hs3 : (s : Int) ≤ 3 := by omega
      generalize costV a b D s i j = cv at cS HS
      obtain ⟨c, ok⟩ := cv
      simp only at cS HS
      generalize blTo a b D i j s = bl at HS ⊢
      obtain ⟨bk, ls⟩ := bl
      simp only at HS ⊢
      cases ok
      · go_wp2_with (go_at_call 64; (with_reducible refine cS.mono ?_); rintro e w2 ⟨rfl, hb2⟩)
        have HX2 := Lib.hid (HX.out.step hb2)
        have HB2 := Lib.hid (below_next HBW.out hb2)
        go_roundw
        case rel => exact ⟨s + 1, by omega, by go_num, by rw [HS.out]; rfl, by rw [HS.out]; rfl, HB2.out, HX2.out⟩
        case measure => simp [RowKit.intOf]; omega
      · by_cases l0 : ls < 0
        · go_wp2_with (go_at_call 64; (with_reducible refine cS.mono ?_); rintro e w2 ⟨rfl, hb2⟩)
          have HX2 := Lib.hid (HX.out.step hb2)
          have HB2 := Lib.hid (below_next HBW.out hb2)
          go_roundw
          case rel => exact ⟨s + 1, by omega, by go_num, by rw [HS.out, if_pos (by simp [l0])], by rw [HS.out, if_pos (by simp [l0])], HB2.out, HX2.out⟩
          case measure => simp [RowKit.intOf]; omega
        · by_cases l1 : c < ls
          · go_wp2_with (go_at_call 64; (with_reducible refine cS.mono ?_); rintro e w2 ⟨rfl, hb2⟩)
            have HX2 := Lib.hid (HX.out.step hb2)
            have HB2 := Lib.hid (below_next HBW.out hb2)
            go_roundw
            case rel => exact ⟨s + 1, by omega, by go_num, by rw [HS.out, if_pos (by simp [l1])], by rw [HS.out, if_pos (by simp [l1])], HB2.out, HX2.out⟩
            case measure => simp [RowKit.intOf]; omega
          · go_wp2_with (go_at_call 64; (with_reducible refine cS.mono ?_); rintro e w2 ⟨rfl, hb2⟩)
            have HX2 := Lib.hid (HX.out.step hb2)
            have HB2 := Lib.hid (below_next HBW.out hb2)
            go_roundw
            case rel => exact ⟨s + 1, by omega, by go_num, by rw [HS.out, if_neg (by simp; omega)], by rw [HS.out, if_neg (by simp; omega)], HB2.out, HX2.out⟩
            case measure => simp [RowKit.intOf]; omega
    · have HS4 := Lib.hid (show s = 4 by omega)
      have hn3 : ¬ (s : Int) ≤ 3 := by omega
      go_wp2
      go_ret
      exact ⟨by rw [HN.out, HS4.out]; rfl, HBW.out⟩
end Go.Proofs.YthgllfbigcoaiaaGreatDoor
namespace Go.Proofs.YthgllfbigcoaiaaGreatDoor
open Go Go.RowKit Go.Lib
set_option maxRecDepth 100000
section
variable {a b : List ByteArray} {D : Nat → Nat → Nat} {i j : Nat}
theorem cost_pos (s : Nat) : 0 ≤ (costV a b D s i j).1 := by
  unfold costV
  split
  · split <;> simp <;> omega
  · simp
theorem bl_inv : ∀ s : Nat, ((blTo a b D i j s).2 < 0 ∧ ∀ t, t < s → (costV a b D t i j).2 = false) ∨
    (0 ≤ (blTo a b D i j s).2 ∧ (blTo a b D i j s).1 < s ∧ costV a b D (blTo a b D i j s).1 i j = ((blTo a b D i j s).2, true) ∧ ∀ t, t < s → (costV a b D t i j).2 = true → (blTo a b D i j s).2 ≤ (costV a b D t i j).1)
  | 0 => .inl ⟨by show (-1 : Int) < 0; decide, fun t h => absurd h (Nat.not_lt_zero _)⟩
  | s + 1 => by
    have ih := bl_inv s
    rw [blTo]
    split
    · rename_i hc
      obtain ⟨hok, hlt⟩ := hc
      refine .inr ⟨cost_pos s, Nat.lt_succ_self s, by rw [← hok], fun t ht hto => ?_⟩
      rcases Nat.lt_succ_iff_lt_or_eq.1 ht with h | h
      · rcases ih with ⟨_, h2⟩ | ⟨h1, _, _, h4⟩
        · rw [h2 t h] at hto; cases hto
        · have := h4 t h hto
          show (costV a b D s i j).1 ≤ _
          omega
      · rw [h]; exact Int.le_refl _
    · rename_i hc
      rcases ih with ⟨h1, h2⟩ | ⟨h1, h2, h3, h4⟩
      · refine .inl ⟨h1, fun t ht => ?_⟩
        rcases Nat.lt_succ_iff_lt_or_eq.1 ht with h | h
        · exact h2 t h
        · rw [h]
          cases e : (costV a b D s i j).2
          · rfl
          · exact absurd ⟨e, .inl h1⟩ hc
      · refine .inr ⟨h1, Nat.lt_succ_of_lt h2, h3, fun t ht hto => ?_⟩
        rcases Nat.lt_succ_iff_lt_or_eq.1 ht with h | h
        · exact h4 t h hto
        · rw [h] at hto ⊢
          have : ¬ (costV a b D s i j).1 < (blTo a b D i j s).2 := fun h' => hc ⟨hto, .inr h'⟩
          omega
end
section
variable {a b : List ByteArray} {i j : Nat}
theorem getD_some {l : List ByteArray} {i : Nat} (h : i < l.length) : l[i]? = some (l.getD i ⟨#[]⟩) := by
  rw [List.getD_eq_getElem?_getD, List.getElem?_eq_getElem h]; rfl
theorem cv0 {D : Nat → Nat → Nat} (h1 : i < a.length) (h2 : j < b.length) : costV a b D 0 i j = (((D (i + 1) (j + 1) : Nat) : Int), eqB (a.getD i ⟨#[]⟩) (b.getD j ⟨#[]⟩)) := by
  have e1 : i + 1 ≤ a.length := h1
  have e2 : j + 1 ≤ b.length := h2
  simp [costV, aheadI, aheadJ, e1, e2]
theorem cv1 {D : Nat → Nat → Nat} (h1 : i < a.length) (h2 : j < b.length) : costV a b D 1 i j = (((D (i + 1) (j + 1) : Nat) : Int) + 1, true) := by
  have e1 : i + 1 ≤ a.length := h1
  have e2 : j + 1 ≤ b.length := h2
  simp [costV, aheadI, aheadJ, e1, e2]
theorem cv2 {D : Nat → Nat → Nat} (h1 : i < a.length) (h2 : j ≤ b.length) : costV a b D 2 i j = (((D (i + 1) j : Nat) : Int) + 1, true) := by
  have e1 : i + 1 ≤ a.length := h1
  simp [costV, aheadI, aheadJ, e1, h2]
theorem cv3 {D : Nat → Nat → Nat} (h1 : i ≤ a.length) (h2 : j < b.length) : costV a b D 3 i j = (((D i (j + 1) : Nat) : Int) + 1, true) := by
  have e2 : j + 1 ≤ b.length := h2
  simp [costV, aheadI, aheadJ, h1, e2]
/-- what a step that may come asks for -/
theorem cv_ok {D : Nat → Nat → Nat} {s : Nat} (h : (costV a b D s i j).2 = true) : aheadI s i ≤ a.length ∧ aheadJ s j ≤ b.length := by
  unfold costV at h
  split at h
  · assumption
  · cases h
/-- no step that may come makes it cheaper -/
theorem dL_le_cost (hi : i ≤ a.length) (hj : j ≤ b.length) (s : Nat) (hs : s ≤ 3) (hok : (costV a b (dL a b) s i j).2 = true) : (dL a b i j : Int) ≤ (costV a b (dL a b) s i j).1 := by
  have hin := cv_ok hok
  rcases (show s = 0 ∨ s = 1 ∨ s = 2 ∨ s = 3 by omega) with rfl | rfl | rfl | rfl
  · have h1 : i < a.length := hin.1
    have h2 : j < b.length := hin.2
    have h := dL_both (getD_some h1) (getD_some h2)
    rw [cv0 h1 h2] at hok ⊢
    rw [if_pos (eqB_iff.1 hok)] at h
    show (dL a b i j : Int) ≤ (dL a b (i + 1) (j + 1) : Nat)
    omega
  · have h1 : i < a.length := hin.1
    have h2 : j < b.length := hin.2
    have h := dL_both (getD_some h1) (getD_some h2)
    rw [cv1 h1 h2]
    show (dL a b i j : Int) ≤ (dL a b (i + 1) (j + 1) : Nat) + 1
    split at h <;> omega
  · have h1 : i < a.length := hin.1
    rw [cv2 h1 hj]
    show (dL a b i j : Int) ≤ (dL a b (i + 1) j : Nat) + 1
    by_cases h2 : j < b.length
    · have h := dL_both (getD_some h1) (getD_some h2)
      omega
    · have h := dL_left (a := a) (b := b) (i := i) (j := j) h1 (by omega)
      omega
  · have h2 : j < b.length := hin.2
    rw [cv3 hi h2]
    show (dL a b i j : Int) ≤ (dL a b i (j + 1) : Nat) + 1
    by_cases h1 : i < a.length
    · have h := dL_both (getD_some h1) (getD_some h2)
      omega
    · have h := dL_right (a := a) (b := b) (i := i) (j := j) (by omega) h2
      omega
/-- one step costs just what is needed -/
theorem dL_some (hi : i ≤ a.length) (hj : j ≤ b.length) (hne : i < a.length ∨ j < b.length) : ∃ s, s < 4 ∧ (costV a b (dL a b) s i j).2 = true ∧ (costV a b (dL a b) s i j).1 = (dL a b i j : Int) := by
  by_cases h1 : i < a.length
  · by_cases h2 : j < b.length
    · have h := dL_both (getD_some h1) (getD_some h2)
      by_cases c1 : dL a b (i + 1) j + 1 = dL a b i j
      · exact ⟨2, by omega, by rw [cv2 h1 hj], by rw [cv2 h1 hj]; show ((dL a b (i + 1) j : Nat) : Int) + 1 = _; omega⟩
      · by_cases c2 : dL a b i (j + 1) + 1 = dL a b i j
        · exact ⟨3, by omega, by rw [cv3 hi h2], by rw [cv3 hi h2]; show ((dL a b i (j + 1) : Nat) : Int) + 1 = _; omega⟩
        · by_cases e : a.getD i ⟨#[]⟩ = b.getD j ⟨#[]⟩
          · rw [if_pos e] at h
            exact ⟨0, by omega, by rw [cv0 h1 h2]; exact eqB_iff.2 e, by rw [cv0 h1 h2]; show ((dL a b (i + 1) (j + 1) : Nat) : Int) = _; omega⟩
          · rw [if_neg e] at h
            exact ⟨1, by omega, by rw [cv1 h1 h2], by rw [cv1 h1 h2]; show ((dL a b (i + 1) (j + 1) : Nat) : Int) + 1 = _; omega⟩
    · have h := dL_left (a := a) (b := b) (i := i) (j := j) h1 (by omega)
      exact ⟨2, by omega, by rw [cv2 h1 hj], by rw [cv2 h1 hj]; show ((dL a b (i + 1) j : Nat) : Int) + 1 = _; omega⟩
  · have h2 : j < b.length := by omega
    have h := dL_right (a := a) (b := b) (i := i) (j := j) (by omega) h2
    exact ⟨3, by omega, by rw [cv3 hi h2], by rw [cv3 hi h2]; show ((dL a b i (j + 1) : Nat) : Int) + 1 = _; omega⟩
/-- the best step may come, and costs what is needed -/
theorem best_dL (hi : i ≤ a.length) (hj : j ≤ b.length) (hne : i < a.length ∨ j < b.length) : bestN a b (dL a b) i j < 4 ∧ costV a b (dL a b) (bestN a b (dL a b) i j) i j = ((dL a b i j : Int), true) := by
  obtain ⟨s, hs, hok, hc⟩ := dL_some hi hj hne
  unfold bestN
  rcases bl_inv (a := a) (b := b) (D := dL a b) (i := i) (j := j) 4 with ⟨_, h2⟩ | ⟨h1, h2, h3, h4⟩
  · rw [h2 s hs] at hok; cases hok
  · refine ⟨h2, ?_⟩
    have hle := h4 s hs hok
    have hge := dL_le_cost hi hj (blTo a b (dL a b) i j 4).1 (by omega) (by rw [h3])
    rw [h3] at hge ⊢
    simp only at hge
    rw [hc] at hle
    have : (blTo a b (dL a b) i j 4).2 = (dL a b i j : Int) := by omega
    rw [this]
end
end Go.Proofs.YthgllfbigcoaiaaGreatDoor
