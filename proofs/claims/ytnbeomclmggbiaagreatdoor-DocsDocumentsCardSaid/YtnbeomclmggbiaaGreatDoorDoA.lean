/- What a block's pieces are asked, on both sides: is one carried, is one no text. A list of blocks in memory. The word of a block's kind, and a text cut at a byte, as the program does it. Which blocks are valid, as the program tells it. The block of a line, as the program reads it. The words of kinds, and what a block asks of its pieces, as the specification tells it. -/
import Derived.Test.YtnbeomclmggbiaaGreatDoorDpB
import Derived.Test.YtnbeomclmggbiaaGreatDoorRdA
import Derived.Test.YtnbeomclmggbiaaGreatDoorRwA
import Derived.Test.YtnbeomclmggbiaaGreatDoorSh
namespace Go.Proofs.YtnbeomclmggbiaaGreatDoor
open Go Go.RowKit
set_option maxRecDepth 100000
theorem pcs_cellsB {B : Nat} {w : World} {A : Addr} {l : List Pc} {k : Nat} {wr : World} (hA : A.block < B) (hcell : ∀ i j, i < l.length → j < 3 → w.cell? (A.add (i * 3 + j)) = some (pcF l i j)) (hlt : k < l.length) (hb : Below B w wr) :
    wr.cell? (A.add (k * 3)) = some (.int .u8 (l.getD k nil).k) ∧ wr.cell? { block := (A.add (k * 3)).block, off := (A.add (k * 3)).off + 1 } = some (.string (l.getD k nil).s) ∧ wr.cell? { block := (A.add (k * 3)).block, off := (A.add (k * 3)).off + 2 } = some (.bool (l.getD k nil).c) := by
  have hAb : (A.add (k * 3)).block < B := by rw [add_block]; exact hA
  refine ⟨?_, ?_, ?_⟩
  · rw [hb.cell hAb]; have := hcell k 0 hlt (by omega); simpa [pcF] using this
  · rw [hb.cell (p := { block := (A.add (k * 3)).block, off := (A.add (k * 3)).off + 1 }) hAb]; have := cell_off (by omega) (hcell k 1 hlt (by omega)); simpa [pcF] using this
  · rw [hb.cell (p := { block := (A.add (k * 3)).block, off := (A.add (k * 3)).off + 2 }) hAb]; have := cell_off (by omega) (hcell k 2 hlt (by omega)); simpa [pcF] using this
/-- the first k have not what is asked -/
def noneB (p : Pc → Bool) (l : List Pc) (k : Nat) : Prop := ∀ i, i < k → i < l.length → p (l.getD i nil) = false
theorem noneB.succ {p : Pc → Bool} {l : List Pc} {k : Nat} (h : noneB p l k) (hk : p (l.getD k nil) = false) : noneB p l (k + 1) := fun i hi hl => by
  rcases Nat.lt_succ_iff_lt_or_eq.1 hi with h' | rfl
  · exact h i h' hl
  · exact hk
theorem any_of {p : Pc → Bool} {l : List Pc} {k : Nat} (hk : k < l.length) (h : p (l.getD k nil) = true) : l.any p = true :=
  List.any_eq_true.2 ⟨_, getD_mem hk, h⟩
theorem any_not {p : Pc → Bool} {l : List Pc} {k : Nat} (h : noneB p l k) (hk : l.length ≤ k) : l.any p = false := by
  rw [List.any_eq_false]
  intro x hx
  obtain ⟨i, hi, rfl⟩ := List.getElem_of_mem hx
  have := h i (by omega) hi
  rw [List.getD_eq_getElem?_getD, List.getElem?_eq_getElem hi] at this
  simpa using this
def noText (x : Pc) : Bool := decide (x.k ≠ 1)
theorem wholeB_any (l : List Pc) : wholeB l = !(l.any fun x => x.c) := by
  unfold wholeB
  induction l with
  | nil => rfl
  | cons x l ih => simp only [List.all_cons, List.any_cons, ih, Bool.not_or]
theorem bareB_any (l : List Pc) : bareB l = !(l.any noText) := by
  unfold bareB
  induction l with
  | nil => rfl
  | cons x l ih => simp only [List.all_cons, List.any_cons, ih, Bool.not_or, noText]; by_cases h : x.k = 1 <;> simp [h]
set_option maxHeartbeats 1000000 in
theorem isCarried_any (x : Pc) (w : World) : Calls Tryz.prog 140 #[pcV x] w fun e w' => e = .returned (.bool x.c) ∧ Below w.heap.size w w' := by
  obtain ⟨k, s, c⟩ := x
  unfold pcV
  have ag := Tryz.isAgg56
  have zg := Tryz.sizeOf56
  go_enter Tryz.func140, Tryz.ntmps140
  go_wp2
  go_ret
  exact ⟨rfl, below_box _⟩
set_option maxHeartbeats 1000000 in
theorem isNoText_any (x : Pc) (w : World) : Calls Tryz.prog 88 #[pcV x] w fun e w' => e = .returned (.bool (noText x)) ∧ Below w.heap.size w w' := by
  obtain ⟨k, s, c⟩ := x
  unfold pcV noText
  have ag := Tryz.isAgg56
  have zg := Tryz.sizeOf56
  by_cases h : k = 1
  all_goals
    go_enter Tryz.func88, Tryz.ntmps88
    go_wp2
    go_ret
    exact ⟨ret_bool (by simp [h]), below_box _⟩
/-- what IndexFunc returns, as far as ContainsFunc asks -/
def IxEnd (b : Bool) (e : Ending) : Prop := ∃ z : Int, e = .returned (.int .i64 z) ∧ (b = true → 0 ≤ z) ∧ (b = false → ¬ 0 ≤ z)
set_option maxHeartbeats 4000000 in
theorem index_isCarried (l : List Pc) (v : Value) (w : World) (hv : PcsAt w v l) :
    Calls Tryz.prog 141 #[v, .func (.func 140) #[] #[]] w fun e w' => IxEnd (l.any (fun x => x.c)) e ∧ Below w.heap.size w w' := by
  obtain ⟨q, cap, rfl, hl, hc, hrow⟩ := hv
  unfold maxLen at hc
  have ag := Tryz.isAgg56
  have zg := Tryz.sizeOf56
  have HR := Lib.hid hrow
  clear hrow
  go_enter Tryz.func141, Tryz.ntmps141
  go_wp2
  go_loopw [5, 8] (fun _ i wr => ∃ k : Nat, k ≤ l.length ∧ i = .int .i64 k ∧ Hid (noneB (fun x => x.c) l k) ∧ Hid (Below w.heap.size w wr)) (fun _ i _ => l.length - (intOf i).toNat)
  case atStart => exact ⟨0, Nat.zero_le _, rfl, fun i h => by omega, Below.refl _ _⟩
  case round =>
    obtain ⟨k, hk, rfl, HN, HB⟩ := hrel
    by_cases hlt : k < l.length
    · obtain ⟨A, rfl, hA, hcell⟩ := HR.out (by omega)
      obtain ⟨x0, x1, x2⟩ := pcs_cellsB hA hcell hlt HB.out
      have HX := Lib.hid (fun h => any_of (p := (fun x => x.c)) (l := l) (k := k) hlt h)
      have HS := Lib.hid (fun h => HN.out.succ (k := k) h)
      clear hcell
      generalize l.getD k nil = x at *
      obtain ⟨xk, xs, xc⟩ := x
      cases xc
      · have HS2 := Lib.hid (HS.out (by rfl))
        have cF := fun w2 => isCarried_any ⟨xk, xs, false⟩ w2
        rw [show (⟨xk, xs, false⟩ : Pc).c = false by rfl] at cF
        unfold pcV at cF
        go_wp2_with (go_at_call 140; (with_reducible refine (cF _).mono ?_); rintro e w2 ⟨rfl, hb2⟩; have HB2 := Lib.hid (below_next HB.out hb2); clear hb2)
        go_roundw
        case rel => exact ⟨k + 1, by omega, by go_num, HS2.out, HB2.out⟩
        case measure => simp [intOf]; omega
      · have HX2 := Lib.hid (HX.out (by rfl))
        have cF := fun w2 => isCarried_any ⟨xk, xs, true⟩ w2
        rw [show (⟨xk, xs, true⟩ : Pc).c = true by rfl] at cF
        unfold pcV at cF
        go_wp2_with (go_at_call 140; (with_reducible refine (cF _).mono ?_); rintro e w2 ⟨rfl, hb2⟩; have HB2 := Lib.hid (below_next HB.out hb2); clear hb2)
        go_ret
        exact ⟨⟨k, rfl, (fun _ => by omega), (fun h => by rw [HX2.out] at h; cases h)⟩, HB2.out⟩
    · have HX := Lib.hid (any_not HN.out (by omega))
      go_wp2
      go_ret
      exact ⟨⟨-1, rfl, (fun h => by rw [HX.out] at h; cases h), (fun _ => by omega)⟩, HB.out⟩
set_option maxHeartbeats 4000000 in
theorem contains_isCarried (l : List Pc) (v : Value) (w : World) (hv : PcsAt w v l) :
    Calls Tryz.prog 87 #[v, .func (.func 140) #[] #[]] w fun e w' => e = .returned (.bool (l.any (fun x => x.c))) ∧ Below w.heap.size w w' := by
  have cI := index_isCarried l v w hv
  obtain ⟨q, cap, rfl, hl, hc, hrow⟩ := hv
  clear hrow
  generalize l.any (fun x => x.c) = b at cI
  cases b
  · go_enter Tryz.func87, Tryz.ntmps87
    go_wp2_with (go_at_call 141; (with_reducible refine cI.mono ?_); rintro e w2 ⟨⟨z, rfl, h1, h2⟩, hb2⟩; have hz := h2 rfl; have HB2 := Lib.hid hb2; clear hb2 h1 h2)
    go_ret
    exact ⟨ret_bool (decide_eq_false (by omega)), HB2.out⟩
  · go_enter Tryz.func87, Tryz.ntmps87
    go_wp2_with (go_at_call 141; (with_reducible refine cI.mono ?_); rintro e w2 ⟨⟨z, rfl, h1, h2⟩, hb2⟩; have hz := h1 rfl; have HB2 := Lib.hid hb2; clear hb2 h1 h2)
    go_ret
    exact ⟨rfl, HB2.out⟩
set_option maxHeartbeats 4000000 in
theorem index_isNoText (l : List Pc) (v : Value) (w : World) (hv : PcsAt w v l) :
    Calls Tryz.prog 141 #[v, .func (.func 88) #[] #[]] w fun e w' => IxEnd (l.any noText) e ∧ Below w.heap.size w w' := by
  obtain ⟨q, cap, rfl, hl, hc, hrow⟩ := hv
  unfold maxLen at hc
  have ag := Tryz.isAgg56
  have zg := Tryz.sizeOf56
  have HR := Lib.hid hrow
  clear hrow
  go_enter Tryz.func141, Tryz.ntmps141
  go_wp2
  go_loopw [5, 8] (fun _ i wr => ∃ k : Nat, k ≤ l.length ∧ i = .int .i64 k ∧ Hid (noneB noText l k) ∧ Hid (Below w.heap.size w wr)) (fun _ i _ => l.length - (intOf i).toNat)
  case atStart => exact ⟨0, Nat.zero_le _, rfl, fun i h => by omega, Below.refl _ _⟩
  case round =>
    obtain ⟨k, hk, rfl, HN, HB⟩ := hrel
    by_cases hlt : k < l.length
    · obtain ⟨A, rfl, hA, hcell⟩ := HR.out (by omega)
      obtain ⟨x0, x1, x2⟩ := pcs_cellsB hA hcell hlt HB.out
      have HX := Lib.hid (fun h => any_of (p := noText) (l := l) (k := k) hlt h)
      have HS := Lib.hid (fun h => HN.out.succ (k := k) h)
      clear hcell
      generalize l.getD k nil = x at *
      obtain ⟨xk, xs, xc⟩ := x
      rcases Decidable.em (xk = 1) with rfl | hxk
      · have HS2 := Lib.hid (HS.out (by simp [noText]))
        have cF := fun w2 => isNoText_any ⟨1, xs, xc⟩ w2
        rw [show noText ⟨1, xs, xc⟩ = false by simp [noText]] at cF
        unfold pcV at cF
        go_wp2_with (go_at_call 88; (with_reducible refine (cF _).mono ?_); rintro e w2 ⟨rfl, hb2⟩; have HB2 := Lib.hid (below_next HB.out hb2); clear hb2)
        go_roundw
        case rel => exact ⟨k + 1, by omega, by go_num, HS2.out, HB2.out⟩
        case measure => simp [intOf]; omega
      · have HX2 := Lib.hid (HX.out (by simp [noText, hxk]))
        have cF := fun w2 => isNoText_any ⟨xk, xs, xc⟩ w2
        rw [show noText ⟨xk, xs, xc⟩ = true by simp [noText, hxk]] at cF
        unfold pcV at cF
        go_wp2_with (go_at_call 88; (with_reducible refine (cF _).mono ?_); rintro e w2 ⟨rfl, hb2⟩; have HB2 := Lib.hid (below_next HB.out hb2); clear hb2)
        go_ret
        exact ⟨⟨k, rfl, (fun _ => by omega), (fun h => by rw [HX2.out] at h; cases h)⟩, HB2.out⟩
    · have HX := Lib.hid (any_not HN.out (by omega))
      go_wp2
      go_ret
      exact ⟨⟨-1, rfl, (fun h => by rw [HX.out] at h; cases h), (fun _ => by omega)⟩, HB.out⟩
set_option maxHeartbeats 4000000 in
theorem contains_isNoText (l : List Pc) (v : Value) (w : World) (hv : PcsAt w v l) :
    Calls Tryz.prog 87 #[v, .func (.func 88) #[] #[]] w fun e w' => e = .returned (.bool (l.any noText)) ∧ Below w.heap.size w w' := by
  have cI := index_isNoText l v w hv
  obtain ⟨q, cap, rfl, hl, hc, hrow⟩ := hv
  clear hrow
  generalize l.any noText = b at cI
  cases b
  · go_enter Tryz.func87, Tryz.ntmps87
    go_wp2_with (go_at_call 141; (with_reducible refine cI.mono ?_); rintro e w2 ⟨⟨z, rfl, h1, h2⟩, hb2⟩; have hz := h2 rfl; have HB2 := Lib.hid hb2; clear hb2 h1 h2)
    go_ret
    exact ⟨ret_bool (decide_eq_false (by omega)), HB2.out⟩
  · go_enter Tryz.func87, Tryz.ntmps87
    go_wp2_with (go_at_call 141; (with_reducible refine cI.mono ?_); rintro e w2 ⟨⟨z, rfl, h1, h2⟩, hb2⟩; have hz := h1 rfl; have HB2 := Lib.hid hb2; clear hb2 h1 h2)
    go_ret
    exact ⟨rfl, HB2.out⟩
set_option maxHeartbeats 2000000 in
theorem whole_any (l : List Pc) (v : Value) (w : World) (hv : PcsAt w v l) :
    Calls Tryz.prog 86 #[v] w fun e w' => e = .returned (.bool (wholeB l)) ∧ Below w.heap.size w w' := by
  have cC := contains_isCarried l v w hv
  rw [wholeB_any]
  obtain ⟨q, cap, rfl, hl, hc, hrow⟩ := hv
  clear hrow
  generalize (l.any fun x => x.c) = b at cC
  cases b
  all_goals
    go_enter Tryz.func86, Tryz.ntmps86
    go_wp2_with (go_at_call 87; (with_reducible refine cC.mono ?_); rintro e w2 ⟨rfl, hb2⟩; have HB2 := Lib.hid hb2; clear hb2)
    go_ret
    exact ⟨rfl, HB2.out⟩
set_option maxHeartbeats 4000000 in
theorem refWhole_any (l : List Pc) (v : Value) (w : World) (hv : PcsAt w v l) :
    Calls Tryz.prog 89 #[v] w fun e w' => e = .returned (.bool (wholeB l)) ∧ ∃ n, w' = w.drewN n := by
  rw [wholeB_any]
  obtain ⟨q, cap, rfl, hl, hc, hrow⟩ := hv
  unfold maxLen at hc
  have ag := Tryz.isAgg56
  have zg := Tryz.sizeOf56
  have HR := Lib.hid hrow
  clear hrow
  go_enter Tryz.func89, Tryz.ntmps89
  go_wp2
  go_loopw [3] (fun i wr => ∃ k : Nat, k ≤ l.length ∧ i = .int .i64 k ∧ Hid (noneB (fun x => x.c) l k) ∧ ∃ n, wr = w.drewN n) (fun i _ => l.length - (intOf i).toNat)
  case atStart => exact ⟨0, Nat.zero_le _, rfl, fun i h => by omega, 0, rfl⟩
  case round =>
    obtain ⟨k, hk, rfl, HN, n, rfl⟩ := hrel
    obtain ⟨w1, hw1⟩ : ∃ w1, w1 = w.drewN n := ⟨_, rfl⟩
    have HW := Lib.hid hw1
    by_cases hlt : k < l.length
    · obtain ⟨A, rfl, hA, hcell⟩ := HR.out (by omega)
      have hb : Below w.heap.size w w1 := by rw [hw1]; exact ⟨rfl, rfl, rfl, Nat.le_refl _, fun _ _ => rfl⟩
      obtain ⟨x0, x1, x2⟩ := pcs_cellsB hA hcell hlt hb
      have HX := Lib.hid (fun h => any_of (p := (fun x => x.c)) (l := l) (k := k) hlt h)
      have HS := Lib.hid (fun h => HN.out.succ (k := k) h)
      rw [← hw1]
      clear hcell hw1 hb
      generalize l.getD k nil = x at *
      obtain ⟨xk, xs, xc⟩ := x
      cases xc
      · have HS2 := Lib.hid (HS.out (by rfl))
        clear HX HS
        go_wp2
        go_roundw
        case rel => exact ⟨k + 1, by omega, by go_num, HS2.out, n, HW.out⟩
        case measure => simp [intOf]; omega
      · have HX2 := Lib.hid (HX.out (by rfl))
        clear HX HS
        go_wp2
        go_ret
        exact ⟨by rw [HX2.out]; rfl, n, HW.out⟩
    · have HX := Lib.hid (any_not HN.out (by omega))
      rw [← hw1]
      clear hw1
      go_wp2
      go_ret
      exact ⟨by rw [HX.out]; rfl, n, HW.out⟩
set_option maxHeartbeats 4000000 in
theorem refBare_any (l : List Pc) (v : Value) (w : World) (hv : PcsAt w v l) :
    Calls Tryz.prog 90 #[v] w fun e w' => e = .returned (.bool (bareB l)) ∧ ∃ n, w' = w.drewN n := by
  rw [bareB_any]
  obtain ⟨q, cap, rfl, hl, hc, hrow⟩ := hv
  unfold maxLen at hc
  have ag := Tryz.isAgg56
  have zg := Tryz.sizeOf56
  have HR := Lib.hid hrow
  clear hrow
  go_enter Tryz.func90, Tryz.ntmps90
  go_wp2
  go_loopw [3] (fun i wr => ∃ k : Nat, k ≤ l.length ∧ i = .int .i64 k ∧ Hid (noneB noText l k) ∧ ∃ n, wr = w.drewN n) (fun i _ => l.length - (intOf i).toNat)
  case atStart => exact ⟨0, Nat.zero_le _, rfl, fun i h => by omega, 0, rfl⟩
  case round =>
    obtain ⟨k, hk, rfl, HN, n, rfl⟩ := hrel
    obtain ⟨w1, hw1⟩ : ∃ w1, w1 = w.drewN n := ⟨_, rfl⟩
    have HW := Lib.hid hw1
    by_cases hlt : k < l.length
    · obtain ⟨A, rfl, hA, hcell⟩ := HR.out (by omega)
      have hb : Below w.heap.size w w1 := by rw [hw1]; exact ⟨rfl, rfl, rfl, Nat.le_refl _, fun _ _ => rfl⟩
      obtain ⟨x0, x1, x2⟩ := pcs_cellsB hA hcell hlt hb
      have HX := Lib.hid (fun h => any_of (p := noText) (l := l) (k := k) hlt h)
      have HS := Lib.hid (fun h => HN.out.succ (k := k) h)
      rw [← hw1]
      clear hcell hw1 hb
      generalize l.getD k nil = x at *
      obtain ⟨xk, xs, xc⟩ := x
      by_cases hxk : xk = 1
      · have HS2 := Lib.hid (HS.out (by simp [noText, hxk]))
        clear HX HS
        go_wp2
        go_roundw
        case rel => exact ⟨k + 1, by omega, by go_num, HS2.out, n, HW.out⟩
        case measure => simp [intOf]; omega
      · have HX2 := Lib.hid (HX.out (by simp [noText, hxk]))
        clear HX HS
        go_wp2
        go_ret
        exact ⟨by rw [HX2.out]; rfl, n, HW.out⟩
    · have HX := Lib.hid (any_not HN.out (by omega))
      rw [← hw1]
      clear hw1
      go_wp2
      go_ret
      exact ⟨by rw [HX.out]; rfl, n, HW.out⟩
end Go.Proofs.YtnbeomclmggbiaaGreatDoor
namespace Go.Proofs.YtnbeomclmggbiaaGreatDoor
open Go Go.RowKit
set_option maxRecDepth 100000
theorem info_bk : (Tryz.prog.info? 51).map (fun i => (i.zero, i.size, i.bytes)) = some (some (.agg #[.int .u8 0, .slice none 0 0]), 2, 32) := by kernel_rfl
def nilB : Bk := ⟨0, []⟩
def nilV : Value := .slice none 0 0
def bkF (bs : List Bk) (us : List Value) (i j : Nat) : Value := if j = 0 then .int .u8 (bs.getD i nilB).k else us.getD i nilV
/-- blocks lie in memory, each with its pieces -/
def BksAt (w : World) (v : Value) (bs : List Bk) : Prop :=
  ∃ us : List Value, us.length = bs.length ∧ SliceAt w.heap.size w v bs.length 2 (bkF bs us) ∧ ∀ i, i < bs.length → PcsAt w (us.getD i nilV) (bs.getD i nilB).l
theorem BksAt.step {w w' : World} {v : Value} {bs : List Bk} (hb : Below w.heap.size w w') (h : BksAt w v bs) : BksAt w' v bs := by
  obtain ⟨us, h1, h2, h3⟩ := h
  exact ⟨us, h1, (SliceAt.below hb h2).mono hb.size, fun i hi => (h3 i hi).step hb⟩
theorem bks_nil (w : World) : BksAt w (.slice none 0 0) [] := ⟨[], rfl, ⟨none, 0, rfl, by simp, by simp, fun h => absurd h (by simp)⟩, fun i hi => absurd hi (by simp)⟩
def cells2 : List Bk → List Value → List Value
  | b :: bs, u :: us => .int .u8 b.k :: u :: cells2 bs us
  | _, _ => []
theorem cells2_len : ∀ {bs : List Bk} {us : List Value}, us.length = bs.length → (cells2 bs us).length = bs.length * 2
  | [], [], _ => rfl
  | b :: bs, u :: us, h => by
    have := cells2_len (bs := bs) (us := us) (by simpa using h)
    simp only [cells2, List.length_cons, this]; omega
theorem cells2_app : ∀ {bs : List Bk} {us : List Value} (b : Bk) (u : Value), us.length = bs.length → cells2 (bs ++ [b]) (us ++ [u]) = cells2 bs us ++ [.int .u8 b.k, u]
  | [], [], _, _, _ => rfl
  | c :: bs, x :: us, b, u, h => by
    have := cells2_app (bs := bs) (us := us) b u (by simpa using h)
    simp only [List.cons_append, cells2, this]
theorem cells2_get : ∀ (bs : List Bk) (us : List Value) (i j : Nat), us.length = bs.length → i < bs.length → j < 2 → (cells2 bs us)[i * 2 + j]? = some (bkF bs us i j)
  | b :: bs, u :: us, 0, j, _, _, hj => by
    match j, hj with
    | 0, _ => rfl
    | 1, _ => rfl
  | b :: bs, u :: us, i + 1, j, h, hi, hj => by
    have := cells2_get bs us i j (by simpa using h) (by simpa using hi) hj
    rw [show (i + 1) * 2 + j = i * 2 + j + 1 + 1 by omega]
    exact this
/-- the row that a call makes of the blocks that it has read -/
def OwnK (B : Nat) (v : Value) (bs : List Bk) (w : World) : Prop :=
  ∃ us : List Value, us.length = bs.length ∧ w.ownsRow B 51 2 v bs.length (cells2 bs us) ∧ ∀ i, i < bs.length → OwnP 0 (us.getD i nilV) (bs.getD i nilB).l w
theorem OwnK.nil (B : Nat) (w : World) : OwnK B (.slice none 0 0) [] w := ⟨[], rfl, World.ownsRow_nil _ _ _ _, fun i hi => absurd hi (by simp)⟩
theorem OwnK.step {B : Nat} {v : Value} {bs : List Bk} {w w' : World} (hb : Below w.heap.size w w') (h : OwnK B v bs w) : OwnK B v bs w' := by
  obtain ⟨us, h1, h2, h3⟩ := h
  exact ⟨us, h1, ownsRow_step hb h2, fun i hi => (h3 i hi).step hb⟩
theorem OwnK.form {B : Nat} {v : Value} {bs : List Bk} {w : World} (h : OwnK B v bs w) : ∃ ao cap, v = .slice ao bs.length cap := by
  obtain ⟨us, _, h, _⟩ := h
  rcases h.2 with ⟨hv, h0⟩ | ⟨g, cap, cur, hv, _⟩
  · exact ⟨none, 0, by rw [hv, h0]⟩
  · exact ⟨_, _, hv⟩
theorem OwnK.at {B : Nat} {v : Value} {bs : List Bk} {w : World} (h : OwnK B v bs w) : BksAt w v bs := by
  obtain ⟨us, h1, h2, h3⟩ := h
  refine ⟨us, h1, ?_, fun i hi => (h3 i hi).at⟩
  have hc := h2
  rcases h2.2 with ⟨rfl, h0⟩ | ⟨g, cap, cur, rfl, hg, hh, hn, hm, _⟩
  · exact ⟨none, 0, by rw [h0], by omega, by unfold maxLen; omega, fun h => by omega⟩
  · refine ⟨some ⟨g, 0, none⟩, cap, rfl, hn, hm, fun _ => ⟨_, rfl, lt_of_block hh, fun i j hi hj => ?_⟩⟩
    exact World.ownsRow.cells hc (g := g) rfl _ _ (cells2_get bs us i j h1 hi hj)
/-- a block in its own cells -/
def BoxK (b : Nat) (k : Int) (u : Value) (wr : World) : Prop := wr.cell? ⟨b, 0, none⟩ = some (.int .u8 k) ∧ wr.cell? ⟨b, 1, none⟩ = some u ∧ b < wr.heap.size
theorem BoxK.step {b : Nat} {k : Int} {u : Value} {wr w' : World} (hb : Below wr.heap.size wr w') (h : BoxK b k u wr) : BoxK b k u w' := by
  obtain ⟨h0, h1, h3⟩ := h
  exact ⟨by rw [hb.cell (p := ⟨b, 0, none⟩) h3]; exact h0, by rw [hb.cell (p := ⟨b, 1, none⟩) h3]; exact h1, Nat.lt_of_lt_of_le h3 hb.size⟩
theorem BoxK.new (w : World) (k : Int) (u : Value) (t : TypeId) : BoxK w.heap.size k u (w.alloc (.cells #[.int .u8 k, u] t)) := by
  refine ⟨?_, ?_, ?_⟩ <;> simp
end Go.Proofs.YtnbeomclmggbiaaGreatDoor
namespace Go.Proofs.YtnbeomclmggbiaaGreatDoor
open Go Go.RowKit Go.Lib
set_option maxRecDepth 100000
/-- the table of the words of kinds -/
def Wds (w : World) : Prop := ∀ k, k < 7 → w.cell? ⟨0, k, none⟩ = some (.string (bytes (headL k)))
theorem Wds.below {B : Nat} {w w' : World} (h : Wds w) (hb : Below B w w') (hB : 0 < B) : Wds w' := fun k hk => by
  rw [hb.cell (p := ⟨0, k, none⟩) hB]; exact h k hk
/-- the variable of package bytealg that strings.Cut may look at -/
def Mxl (w : World) : Prop := ∃ m : Int, w.cell? ⟨3, 0, none⟩ = some (.int .i64 m)
theorem Mxl.below {B : Nat} {w w' : World} (h : Mxl w) (hb : Below B w w') (hB : 3 < B) : Mxl w' := by
  obtain ⟨m, h⟩ := h
  exact ⟨m, by rw [hb.cell (p := ⟨3, 0, none⟩) hB]; exact h⟩
def CutEnd (s : ByteArray) (c : UInt8) (e : Ending) : Prop :=
  (indexByte s.data.toList c = -1 ∧ e = .returned (.tuple #[.string s, .string ByteArray.empty, .bool false])) ∨
  (∃ j : Nat, indexByte s.data.toList c = (j : Int) ∧ e = .returned (.tuple #[.string (s.extract 0 j), .string (s.extract (j + 1) s.size), .bool true]))
theorem CutEnd.none {s : ByteArray} {c : UInt8} {e : Ending} (h : CutEnd s c e) (hj : indexByte s.data.toList c = -1) : e = .returned (.tuple #[.string s, .string ByteArray.empty, .bool false]) := by
  rcases h with ⟨_, h⟩ | ⟨j, h1, _⟩
  · exact h
  · omega
theorem CutEnd.some {s : ByteArray} {c : UInt8} {e : Ending} {j : Nat} (h : CutEnd s c e) (hj : indexByte s.data.toList c = (j : Int)) : e = .returned (.tuple #[.string (s.extract 0 j), .string (s.extract (j + 1) s.size), .bool true]) := by
  rcases h with ⟨h1, _⟩ | ⟨j', h1, h2⟩
  · omega
  · obtain rfl : j' = j := by omega
    exact h2
theorem cut_any (s : ByteArray) (c : UInt8) (w : World) (hs : s.size ≤ 1000000) (hM : Mxl w) :
    Calls Tryz.prog 47 #[.string s, .string ⟨#[c]⟩] w fun e w' => CutEnd s c e ∧ ∃ n, w' = w.drewN n := by
  obtain ⟨m, hm⟩ := hM
  refine (strings_Cut s ⟨#[c]⟩ m w (by omega) hm).mono ?_
  rintro e w' ⟨rfl, hw⟩
  refine ⟨?_, hw⟩
  have e1 : Lib.indexB s ⟨#[c]⟩ = indexByte s.data.toList c := Lib.index_one s.data.toList c
  rcases Lib.indexB_cases s ⟨#[c]⟩ with h | ⟨j, h, _⟩
  · obtain ⟨a, b, d⟩ := Lib.cutB_miss s ⟨#[c]⟩ h
    exact .inl ⟨by rw [← e1]; exact h, by rw [a, b, d]⟩
  · obtain ⟨a, b, d⟩ := Lib.cutB_hit s ⟨#[c]⟩ j h
    exact .inr ⟨j, by rw [← e1]; exact h, by rw [a, b, d]; rfl⟩
theorem kindOf_zero {w : List UInt8} (h : ∀ j, 1 ≤ j → j < 7 → headL j ≠ w) : kindOf w = 0 := by
  by_cases h0 : kindOf w = 0
  · exact h0
  · have := kindOf_le w
    exact absurd (kindOf_some h0).symm (h _ (by omega) (by omega))
set_option maxHeartbeats 4000000 in
theorem blockKind_any (s : ByteArray) (w : World) (hW : Wds w) :
    Calls Tryz.prog 93 #[.string s] w fun e w' => e = .returned (.tuple #[.int .u8 (kindOf s.data.toList : Nat), .bool (decide (kindOf s.data.toList ≠ 0))]) ∧ ∃ n, w' = w.drewN n := by
  have HW := Lib.hid hW
  clear hW
  go_enter Tryz.func93, Tryz.ntmps93
  go_wp2
  go_loopw [4] (fun i wr => ∃ k : Nat, 1 ≤ k ∧ k ≤ 7 ∧ i = .int .u8 k ∧ Hid (∀ j, 1 ≤ j → j < k → headL j ≠ s.data.toList) ∧ ∃ n, wr = w.drewN n) (fun i _ => 7 - (RowKit.intOf i).toNat)
  case atStart => exact ⟨1, by omega, by omega, rfl, fun j h1 h2 => by omega, 0, rfl⟩
  case round =>
    obtain ⟨k, hk1, hk7, rfl, HJ, n, rfl⟩ := hrel
    obtain ⟨w1, hw1⟩ : ∃ w1, w1 = w.drewN n := ⟨_, rfl⟩
    have HW1 := Lib.hid hw1
    by_cases hlt : k < 7
    · have hltI : (k : Int) ≤ 6 := by omega
      have hlt0 : (k : Int) < 7 := by omega
      have hk0 : (0 : Int) ≤ (k : Int) := by omega
      have hwrap : IntKind.u8.wrap ((k : Int) + 1) = (k : Int) + 1 := by rw [IntKind.wrap_u8]; omega
      have c0 : w1.cell? ⟨0, k, none⟩ = some (.string (bytes (headL k))) := by
        have hb : Below (0 + 1) w w1 := by rw [hw1]; exact ⟨rfl, rfl, rfl, Nat.le_refl _, fun _ _ => rfl⟩
        exact HW.out.below hb (by omega) k hlt
      have htn : (k : Int).toNat = k := by omega
      rw [← hw1]
      clear hw1
      by_cases he : headL k = s.data.toList
      · have hs : bytes (headL k) = s := by rw [he]; obtain ⟨⟨l⟩⟩ := s; rfl
        have HK := Lib.hid (show kindOf s.data.toList = k by rw [← he]; exact kindOf_head k hk1 (by omega))
        rw [hs] at c0
        clear hs he
        go_wp2
        go_ret2
        exact ⟨by rw [HK.out]; simp; omega, n, HW1.out⟩
      · have hs : ((bytes (headL k)).toList == s.toList) = false := by
          rw [beq_eq_false_iff_ne]; intro e
          have e2 : bytes (headL k) = s := bytes_ext e
          exact he (by rw [← e2]; rfl)
        have HN := Lib.hid he
        clear he
        go_wp2
        go_roundw
        case rel =>
          refine ⟨k + 1, by omega, by omega, by go_num, ?_, n, HW1.out⟩
          intro j h1 h2
          rcases Nat.lt_succ_iff_lt_or_eq.1 h2 with h | rfl
          · exact HJ.out j h1 h
          · exact HN.out
        case measure => simp [RowKit.intOf]; omega
    · have hltI : ¬ (k : Int) ≤ 6 := by omega
      have HK := Lib.hid (kindOf_zero fun j h1 h2 => HJ.out j h1 (by omega))
      rw [← hw1]
      clear hw1
      go_wp2
      go_ret2
      exact ⟨by rw [HK.out]; simp, n, HW1.out⟩
end Go.Proofs.YtnbeomclmggbiaaGreatDoor
namespace Go.Proofs.YtnbeomclmggbiaaGreatDoor
open Go Go.RowKit
set_option maxRecDepth 100000
theorem blockE_kind {b : Bk} (h : b.k < 1 ∨ 6 < b.k) : blockE b = 1 := by unfold blockE; rw [if_pos h]
theorem blockE_check {b : Bk} (h : ¬ (b.k < 1 ∨ 6 < b.k)) (hc : checkE b.l ≠ 0) : blockE b = checkE b.l := by unfold blockE; rw [if_neg h, if_pos hc]
theorem blockE_whole {b : Bk} (h : ¬ (b.k < 1 ∨ 6 < b.k)) (hc : checkE b.l = 0) (hw : wholeB b.l = false) : blockE b = 8 := by unfold blockE inE; rw [if_neg h, if_neg (by simp [hc]), if_pos hw]
theorem blockE_raw {b : Bk} (h : ¬ (b.k < 1 ∨ 6 < b.k)) (hc : checkE b.l = 0) (hw : wholeB b.l = true) : blockE b = if b.k = 6 ∧ bareB b.l = false then 1 else 0 := by unfold blockE inE; rw [if_neg h, if_neg (by simp [hc]), if_neg (by simp [hw])]
set_option maxHeartbeats 8000000 in
theorem checkBlock_any (b : Bk) (u : Value) (w : World) (hk : 0 ≤ b.k) (hu : PcsAt w u b.l) (hs : ∀ x ∈ b.l, x.s.size ≤ maxLen) (hT : Tabs w) :
    Calls Tryz.prog 43 #[.agg #[.int .u8 b.k, u]] w fun e w' => e = .returned (.int .u8 (blockE b)) ∧ Below w.heap.size w w' := by
  obtain ⟨k, l⟩ := b
  simp only at hk hu hs
  have ag := Tryz.isAgg51
  have zg := Tryz.sizeOf51
  have hbx : Below w.heap.size w (w.alloc (.cells #[.int .u8 k, u] 51)) := below_box _
  have HBX := Lib.hid hbx
  have HX := Lib.hid (BoxK.new w k u 51)
  have HU := Lib.hid (hu.step hbx)
  have HT := Lib.hid (hT.step hbx)
  have HS := Lib.hid hs
  obtain ⟨q, cap, rfl, _⟩ := hu
  clear hs hT hbx
  by_cases h0 : k = 0
  · subst h0
    have HE := Lib.hid (blockE_kind (b := ⟨0, l⟩) (.inl (by show (0 : Int) < 1; omega)))
    go_enter Tryz.func43, Tryz.ntmps43
    go_wp2
    go_ret
    exact ⟨ret_u8 HE.out.symm, HBX.out⟩
  by_cases h6 : 6 < k
  · have hk0 : (k == 0) = false := by simpa using h0
    have HE := Lib.hid (blockE_kind (b := ⟨k, l⟩) (.inr h6))
    go_enter Tryz.func43, Tryz.ntmps43
    go_wp2
    go_ret
    exact ⟨ret_u8 HE.out.symm, HBX.out⟩
  have hk0 : (k == 0) = false := by simpa using h0
  have hkk : ¬ ((⟨k, l⟩ : Bk).k < 1 ∨ 6 < (⟨k, l⟩ : Bk).k) := by simp only; omega
  have HKK := Lib.hid hkk
  have cC := fun w2 (h : w2 = w.alloc (.cells #[.int .u8 k, .slice q l.length cap] 51)) => checkPieces_any l (.slice q l.length cap) w2 (h ▸ HU.out) HS.out (h ▸ HT.out)
  by_cases hc : checkE l = 0
  · rw [hc] at cC
    have cW := fun w2 (h : Below (w.alloc (.cells #[.int .u8 k, .slice q l.length cap] 51)).heap.size (w.alloc (.cells #[.int .u8 k, .slice q l.length cap] 51)) w2) => whole_any l (.slice q l.length cap) w2 (HU.out.step h)
    have cB := fun w2 (h : Below (w.alloc (.cells #[.int .u8 k, .slice q l.length cap] 51)).heap.size (w.alloc (.cells #[.int .u8 k, .slice q l.length cap] 51)) w2) => contains_isNoText l (.slice q l.length cap) w2 (HU.out.step h)
    have HC := Lib.hid hc
    have hbb := bareB_any l
    cases hw : wholeB l
    · rw [hw] at cW
      have HE := Lib.hid (blockE_whole hkk hc hw)
      clear hkk hc hw hbb cB
      go_enter Tryz.func43, Tryz.ntmps43
      go_wp2_with (first
        | (go_at_call 51; (with_reducible refine (cC _ rfl).mono ?_); rintro e w2 ⟨rfl, hb2⟩; have HX2 := Lib.hid (HX.out.step hb2); have HB2 := Lib.hid hb2; have HBB2 := Lib.hid (below_next HBX.out hb2); clear hb2; obtain ⟨b0, b1, b2⟩ := HX2.out)
        | (go_at_call 86; (with_reducible refine (cW _ HB2.out).mono ?_); rintro e w3 ⟨rfl, hb3⟩; have HBB3 := Lib.hid (below_next HBB2.out hb3); clear hb3))
      go_ret
      exact ⟨ret_u8 HE.out.symm, HBB3.out⟩
    · rw [hw] at cW
      have hE := blockE_raw hkk hc hw
      by_cases h66 : k = 6
      · subst h66
        generalize hnt : l.any noText = nt at cB
        rw [hnt] at hbb
        rw [hbb] at hE
        have HE := Lib.hid hE
        clear hkk hc hw hbb hnt hE h6
        cases nt
        all_goals
          go_enter Tryz.func43, Tryz.ntmps43
          go_wp2_with (first
            | (go_at_call 51; (with_reducible refine (cC _ rfl).mono ?_); rintro e w2 ⟨rfl, hb2⟩; have HX2 := Lib.hid (HX.out.step hb2); have HB2 := Lib.hid hb2; have HBB2 := Lib.hid (below_next HBX.out hb2); clear hb2; obtain ⟨b0, b1, b2⟩ := HX2.out)
            | (go_at_call 86; (with_reducible refine (cW _ HB2.out).mono ?_); rintro e w3 ⟨rfl, hb3⟩; have HX3 := Lib.hid (HX2.out.step hb3); have HB3 := Lib.hid (below_next HB2.out hb3); have HBB3 := Lib.hid (below_next HBB2.out hb3); clear hb3 b0 b1 b2; obtain ⟨b0, b1, b2⟩ := HX3.out)
            | (go_at_call 87; (with_reducible refine (cB _ HB3.out).mono ?_); rintro e w4 ⟨rfl, hb4⟩; have HBB4 := Lib.hid (below_next HBB3.out hb4); clear hb4))
          go_ret
          exact ⟨ret_u8 (by rw [HE.out]; simp), HBB4.out⟩
      · have h66b : (k == 6) = false := by simpa using h66
        have HE := Lib.hid hE
        have H6 := Lib.hid h66
        clear hkk hc hw hbb hE cB h66
        go_enter Tryz.func43, Tryz.ntmps43
        go_wp2_with (first
          | (go_at_call 51; (with_reducible refine (cC _ rfl).mono ?_); rintro e w2 ⟨rfl, hb2⟩; have HX2 := Lib.hid (HX.out.step hb2); have HB2 := Lib.hid hb2; have HBB2 := Lib.hid (below_next HBX.out hb2); clear hb2; obtain ⟨b0, b1, b2⟩ := HX2.out)
          | (go_at_call 86; (with_reducible refine (cW _ HB2.out).mono ?_); rintro e w3 ⟨rfl, hb3⟩; have HX3 := Lib.hid (HX2.out.step hb3); have HBB3 := Lib.hid (below_next HBB2.out hb3); clear hb3 b0 b1 b2; obtain ⟨b0, b1, b2⟩ := HX3.out))
        go_ret
        exact ⟨ret_u8 (by rw [HE.out]; simp [H6.out]), HBB3.out⟩
  · have HE := Lib.hid (blockE_check hkk hc)
    have hE2 : blockE ⟨k, l⟩ = checkE l := HE.out
    have HE2 := Lib.hid hE2
    generalize checkE l = Z at cC HE2 hc
    have hz : (Z == 0) = false := by simpa using hc
    clear hkk hc hE2
    go_enter Tryz.func43, Tryz.ntmps43
    go_wp2_with (go_at_call 51; (with_reducible refine (cC _ rfl).mono ?_); rintro e w2 ⟨rfl, hb2⟩; have HX2 := Lib.hid (HX.out.step hb2); have HB2 := Lib.hid hb2; have HBB2 := Lib.hid (below_next HBX.out hb2); clear hb2; obtain ⟨b0, b1, b2⟩ := HX2.out)
    go_ret
    exact ⟨ret_u8 HE2.out.symm, HBB2.out⟩
end Go.Proofs.YtnbeomclmggbiaaGreatDoor
namespace Go.Proofs.YtnbeomclmggbiaaGreatDoor
open Go Go.RowKit Go.Lib
set_option maxRecDepth 100000
/-- the tables and variables that package docs looks at -/
def Env (w : World) : Prop := Tabs w ∧ Nts w ∧ Wds w ∧ Mxl w
theorem Env.step {w w' : World} (h : Env w) (hb : Below w.heap.size w w') : Env w' :=
  ⟨h.1.step hb, h.2.1.step hb, h.2.2.1.below hb (by have := h.1.2.2; omega), h.2.2.2.below hb (by have := h.1.2.2; omega)⟩
theorem Env.tabs {w : World} (h : Env w) : Tabs w := h.1
theorem Env.nts {w : World} (h : Env w) : Nts w := h.2.1
theorem Env.wds {w : World} (h : Env w) : Wds w := h.2.2.1
theorem Env.mxl {w : World} (h : Env w) : Mxl w := h.2.2.2
theorem below_drewN0 (w : World) (n : Nat) : Below w.heap.size w (w.drewN n) := ⟨rfl, rfl, rfl, Nat.le_refl _, fun _ _ => rfl⟩
/-- what the reading of a line returns -/
def BlEnd (s : ByteArray) (e : Ending) (w' : World) : Prop := match lineV s.data.toList with
  | .error z => e = .returned (.tuple #[.agg #[.int .u8 0, .slice none 0 0], .int .u8 z])
  | .ok b => ∃ u, e = .returned (.tuple #[.agg #[.int .u8 b.k, u], .int .u8 0]) ∧ OwnP 0 u b.l w' ∧ bulk b.l ≤ 2 * s.size
theorem BlEnd.error {s : ByteArray} {e : Ending} {w' : World} {z : Int} (h : BlEnd s e w') (hv : lineV s.data.toList = .error z) : e = .returned (.tuple #[.agg #[.int .u8 0, .slice none 0 0], .int .u8 z]) := by
  unfold BlEnd at h; rw [hv] at h; exact h
theorem BlEnd.good {s : ByteArray} {e : Ending} {w' : World} {b : Bk} (h : BlEnd s e w') (hv : lineV s.data.toList = .ok b) : ∃ u, e = .returned (.tuple #[.agg #[.int .u8 b.k, u], .int .u8 0]) ∧ OwnP 0 u b.l w' ∧ bulk b.l ≤ 2 * s.size := by
  unfold BlEnd at h; rw [hv] at h; exact h
theorem BlEnd.of_error {s : ByteArray} {w' : World} {z : Int} (hv : lineV s.data.toList = .error z) : BlEnd s (.returned (.tuple #[.agg #[.int .u8 0, .slice none 0 0], .int .u8 z])) w' := by
  unfold BlEnd; rw [hv]
theorem BlEnd.of_ok {s : ByteArray} {w' : World} {b : Bk} {u : Value} (hv : lineV s.data.toList = .ok b) (hu : OwnP 0 u b.l w') (hb : bulk b.l ≤ 2 * s.size) : BlEnd s (.returned (.tuple #[.agg #[.int .u8 b.k, u], .int .u8 0])) w' := by
  unfold BlEnd; rw [hv]; exact ⟨u, rfl, hu, hb⟩
theorem lineV_ne {l : List UInt8} {z : Int} (h : lineV l = .error z) : z ≠ 0 := by
  unfold lineV at h
  split at h
  · cases h; decide
  · split at h
    · cases h; assumption
    · split at h
      · cases h; assumption
      · cases h
theorem readE_zero {s : ByteArray} (hs : s.size ≤ 50000) (h : readE s = 0) : checkE (readP s) = 0 := by
  have h0 : ¬ 65536 < s.size := by omega
  cases hv : readV s with
  | none => rw [(read_none h0 hv).1] at h; cases h
  | some l =>
    obtain ⟨h1, h2⟩ := read_some h0 hv
    rw [h1] at h
    rw [h2, if_pos h]; exact h
theorem blockE_in {k : Nat} {l : List Pc} (h1 : 1 ≤ k) (h6 : k ≤ 6) (hc : checkE l = 0) : blockE ⟨(k : Int), l⟩ = inE (k : Int) l := by
  unfold blockE
  rw [if_neg (by simp only; omega), if_neg (by simp [hc])]
theorem bytes_of (s : ByteArray) : bytes s.data.toList = s := by obtain ⟨⟨l⟩⟩ := s; rfl
theorem below_drews {w w' : World} (h : ∃ n, w' = w.drewN n) : Below w.heap.size w w' := by
  obtain ⟨n, rfl⟩ := h
  exact below_drewN0 w n
/-- the cells of a result that is a block -/
def ResK (b : Nat) (w : World) : Prop := w.heap[b]? = some (.cells #[.int .u8 0, .slice none 0 0] 51 (0, 0))
theorem ResK.new (w : World) : ResK w.heap.size (w.alloc (.cells #[.int .u8 0, .slice none 0 0] 51)) := by
  unfold ResK
  show (w.heap.push _)[_]? = _
  simp
theorem ResK.step {b : Nat} {w w' : World} (h : ResK b w) (hb : Below w.heap.size w w') : ResK b w' := by
  unfold ResK at *
  rw [hb.block b (lt_of_block h)]; exact h
theorem ResK.cells {b : Nat} {w : World} (h : ResK b w) : w.cell? ⟨b, 0, none⟩ = some (.int .u8 0) ∧ w.cell? ⟨b, 1, none⟩ = some (.slice none 0 0) ∧ w.frozen? ⟨b, 0, none⟩ = false ∧ w.frozen? ⟨b, 1, none⟩ = false :=
  ⟨by rw [Lib.cell_of_heap h]; rfl, by rw [Lib.cell_of_heap h]; rfl, Lib.frozen_of_heap h 0, Lib.frozen_of_heap h 1⟩
theorem set2_cells {w : World} {b : Nat} {v0 v1 : Value} {t : TypeId} {fr : Nat × Nat} (h : w.heap[b]? = some (.cells #[v0, v1] t fr)) (x0 x1 : Value) :
    ((w.setCell ⟨b, 0, none⟩ x0).setCell ⟨b, 1, none⟩ x1).heap[b]? = some (.cells #[x0, x1] t fr) := by
  simp [World.setCell, Array.getElem?_modify, h]
theorem ResK.put {b : Nat} {w : World} (h : ResK b w) (x0 x1 : Value) : ∀ j v, [x0, x1][j]? = some v → ((w.setCell ⟨b, 0, none⟩ x0).setCell ⟨b, 1, none⟩ x1).cell? ((⟨b, 0, none⟩ : Addr).add j) = some v := by
  have hs := set2_cells h x0 x1
  intro j v hj
  match j, hj with
  | 0, hj => simp only [List.getElem?_cons_zero, Option.some.injEq] at hj; subst hj; show World.cell? _ ⟨b, 0, none⟩ = _; rw [Lib.cell_of_heap hs]; rfl
  | 1, hj => simp only [List.getElem?_cons_succ, List.getElem?_cons_zero, Option.some.injEq] at hj; subst hj; show World.cell? _ ⟨b, 0 + 1, none⟩ = _; rw [Lib.cell_of_heap hs]; rfl
theorem ResK.own {b B : Nat} {w : World} {u : Value} {l : List Pc} (h : ResK b w) (hu : OwnP B u l w) (x0 x1 : Value) : OwnP B u l ((w.setCell ⟨b, 0, none⟩ x0).setCell ⟨b, 1, none⟩ x1) := by
  have h1 : (w.setCell ⟨b, 0, none⟩ x0).heap[b]? = some (.cells #[x0, .slice none 0 0] 51 (0, 0)) := by
    unfold ResK at h
    simp [World.setCell, Array.getElem?_modify, h]
  have h2 : OwnP B u l (w.setCell ⟨b, 0, none⟩ x0) := hu.kept (grown_setCell _ _ _ _) (.inr (own_other hu h (by decide)))
  exact h2.kept (grown_setCell _ _ _ _) (.inr (own_other h2 h1 (by decide)))
set_option maxHeartbeats 8000000 in
theorem parseBlock_any (s : ByteArray) (w : World) (hs : s.size ≤ 4000) (hE : Env w) :
    Calls Tryz.prog 48 #[.string s] w fun e w' => BlEnd s e w' ∧ Below w.heap.size w w' := by
  have ag := Tryz.isAgg51
  have zg := Tryz.sizeOf51
  have hbx : Below w.heap.size w (w.alloc (.cells #[.int .u8 0, .slice none 0 0] 51)) := below_box _
  have HBX := Lib.hid hbx
  have HSZ := Lib.hid hbx.size
  have HE0 := Lib.hid (hE.step hbx)
  have HR0 := Lib.hid (ResK.new w)
  have cC := cut_any s 32 (w.alloc (.cells #[.int .u8 0, .slice none 0 0] 51)) (by omega) HE0.out.mxl
  have cK := fun (x : ByteArray) w2 (h : Wds w2) => blockKind_any x w2 h
  clear hE hbx
  by_cases hj : indexByte s.data.toList 32 = -1
  · have HV := Lib.hid (fun w' => BlEnd.of_error (s := s) (w' := w') (lineV_none (show headOf s.data.toList = none by unfold headOf; rw [if_pos hj])))
    have HJ := Lib.hid hj
    clear hj
    have cK2 := cK s
    generalize (decide (kindOf s.data.toList ≠ 0)) = ok at cK2
    generalize ((kindOf s.data.toList : Nat) : Int) = kk at cK2
    go_enter Tryz.func48, Tryz.ntmps48
    go_wp2_with (first
      | (go_at_call 47; (with_reducible refine cC.mono ?_); rintro e w2 ⟨he2, hw2⟩; have h2 := he2.none HJ.out; obtain rfl := h2; have HB2 := Lib.hid (below_drews hw2); have HR2 := Lib.hid (HR0.out.step HB2.out); have HBB2 := Lib.hid (HBX.out.trans (HB2.out.mono HSZ.out)); have HE2 := Lib.hid (HE0.out.step HB2.out); clear he2 hw2)
      | (go_at_call 93; (with_reducible refine (cK2 w2 HE2.out.wds).mono ?_); rintro e w3 ⟨rfl, hw3⟩; have HB3 := Lib.hid (below_drews hw3); have HR3 := Lib.hid (HR2.out.step HB3.out); have HBB3 := Lib.hid (below_next HBB2.out HB3.out); have HE3 := Lib.hid (HE2.out.step HB3.out); clear hw3; obtain ⟨r0, r1, r2, r3⟩ := HR3.out.cells))
    refine bodyPost_ret (results_ct (xs := [(.int .u8 0), (.slice none 0 0)]) rfl rfl ag zg (HR3.out.put (.int .u8 0) (.slice none 0 0))) rfl ?_
    refine ⟨HV.out _, ?_⟩
    exact (HBB3.out.setCell (p := ⟨w.heap.size, 0, none⟩) (Nat.le_refl _) _).setCell (p := ⟨w.heap.size, 1, none⟩) (Nat.le_refl _) _
  · obtain ⟨j, hj⟩ : ∃ j : Nat, indexByte s.data.toList 32 = (j : Int) := ⟨(indexByte s.data.toList 32).toNat, by have := indexByte_ge s.data.toList 32; omega⟩
    have HJ := Lib.hid hj
    have hjl := indexByte_cut hj
    rw [← size_eq] at hjl
    have hho : headOf s.data.toList = if kindOf (s.data.toList.take j) = 0 then none else some (kindOf (s.data.toList.take j), s.data.toList.drop (j + 1)) := by
      unfold headOf; rw [if_neg (by omega), hj]; rfl
    have cK2 := cK (s.extract 0 j)
    have hx : (s.extract 0 j).data.toList = s.data.toList.take j := by rw [extract_list, List.drop_zero]
    rw [hx] at cK2
    have hkl := kindOf_le (s.data.toList.take j)
    generalize kindOf (s.data.toList.take j) = k at hho cK2 hkl
    by_cases hk : k = 0
    · subst hk
      rw [if_pos rfl] at hho
      have HV := Lib.hid (fun w' => BlEnd.of_error (s := s) (w' := w') (lineV_none hho))
      clear hho hx cK
      rw [show (decide ((0 : Nat) ≠ 0)) = false from rfl] at cK2
      go_enter Tryz.func48, Tryz.ntmps48
      go_wp2_with (first
        | (go_at_call 47; (with_reducible refine cC.mono ?_); rintro e w2 ⟨he2, hw2⟩; have h2 := he2.some HJ.out; obtain rfl := h2; have HB2 := Lib.hid (below_drews hw2); have HR2 := Lib.hid (HR0.out.step HB2.out); have HBB2 := Lib.hid (HBX.out.trans (HB2.out.mono HSZ.out)); have HE2 := Lib.hid (HE0.out.step HB2.out); clear he2 hw2)
        | (go_at_call 93; (with_reducible refine (cK2 w2 HE2.out.wds).mono ?_); rintro e w3 ⟨rfl, hw3⟩; have HB3 := Lib.hid (below_drews hw3); have HR3 := Lib.hid (HR2.out.step HB3.out); have HBB3 := Lib.hid (below_next HBB2.out HB3.out); have HE3 := Lib.hid (HE2.out.step HB3.out); clear hw3; obtain ⟨r0, r1, r2, r3⟩ := HR3.out.cells))
      refine bodyPost_ret (results_ct (xs := [(.int .u8 0), (.slice none 0 0)]) rfl rfl ag zg (HR3.out.put (.int .u8 0) (.slice none 0 0))) rfl ?_
      refine ⟨HV.out _, ?_⟩
      exact (HBB3.out.setCell (p := ⟨w.heap.size, 0, none⟩) (Nat.le_refl _) _).setCell (p := ⟨w.heap.size, 1, none⟩) (Nat.le_refl _) _
    · rw [if_neg hk] at hho
      rw [show (decide (k ≠ 0)) = true from decide_eq_true hk] at cK2
      obtain ⟨r, hr⟩ : ∃ r, s.extract (j + 1) s.size = r := ⟨_, rfl⟩
      have hrl : r.data.toList = s.data.toList.drop (j + 1) := by rw [← hr, extract_list, List.take_of_length_le (by rw [size_eq]; exact Nat.le_refl _)]
      have hrz : r.size ≤ s.size := by rw [size_eq, hrl, List.length_drop, size_eq]; omega
      have hrb : bytes (s.data.toList.drop (j + 1)) = r := by rw [← hrl]; exact bytes_of r
      have hk1 : 1 ≤ k := by omega
      have cR := fun w2 (h : Env w2) => read_any r w2 (by omega) h.tabs h.nts
      have HRZ := Lib.hid (readE_zero (s := r) (by omega))
      have HRR := Lib.hid (fun h => lineV_read hho h)
      have HRI := Lib.hid (fun h => lineV_in hho h)
      have HRO := Lib.hid (fun h => lineV_ok hho h)
      rw [hrb] at HRR HRI HRO
      clear hho hx cK hrl hrb hj
      have fin := Lib.hid (fun e wr (h : ReadEnd r e wr) => (show ∃ v2, e = .returned (.tuple #[v2, .int .u8 (readE r)]) ∧ OwnP 0 v2 (readP r) wr ∧ bulk (readP r) ≤ 2 * r.size from h))
      by_cases hz : readE r = 0
      · have HCE := Lib.hid (HRZ.out hz)
        have HBI := Lib.hid (blockE_in (l := readP r) hk1 hkl HCE.out)
        have HRI2 := Lib.hid (HRI.out hz)
        have HRO2 := Lib.hid (HRO.out hz)
        rw [hz] at fin
        clear hz HRZ HRR HRI HRO
        generalize readP r = l at fin HCE HBI HRI2 HRO2
        have cB := fun u w2 (h : Env w2) (hu : OwnP 0 u l w2) (hb : bulk l ≤ 2 * r.size) => checkBlock_any ⟨(k : Int), l⟩ u w2 (by simp only; omega) hu.at (short_mem (by simp only; omega)) h.tabs
        rw [HBI.out] at cB
        by_cases hi : inE (k : Int) l = 0
        · have HO := Lib.hid (HRO2.out hi)
          rw [hi] at cB
          clear hi HRI2 HRO2
          go_enter Tryz.func48, Tryz.ntmps48
          go_wp2_with (first
            | (go_at_call 47; (with_reducible refine cC.mono ?_); rintro e w2 ⟨he2, hw2⟩; have h2 := he2.some HJ.out; rw [hr] at h2; obtain rfl := h2; have HB2 := Lib.hid (below_drews hw2); have HR2 := Lib.hid (HR0.out.step HB2.out); have HBB2 := Lib.hid (HBX.out.trans (HB2.out.mono HSZ.out)); have HE2 := Lib.hid (HE0.out.step HB2.out); clear he2 hw2)
            | (go_at_call 93; (with_reducible refine (cK2 w2 HE2.out.wds).mono ?_); rintro e w3 ⟨rfl, hw3⟩; have HB3 := Lib.hid (below_drews hw3); have HR3 := Lib.hid (HR2.out.step HB3.out); have HBB3 := Lib.hid (below_next HBB2.out HB3.out); have HE3 := Lib.hid (HE2.out.step HB3.out); clear hw3; obtain ⟨r0, r1, r2, r3⟩ := HR3.out.cells)
            | (go_at_call 33; (with_reducible refine (cR w3 HE3.out).mono ?_); rintro e w4 ⟨he4, hb4⟩; obtain ⟨u4, rfl, hu4, hk4⟩ := fin.out _ _ he4; have HB4 := Lib.hid hb4; have HR4 := Lib.hid (HR3.out.step HB4.out); have HBB4 := Lib.hid (below_next HBB3.out HB4.out); have HE4 := Lib.hid (HE3.out.step HB4.out); have HU4 := Lib.hid hu4; have HK4 := Lib.hid hk4; obtain ⟨ao4, cap4, rfl⟩ := hu4.form; have HW4 := Lib.hid (below_box (w := w4) (.cells #[.int .u8 (k : Int), .slice ao4 l.length cap4] 51)); have HX4 := Lib.hid (BoxK.new w4 (k : Int) (.slice ao4 l.length cap4) 51); have cB4 := cB _ _ (HE4.out.step HW4.out) (HU4.out.step HW4.out) HK4.out; clear he4 hb4 hu4 hk4 r0 r1 r2 r3; obtain ⟨r0, r1, r2, r3⟩ := HR4.out.cells)
            | (go_at_call 43; (with_reducible refine cB4.mono ?_); rintro e w5 ⟨rfl, hb5⟩; have HB5 := Lib.hid hb5; have HR5 := Lib.hid ((HR4.out.step HW4.out).step HB5.out); have HBB5 := Lib.hid (below_next (below_next HBB4.out HW4.out) HB5.out); have HU5 := Lib.hid ((HU4.out.step HW4.out).step HB5.out); have HX5 := Lib.hid (HX4.out.step HB5.out); clear hb5 r0 r1 r2 r3; obtain ⟨r0, r1, r2, r3⟩ := HR5.out.cells; obtain ⟨q0, q1, q2⟩ := HX5.out))
          refine bodyPost_ret (results_ct (xs := [.int .u8 (k : Int), .slice ao4 l.length cap4]) rfl rfl ag zg (HR5.out.put (.int .u8 (k : Int)) (.slice ao4 l.length cap4))) rfl ?_
          refine ⟨BlEnd.of_ok HO.out (HR5.out.own HU5.out _ _) (by have := HK4.out; simp only; omega), ?_⟩
          exact (HBB5.out.setCell (p := ⟨w.heap.size, 0, none⟩) (Nat.le_refl _) _).setCell (p := ⟨w.heap.size, 1, none⟩) (Nat.le_refl _) _
        · have HO := Lib.hid (HRI2.out hi)
          generalize inE (k : Int) l = Z at cB HO hi
          have hz : (Z == 0) = false := by simpa using hi
          clear hi HRI2 HRO2
          go_enter Tryz.func48, Tryz.ntmps48
          go_wp2_with (first
            | (go_at_call 47; (with_reducible refine cC.mono ?_); rintro e w2 ⟨he2, hw2⟩; have h2 := he2.some HJ.out; rw [hr] at h2; obtain rfl := h2; have HB2 := Lib.hid (below_drews hw2); have HR2 := Lib.hid (HR0.out.step HB2.out); have HBB2 := Lib.hid (HBX.out.trans (HB2.out.mono HSZ.out)); have HE2 := Lib.hid (HE0.out.step HB2.out); clear he2 hw2)
            | (go_at_call 93; (with_reducible refine (cK2 w2 HE2.out.wds).mono ?_); rintro e w3 ⟨rfl, hw3⟩; have HB3 := Lib.hid (below_drews hw3); have HR3 := Lib.hid (HR2.out.step HB3.out); have HBB3 := Lib.hid (below_next HBB2.out HB3.out); have HE3 := Lib.hid (HE2.out.step HB3.out); clear hw3; obtain ⟨r0, r1, r2, r3⟩ := HR3.out.cells)
            | (go_at_call 33; (with_reducible refine (cR w3 HE3.out).mono ?_); rintro e w4 ⟨he4, hb4⟩; obtain ⟨u4, rfl, hu4, hk4⟩ := fin.out _ _ he4; have HB4 := Lib.hid hb4; have HR4 := Lib.hid (HR3.out.step HB4.out); have HBB4 := Lib.hid (below_next HBB3.out HB4.out); have HE4 := Lib.hid (HE3.out.step HB4.out); have HU4 := Lib.hid hu4; have HK4 := Lib.hid hk4; obtain ⟨ao4, cap4, rfl⟩ := hu4.form; have HW4 := Lib.hid (below_box (w := w4) (.cells #[.int .u8 (k : Int), .slice ao4 l.length cap4] 51)); have HX4 := Lib.hid (BoxK.new w4 (k : Int) (.slice ao4 l.length cap4) 51); have cB4 := cB _ _ (HE4.out.step HW4.out) (HU4.out.step HW4.out) HK4.out; clear he4 hb4 hu4 hk4 r0 r1 r2 r3; obtain ⟨r0, r1, r2, r3⟩ := HR4.out.cells)
            | (go_at_call 43; (with_reducible refine cB4.mono ?_); rintro e w5 ⟨rfl, hb5⟩; have HB5 := Lib.hid hb5; have HR5 := Lib.hid ((HR4.out.step HW4.out).step HB5.out); have HBB5 := Lib.hid (below_next (below_next HBB4.out HW4.out) HB5.out); have HU5 := Lib.hid ((HU4.out.step HW4.out).step HB5.out); have HX5 := Lib.hid (HX4.out.step HB5.out); clear hb5 r0 r1 r2 r3; obtain ⟨r0, r1, r2, r3⟩ := HR5.out.cells; obtain ⟨q0, q1, q2⟩ := HX5.out))
          refine bodyPost_ret (results_ct (xs := [(.int .u8 0), (.slice none 0 0)]) rfl rfl ag zg (HR5.out.put (.int .u8 0) (.slice none 0 0))) rfl ?_
          refine ⟨BlEnd.of_error HO.out, ?_⟩
          exact (HBB5.out.setCell (p := ⟨w.heap.size, 0, none⟩) (Nat.le_refl _) _).setCell (p := ⟨w.heap.size, 1, none⟩) (Nat.le_refl _) _
      · have HO := Lib.hid (HRR.out hz)
        generalize readE r = Z at fin HO hz
        have hz2 : (Z == 0) = false := by simpa using hz
        clear hz HRZ HRR HRI HRO
        go_enter Tryz.func48, Tryz.ntmps48
        go_wp2_with (first
          | (go_at_call 47; (with_reducible refine cC.mono ?_); rintro e w2 ⟨he2, hw2⟩; have h2 := he2.some HJ.out; rw [hr] at h2; obtain rfl := h2; have HB2 := Lib.hid (below_drews hw2); have HR2 := Lib.hid (HR0.out.step HB2.out); have HBB2 := Lib.hid (HBX.out.trans (HB2.out.mono HSZ.out)); have HE2 := Lib.hid (HE0.out.step HB2.out); clear he2 hw2)
          | (go_at_call 93; (with_reducible refine (cK2 w2 HE2.out.wds).mono ?_); rintro e w3 ⟨rfl, hw3⟩; have HB3 := Lib.hid (below_drews hw3); have HR3 := Lib.hid (HR2.out.step HB3.out); have HBB3 := Lib.hid (below_next HBB2.out HB3.out); have HE3 := Lib.hid (HE2.out.step HB3.out); clear hw3; obtain ⟨r0, r1, r2, r3⟩ := HR3.out.cells)
          | (go_at_call 33; (with_reducible refine (cR w3 HE3.out).mono ?_); rintro e w4 ⟨he4, hb4⟩; obtain ⟨u4, rfl, hu4, hk4⟩ := fin.out _ _ he4; have HB4 := Lib.hid hb4; have HR4 := Lib.hid (HR3.out.step HB4.out); have HBB4 := Lib.hid (below_next HBB3.out HB4.out); have HE4 := Lib.hid (HE3.out.step HB4.out); have HU4 := Lib.hid hu4; have HK4 := Lib.hid hk4; clear he4 hb4 hu4 hk4 r0 r1 r2 r3; obtain ⟨r0, r1, r2, r3⟩ := HR4.out.cells))
        refine bodyPost_ret (results_ct (xs := [(.int .u8 0), (.slice none 0 0)]) rfl rfl ag zg (HR4.out.put (.int .u8 0) (.slice none 0 0))) rfl ?_
        refine ⟨BlEnd.of_error HO.out, ?_⟩
        exact (HBB4.out.setCell (p := ⟨w.heap.size, 0, none⟩) (Nat.le_refl _) _).setCell (p := ⟨w.heap.size, 1, none⟩) (Nat.le_refl _) _
end Go.Proofs.YtnbeomclmggbiaaGreatDoor
namespace Go.Proofs.YtnbeomclmggbiaaGreatDoor
open Go Go.RowKit Go.Lib
set_option maxRecDepth 100000
def hdC : Obj := .cells #[.string (bytes (headL 0)), .string (bytes (headL 1)), .string (bytes (headL 2)), .string (bytes (headL 3)), .string (bytes (headL 4)), .string (bytes (headL 5)), .string (bytes (headL 6))] 9
/-- the seven words lie in a block -/
def HdsAt (v : Value) (w : World) : Prop := ∃ b, v = .slice (some ⟨b, 0, none⟩) 7 7 ∧ ∀ k, k < 7 → w.cell? ⟨b, k, none⟩ = some (.string (bytes (headL k)))
theorem hds_new (w : World) : HdsAt (.slice (some ⟨w.heap.size, 0, none⟩) 7 7) (w.alloc hdC) := by
  refine ⟨_, rfl, fun k hk => ?_⟩
  match k, hk with
  | 0, _ => simp [hdC]
  | 1, _ => simp [hdC]
  | 2, _ => simp [hdC]
  | 3, _ => simp [hdC]
  | 4, _ => simp [hdC]
  | 5, _ => simp [hdC]
  | 6, _ => simp [hdC]
set_option maxHeartbeats 4000000 in
theorem heads_any (w : World) : Calls Tryz.prog 41 #[] w fun e w' => (∃ v, e = .returned v ∧ HdsAt v w') ∧ Below w.heap.size w w' := by
  go_enter Tryz.func41, Tryz.ntmps41
  go_wp2
  go_ret
  exact ⟨⟨_, rfl, hds_new w⟩, below_box _⟩
set_option maxHeartbeats 4000000 in
theorem inBlock_any (k : Int) (l : List Pc) (v : Value) (w : World) (hv : PcsAt w v l) :
    Calls Tryz.prog 44 #[.int .u8 k, v] w fun e w' => e = .returned (.int .u8 (inE k l)) ∧ Below w.heap.size w w' := by
  have cW := refWhole_any l v w hv
  have cB := fun w2 (h : Below w.heap.size w w2) => refBare_any l v w2 (hv.step h)
  have HE := Lib.hid (show inE k l = if wholeB l = false then 8 else if k = 6 ∧ bareB l = false then 1 else 0 from rfl)
  obtain ⟨q, cap, rfl, _⟩ := hv
  generalize wholeB l = b1 at cW HE
  generalize bareB l = b2 at cB HE
  cases b1
  · go_enter Tryz.func44, Tryz.ntmps44
    go_wp2_with (go_at_call 89; (with_reducible refine cW.mono ?_); rintro e w2 ⟨rfl, hw2⟩; have HB2 := Lib.hid (below_drews hw2); clear hw2)
    go_ret
    exact ⟨ret_u8 (by rw [HE.out]; rfl), HB2.out⟩
  · by_cases h6 : k = 6
    · subst h6
      cases b2
      all_goals
        go_enter Tryz.func44, Tryz.ntmps44
        go_wp2_with (first
          | (go_at_call 89; (with_reducible refine cW.mono ?_); rintro e w2 ⟨rfl, hw2⟩; have HB2 := Lib.hid (below_drews hw2); clear hw2)
          | (go_at_call 90; (with_reducible refine (cB w2 HB2.out).mono ?_); rintro e w3 ⟨rfl, hw3⟩; have HB3 := Lib.hid (below_next HB2.out (below_drews hw3)); clear hw3))
        go_ret
        exact ⟨ret_u8 (by rw [HE.out]; simp), HB3.out⟩
    · have h6b : (k == 6) = false := by simpa using h6
      have HK := Lib.hid h6
      clear h6 cB
      go_enter Tryz.func44, Tryz.ntmps44
      go_wp2_with (go_at_call 89; (with_reducible refine cW.mono ?_); rintro e w2 ⟨rfl, hw2⟩; have HB2 := Lib.hid (below_drews hw2); clear hw2)
      go_ret
      exact ⟨ret_u8 (by rw [HE.out]; simp [HK.out]), HB2.out⟩
end Go.Proofs.YtnbeomclmggbiaaGreatDoor
