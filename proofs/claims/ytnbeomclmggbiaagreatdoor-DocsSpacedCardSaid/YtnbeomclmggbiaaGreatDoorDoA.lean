/- What a block's pieces are asked, on both sides: is one carried, is one no text. A list of blocks in memory. Which lists of pieces, and which documents, are equal, as the specification tells it. -/
import Derived.Test.YtnbeomclmggbiaaGreatDoorDpB
import Derived.Test.YtnbeomclmggbiaaGreatDoorRdA
import Derived.Test.YtnbeomclmggbiaaGreatDoorRwA
namespace Go.Proofs.YtnbeomclmggbiaaGreatDoor
open Go Go.RowKit
set_option maxRecDepth 100000
theorem pcs_cellsB {B : Nat} {w : World} {A : Addr} {l : List Pc} {k : Nat} {wr : World} (hA : A.block < B) (hcell : ∀ i j, i < l.length → j < 3 → w.cell? (A.add (i * 3 + j)) = some (pcF l i j)) (hlt : k < l.length) (hb : Below B w wr) :
    wr.cell? (A.add (k * 3)) = some (.int .u8 (l.getD k nil).k) ∧ wr.cell? { block := (A.add (k * 3)).block, off := (A.add (k * 3)).off + 1 } = some (.string (l.getD k nil).s) ∧ wr.cell? { block := (A.add (k * 3)).block, off := (A.add (k * 3)).off + 2 } = some (.bool (l.getD k nil).c) := by
  have hAb : (A.add (k * 3)).block < B := by rw [add_block]; exact hA
  refine ⟨?_, ?_, ?_⟩
  · rw [hb.cell hAb]; have := hcell k 0 hlt (by omega); simpa [pcF] using this
  · rw [hb.cell (p := { block := (A.add (k * 3)).block, off := (A.add (k * 3)).off + 1 }) hAb]; have := cell_off (by omega) (hcell k 1 hlt (by omega)); simpa [pcF] using this
  · rw [hb.cell (p := { block := (A.add (k * 3)).block, off := (A.add (k * 3)).off + 2 }) hAb]; have := cell_off (by omega) (hcell k 2 hlt (by omega)); simpa [pcF] using this
/-- the first k have not what is asked -/
def noneB (p : Pc → Bool) (l : List Pc) (k : Nat) : Prop := ∀ i, i < k → i < l.length → p (l.getD i nil) = false
theorem noneB.succ {p : Pc → Bool} {l : List Pc} {k : Nat} (h : noneB p l k) (hk : p (l.getD k nil) = false) : noneB p l (k + 1) := fun i hi hl => by
  rcases Nat.lt_succ_iff_lt_or_eq.1 hi with h' | rfl
  · exact h i h' hl
  · exact hk
theorem any_of {p : Pc → Bool} {l : List Pc} {k : Nat} (hk : k < l.length) (h : p (l.getD k nil) = true) : l.any p = true :=
  List.any_eq_true.2 ⟨_, getD_mem hk, h⟩
theorem any_not {p : Pc → Bool} {l : List Pc} {k : Nat} (h : noneB p l k) (hk : l.length ≤ k) : l.any p = false := by
  rw [List.any_eq_false]
  intro x hx
  obtain ⟨i, hi, rfl⟩ := List.getElem_of_mem hx
  have := h i (by omega) hi
  rw [List.getD_eq_getElem?_getD, List.getElem?_eq_getElem hi] at this
  simpa using this
def noText (x : Pc) : Bool := decide (x.k ≠ 1)
theorem wholeB_any (l : List Pc) : wholeB l = !(l.any fun x => x.c) := by
  unfold wholeB
  induction l with
  | nil => rfl
  | cons x l ih => simp only [List.all_cons, List.any_cons, ih, Bool.not_or]
theorem bareB_any (l : List Pc) : bareB l = !(l.any noText) := by
  unfold bareB
  induction l with
  | nil => rfl
  | cons x l ih => simp only [List.all_cons, List.any_cons, ih, Bool.not_or, noText]; by_cases h : x.k = 1 <;> simp [h]
set_option maxHeartbeats 1000000 in
theorem isCarried_any (x : Pc) (w : World) : Calls Tryz.prog 140 #[pcV x] w fun e w' => e = .returned (.bool x.c) ∧ Below w.heap.size w w' := by
  obtain ⟨k, s, c⟩ := x
  unfold pcV
  have ag := Tryz.isAgg56
  have zg := Tryz.sizeOf56
  go_enter Tryz.func140, Tryz.ntmps140
  go_wp2
  go_ret
  exact ⟨rfl, below_box _⟩
set_option maxHeartbeats 1000000 in
theorem isNoText_any (x : Pc) (w : World) : Calls Tryz.prog 88 #[pcV x] w fun e w' => e = .returned (.bool (noText x)) ∧ Below w.heap.size w w' := by
  obtain ⟨k, s, c⟩ := x
  unfold pcV noText
  have ag := Tryz.isAgg56
  have zg := Tryz.sizeOf56
  by_cases h : k = 1
  all_goals
    go_enter Tryz.func88, Tryz.ntmps88
    go_wp2
    go_ret
    exact ⟨ret_bool (by simp [h]), below_box _⟩
/-- what IndexFunc returns, as far as ContainsFunc asks -/
def IxEnd (b : Bool) (e : Ending) : Prop := ∃ z : Int, e = .returned (.int .i64 z) ∧ (b = true → 0 ≤ z) ∧ (b = false → ¬ 0 ≤ z)
set_option maxHeartbeats 4000000 in
theorem index_isCarried (l : List Pc) (v : Value) (w : World) (hv : PcsAt w v l) :
    Calls Tryz.prog 141 #[v, .func (.func 140) #[] #[]] w fun e w' => IxEnd (l.any (fun x => x.c)) e ∧ Below w.heap.size w w' := by
  obtain ⟨q, cap, rfl, hl, hc, hrow⟩ := hv
  unfold maxLen at hc
  have ag := Tryz.isAgg56
  have zg := Tryz.sizeOf56
  have HR := Lib.hid hrow
  clear hrow
  go_enter Tryz.func141, Tryz.ntmps141
  go_wp2
  go_loopw [5, 8] (fun _ i wr => ∃ k : Nat, k ≤ l.length ∧ i = .int .i64 k ∧ Hid (noneB (fun x => x.c) l k) ∧ Hid (Below w.heap.size w wr)) (fun _ i _ => l.length - (intOf i).toNat)
  case atStart => exact ⟨0, Nat.zero_le _, rfl, fun i h => by omega, Below.refl _ _⟩
  case round =>
    obtain ⟨k, hk, rfl, HN, HB⟩ := hrel
    by_cases hlt : k < l.length
    · obtain ⟨A, rfl, hA, hcell⟩ := HR.out (by omega)
      obtain ⟨x0, x1, x2⟩ := pcs_cellsB hA hcell hlt HB.out
      have HX := Lib.hid (fun h => any_of (p := (fun x => x.c)) (l := l) (k := k) hlt h)
      have HS := Lib.hid (fun h => HN.out.succ (k := k) h)
      clear hcell
      generalize l.getD k nil = x at *
      obtain ⟨xk, xs, xc⟩ := x
      cases xc
      · have HS2 := Lib.hid (HS.out (by rfl))
        have cF := fun w2 => isCarried_any ⟨xk, xs, false⟩ w2
        rw [show (⟨xk, xs, false⟩ : Pc).c = false by rfl] at cF
        unfold pcV at cF
        go_wp2_with (go_at_call 140; (with_reducible refine (cF _).mono ?_); rintro e w2 ⟨rfl, hb2⟩; have HB2 := Lib.hid (below_next HB.out hb2); clear hb2)
        go_roundw
        case rel => exact ⟨k + 1, by omega, by go_num, HS2.out, HB2.out⟩
        case measure => simp [intOf]; omega
      · have HX2 := Lib.hid (HX.out (by rfl))
        have cF := fun w2 => isCarried_any ⟨xk, xs, true⟩ w2
        rw [show (⟨xk, xs, true⟩ : Pc).c = true by rfl] at cF
        unfold pcV at cF
        go_wp2_with (go_at_call 140; (with_reducible refine (cF _).mono ?_); rintro e w2 ⟨rfl, hb2⟩; have HB2 := Lib.hid (below_next HB.out hb2); clear hb2)
        go_ret
        exact ⟨⟨k, rfl, (fun _ => by omega), (fun h => by rw [HX2.out] at h; cases h)⟩, HB2.out⟩
    · have HX := Lib.hid (any_not HN.out (by omega))
      go_wp2
      go_ret
      exact ⟨⟨-1, rfl, (fun h => by rw [HX.out] at h; cases h), (fun _ => by omega)⟩, HB.out⟩
set_option maxHeartbeats 4000000 in
theorem contains_isCarried (l : List Pc) (v : Value) (w : World) (hv : PcsAt w v l) :
    Calls Tryz.prog 87 #[v, .func (.func 140) #[] #[]] w fun e w' => e = .returned (.bool (l.any (fun x => x.c))) ∧ Below w.heap.size w w' := by
  have cI := index_isCarried l v w hv
  obtain ⟨q, cap, rfl, hl, hc, hrow⟩ := hv
  clear hrow
  generalize l.any (fun x => x.c) = b at cI
  cases b
  · go_enter Tryz.func87, Tryz.ntmps87
    go_wp2_with (go_at_call 141; (with_reducible refine cI.mono ?_); rintro e w2 ⟨⟨z, rfl, h1, h2⟩, hb2⟩; have hz := h2 rfl; have HB2 := Lib.hid hb2; clear hb2 h1 h2)
    go_ret
    exact ⟨ret_bool (decide_eq_false (by omega)), HB2.out⟩
  · go_enter Tryz.func87, Tryz.ntmps87
    go_wp2_with (go_at_call 141; (with_reducible refine cI.mono ?_); rintro e w2 ⟨⟨z, rfl, h1, h2⟩, hb2⟩; have hz := h1 rfl; have HB2 := Lib.hid hb2; clear hb2 h1 h2)
    go_ret
    exact ⟨rfl, HB2.out⟩
set_option maxHeartbeats 4000000 in
theorem index_isNoText (l : List Pc) (v : Value) (w : World) (hv : PcsAt w v l) :
    Calls Tryz.prog 141 #[v, .func (.func 88) #[] #[]] w fun e w' => IxEnd (l.any noText) e ∧ Below w.heap.size w w' := by
  obtain ⟨q, cap, rfl, hl, hc, hrow⟩ := hv
  unfold maxLen at hc
  have ag := Tryz.isAgg56
  have zg := Tryz.sizeOf56
  have HR := Lib.hid hrow
  clear hrow
  go_enter Tryz.func141, Tryz.ntmps141
  go_wp2
  go_loopw [5, 8] (fun _ i wr => ∃ k : Nat, k ≤ l.length ∧ i = .int .i64 k ∧ Hid (noneB noText l k) ∧ Hid (Below w.heap.size w wr)) (fun _ i _ => l.length - (intOf i).toNat)
  case atStart => exact ⟨0, Nat.zero_le _, rfl, fun i h => by omega, Below.refl _ _⟩
  case round =>
    obtain ⟨k, hk, rfl, HN, HB⟩ := hrel
    by_cases hlt : k < l.length
    · obtain ⟨A, rfl, hA, hcell⟩ := HR.out (by omega)
      obtain ⟨x0, x1, x2⟩ := pcs_cellsB hA hcell hlt HB.out
      have HX := Lib.hid (fun h => any_of (p := noText) (l := l) (k := k) hlt h)
      have HS := Lib.hid (fun h => HN.out.succ (k := k) h)
      clear hcell
      generalize l.getD k nil = x at *
      obtain ⟨xk, xs, xc⟩ := x
      rcases Decidable.em (xk = 1) with rfl | hxk
      · have HS2 := Lib.hid (HS.out (by simp [noText]))
        have cF := fun w2 => isNoText_any ⟨1, xs, xc⟩ w2
        rw [show noText ⟨1, xs, xc⟩ = false by simp [noText]] at cF
        unfold pcV at cF
        go_wp2_with (go_at_call 88; (with_reducible refine (cF _).mono ?_); rintro e w2 ⟨rfl, hb2⟩; have HB2 := Lib.hid (below_next HB.out hb2); clear hb2)
        go_roundw
        case rel => exact ⟨k + 1, by omega, by go_num, HS2.out, HB2.out⟩
        case measure => simp [intOf]; omega
      · have HX2 := Lib.hid (HX.out (by simp [noText, hxk]))
        have cF := fun w2 => isNoText_any ⟨xk, xs, xc⟩ w2
        rw [show noText ⟨xk, xs, xc⟩ = true by simp [noText, hxk]] at cF
        unfold pcV at cF
        go_wp2_with (go_at_call 88; (with_reducible refine (cF _).mono ?_); rintro e w2 ⟨rfl, hb2⟩; have HB2 := Lib.hid (below_next HB.out hb2); clear hb2)
        go_ret
        exact ⟨⟨k, rfl, (fun _ => by omega), (fun h => by rw [HX2.out] at h; cases h)⟩, HB2.out⟩
    · have HX := Lib.hid (any_not HN.out (by omega))
      go_wp2
      go_ret
      exact ⟨⟨-1, rfl, (fun h => by rw [HX.out] at h; cases h), (fun _ => by omega)⟩, HB.out⟩
set_option maxHeartbeats 4000000 in
theorem contains_isNoText (l : List Pc) (v : Value) (w : World) (hv : PcsAt w v l) :
    Calls Tryz.prog 87 #[v, .func (.func 88) #[] #[]] w fun e w' => e = .returned (.bool (l.any noText)) ∧ Below w.heap.size w w' := by
  have cI := index_isNoText l v w hv
  obtain ⟨q, cap, rfl, hl, hc, hrow⟩ := hv
  clear hrow
  generalize l.any noText = b at cI
  cases b
  · go_enter Tryz.func87, Tryz.ntmps87
    go_wp2_with (go_at_call 141; (with_reducible refine cI.mono ?_); rintro e w2 ⟨⟨z, rfl, h1, h2⟩, hb2⟩; have hz := h2 rfl; have HB2 := Lib.hid hb2; clear hb2 h1 h2)
    go_ret
    exact ⟨ret_bool (decide_eq_false (by omega)), HB2.out⟩
  · go_enter Tryz.func87, Tryz.ntmps87
    go_wp2_with (go_at_call 141; (with_reducible refine cI.mono ?_); rintro e w2 ⟨⟨z, rfl, h1, h2⟩, hb2⟩; have hz := h1 rfl; have HB2 := Lib.hid hb2; clear hb2 h1 h2)
    go_ret
    exact ⟨rfl, HB2.out⟩
set_option maxHeartbeats 2000000 in
theorem whole_any (l : List Pc) (v : Value) (w : World) (hv : PcsAt w v l) :
    Calls Tryz.prog 86 #[v] w fun e w' => e = .returned (.bool (wholeB l)) ∧ Below w.heap.size w w' := by
  have cC := contains_isCarried l v w hv
  rw [wholeB_any]
  obtain ⟨q, cap, rfl, hl, hc, hrow⟩ := hv
  clear hrow
  generalize (l.any fun x => x.c) = b at cC
  cases b
  all_goals
    go_enter Tryz.func86, Tryz.ntmps86
    go_wp2_with (go_at_call 87; (with_reducible refine cC.mono ?_); rintro e w2 ⟨rfl, hb2⟩; have HB2 := Lib.hid hb2; clear hb2)
    go_ret
    exact ⟨rfl, HB2.out⟩
set_option maxHeartbeats 4000000 in
theorem refWhole_any (l : List Pc) (v : Value) (w : World) (hv : PcsAt w v l) :
    Calls Tryz.prog 89 #[v] w fun e w' => e = .returned (.bool (wholeB l)) ∧ ∃ n, w' = w.drewN n := by
  rw [wholeB_any]
  obtain ⟨q, cap, rfl, hl, hc, hrow⟩ := hv
  unfold maxLen at hc
  have ag := Tryz.isAgg56
  have zg := Tryz.sizeOf56
  have HR := Lib.hid hrow
  clear hrow
  go_enter Tryz.func89, Tryz.ntmps89
  go_wp2
  go_loopw [3] (fun i wr => ∃ k : Nat, k ≤ l.length ∧ i = .int .i64 k ∧ Hid (noneB (fun x => x.c) l k) ∧ ∃ n, wr = w.drewN n) (fun i _ => l.length - (intOf i).toNat)
  case atStart => exact ⟨0, Nat.zero_le _, rfl, fun i h => by omega, 0, rfl⟩
  case round =>
    obtain ⟨k, hk, rfl, HN, n, rfl⟩ := hrel
    obtain ⟨w1, hw1⟩ : ∃ w1, w1 = w.drewN n := ⟨_, rfl⟩
    have HW := Lib.hid hw1
    by_cases hlt : k < l.length
    · obtain ⟨A, rfl, hA, hcell⟩ := HR.out (by omega)
      have hb : Below w.heap.size w w1 := by rw [hw1]; exact ⟨rfl, rfl, rfl, Nat.le_refl _, fun _ _ => rfl⟩
      obtain ⟨x0, x1, x2⟩ := pcs_cellsB hA hcell hlt hb
      have HX := Lib.hid (fun h => any_of (p := (fun x => x.c)) (l := l) (k := k) hlt h)
      have HS := Lib.hid (fun h => HN.out.succ (k := k) h)
      rw [← hw1]
      clear hcell hw1 hb
      generalize l.getD k nil = x at *
      obtain ⟨xk, xs, xc⟩ := x
      cases xc
      · have HS2 := Lib.hid (HS.out (by rfl))
        clear HX HS
        go_wp2
        go_roundw
        case rel => exact ⟨k + 1, by omega, by go_num, HS2.out, n, HW.out⟩
        case measure => simp [intOf]; omega
      · have HX2 := Lib.hid (HX.out (by rfl))
        clear HX HS
        go_wp2
        go_ret
        exact ⟨by rw [HX2.out]; rfl, n, HW.out⟩
    · have HX := Lib.hid (any_not HN.out (by omega))
      rw [← hw1]
      clear hw1
      go_wp2
      go_ret
      exact ⟨by rw [HX.out]; rfl, n, HW.out⟩
set_option maxHeartbeats 4000000 in
theorem refBare_any (l : List Pc) (v : Value) (w : World) (hv : PcsAt w v l) :
    Calls Tryz.prog 90 #[v] w fun e w' => e = .returned (.bool (bareB l)) ∧ ∃ n, w' = w.drewN n := by
  rw [bareB_any]
  obtain ⟨q, cap, rfl, hl, hc, hrow⟩ := hv
  unfold maxLen at hc
  have ag := Tryz.isAgg56
  have zg := Tryz.sizeOf56
  have HR := Lib.hid hrow
  clear hrow
  go_enter Tryz.func90, Tryz.ntmps90
  go_wp2
  go_loopw [3] (fun i wr => ∃ k : Nat, k ≤ l.length ∧ i = .int .i64 k ∧ Hid (noneB noText l k) ∧ ∃ n, wr = w.drewN n) (fun i _ => l.length - (intOf i).toNat)
  case atStart => exact ⟨0, Nat.zero_le _, rfl, fun i h => by omega, 0, rfl⟩
  case round =>
    obtain ⟨k, hk, rfl, HN, n, rfl⟩ := hrel
    obtain ⟨w1, hw1⟩ : ∃ w1, w1 = w.drewN n := ⟨_, rfl⟩
    have HW := Lib.hid hw1
    by_cases hlt : k < l.length
    · obtain ⟨A, rfl, hA, hcell⟩ := HR.out (by omega)
      have hb : Below w.heap.size w w1 := by rw [hw1]; exact ⟨rfl, rfl, rfl, Nat.le_refl _, fun _ _ => rfl⟩
      obtain ⟨x0, x1, x2⟩ := pcs_cellsB hA hcell hlt hb
      have HX := Lib.hid (fun h => any_of (p := noText) (l := l) (k := k) hlt h)
      have HS := Lib.hid (fun h => HN.out.succ (k := k) h)
      rw [← hw1]
      clear hcell hw1 hb
      generalize l.getD k nil = x at *
      obtain ⟨xk, xs, xc⟩ := x
      by_cases hxk : xk = 1
      · have HS2 := Lib.hid (HS.out (by simp [noText, hxk]))
        clear HX HS
        go_wp2
        go_roundw
        case rel => exact ⟨k + 1, by omega, by go_num, HS2.out, n, HW.out⟩
        case measure => simp [intOf]; omega
      · have HX2 := Lib.hid (HX.out (by simp [noText, hxk]))
        clear HX HS
        go_wp2
        go_ret
        exact ⟨by rw [HX2.out]; rfl, n, HW.out⟩
    · have HX := Lib.hid (any_not HN.out (by omega))
      rw [← hw1]
      clear hw1
      go_wp2
      go_ret
      exact ⟨by rw [HX.out]; rfl, n, HW.out⟩
end Go.Proofs.YtnbeomclmggbiaaGreatDoor
namespace Go.Proofs.YtnbeomclmggbiaaGreatDoor
open Go Go.RowKit
set_option maxRecDepth 100000
theorem info_bk : (Tryz.prog.info? 51).map (fun i => (i.zero, i.size, i.bytes)) = some (some (.agg #[.int .u8 0, .slice none 0 0]), 2, 32) := by kernel_rfl
def nilB : Bk := ⟨0, []⟩
def nilV : Value := .slice none 0 0
def bkF (bs : List Bk) (us : List Value) (i j : Nat) : Value := if j = 0 then .int .u8 (bs.getD i nilB).k else us.getD i nilV
/-- blocks lie in memory, each with its pieces -/
def BksAt (w : World) (v : Value) (bs : List Bk) : Prop :=
  ∃ us : List Value, us.length = bs.length ∧ SliceAt w.heap.size w v bs.length 2 (bkF bs us) ∧ ∀ i, i < bs.length → PcsAt w (us.getD i nilV) (bs.getD i nilB).l
theorem BksAt.step {w w' : World} {v : Value} {bs : List Bk} (hb : Below w.heap.size w w') (h : BksAt w v bs) : BksAt w' v bs := by
  obtain ⟨us, h1, h2, h3⟩ := h
  exact ⟨us, h1, (SliceAt.below hb h2).mono hb.size, fun i hi => (h3 i hi).step hb⟩
theorem bks_nil (w : World) : BksAt w (.slice none 0 0) [] := ⟨[], rfl, ⟨none, 0, rfl, by simp, by simp, fun h => absurd h (by simp)⟩, fun i hi => absurd hi (by simp)⟩
def cells2 : List Bk → List Value → List Value
  | b :: bs, u :: us => .int .u8 b.k :: u :: cells2 bs us
  | _, _ => []
theorem cells2_len : ∀ {bs : List Bk} {us : List Value}, us.length = bs.length → (cells2 bs us).length = bs.length * 2
  | [], [], _ => rfl
  | b :: bs, u :: us, h => by
    have := cells2_len (bs := bs) (us := us) (by simpa using h)
    simp only [cells2, List.length_cons, this]; omega
theorem cells2_app : ∀ {bs : List Bk} {us : List Value} (b : Bk) (u : Value), us.length = bs.length → cells2 (bs ++ [b]) (us ++ [u]) = cells2 bs us ++ [.int .u8 b.k, u]
  | [], [], _, _, _ => rfl
  | c :: bs, x :: us, b, u, h => by
    have := cells2_app (bs := bs) (us := us) b u (by simpa using h)
    simp only [List.cons_append, cells2, this]
theorem cells2_get : ∀ (bs : List Bk) (us : List Value) (i j : Nat), us.length = bs.length → i < bs.length → j < 2 → (cells2 bs us)[i * 2 + j]? = some (bkF bs us i j)
  | b :: bs, u :: us, 0, j, _, _, hj => by
    match j, hj with
    | 0, _ => rfl
    | 1, _ => rfl
  | b :: bs, u :: us, i + 1, j, h, hi, hj => by
    have := cells2_get bs us i j (by simpa using h) (by simpa using hi) hj
    rw [show (i + 1) * 2 + j = i * 2 + j + 1 + 1 by omega]
    exact this
/-- the row that a call makes of the blocks that it has read -/
def OwnK (B : Nat) (v : Value) (bs : List Bk) (w : World) : Prop :=
  ∃ us : List Value, us.length = bs.length ∧ w.ownsRow B 51 2 v bs.length (cells2 bs us) ∧ ∀ i, i < bs.length → OwnP 0 (us.getD i nilV) (bs.getD i nilB).l w
theorem OwnK.nil (B : Nat) (w : World) : OwnK B (.slice none 0 0) [] w := ⟨[], rfl, World.ownsRow_nil _ _ _ _, fun i hi => absurd hi (by simp)⟩
theorem OwnK.step {B : Nat} {v : Value} {bs : List Bk} {w w' : World} (hb : Below w.heap.size w w') (h : OwnK B v bs w) : OwnK B v bs w' := by
  obtain ⟨us, h1, h2, h3⟩ := h
  exact ⟨us, h1, ownsRow_step hb h2, fun i hi => (h3 i hi).step hb⟩
theorem OwnK.form {B : Nat} {v : Value} {bs : List Bk} {w : World} (h : OwnK B v bs w) : ∃ ao cap, v = .slice ao bs.length cap := by
  obtain ⟨us, _, h, _⟩ := h
  rcases h.2 with ⟨hv, h0⟩ | ⟨g, cap, cur, hv, _⟩
  · exact ⟨none, 0, by rw [hv, h0]⟩
  · exact ⟨_, _, hv⟩
theorem OwnK.at {B : Nat} {v : Value} {bs : List Bk} {w : World} (h : OwnK B v bs w) : BksAt w v bs := by
  obtain ⟨us, h1, h2, h3⟩ := h
  refine ⟨us, h1, ?_, fun i hi => (h3 i hi).at⟩
  have hc := h2
  rcases h2.2 with ⟨rfl, h0⟩ | ⟨g, cap, cur, rfl, hg, hh, hn, hm, _⟩
  · exact ⟨none, 0, by rw [h0], by omega, by unfold maxLen; omega, fun h => by omega⟩
  · refine ⟨some ⟨g, 0, none⟩, cap, rfl, hn, hm, fun _ => ⟨_, rfl, lt_of_block hh, fun i j hi hj => ?_⟩⟩
    exact World.ownsRow.cells hc (g := g) rfl _ _ (cells2_get bs us i j h1 hi hj)
/-- a block in its own cells -/
def BoxK (b : Nat) (k : Int) (u : Value) (wr : World) : Prop := wr.cell? ⟨b, 0, none⟩ = some (.int .u8 k) ∧ wr.cell? ⟨b, 1, none⟩ = some u ∧ b < wr.heap.size
theorem BoxK.step {b : Nat} {k : Int} {u : Value} {wr w' : World} (hb : Below wr.heap.size wr w') (h : BoxK b k u wr) : BoxK b k u w' := by
  obtain ⟨h0, h1, h3⟩ := h
  exact ⟨by rw [hb.cell (p := ⟨b, 0, none⟩) h3]; exact h0, by rw [hb.cell (p := ⟨b, 1, none⟩) h3]; exact h1, Nat.lt_of_lt_of_le h3 hb.size⟩
theorem BoxK.new (w : World) (k : Int) (u : Value) (t : TypeId) : BoxK w.heap.size k u (w.alloc (.cells #[.int .u8 k, u] t)) := by
  refine ⟨?_, ?_, ?_⟩ <;> simp
end Go.Proofs.YtnbeomclmggbiaaGreatDoor
namespace Go.Proofs.YtnbeomclmggbiaaGreatDoor
open Go Go.RowKit
set_option maxRecDepth 100000
def pcEq (x y : Pc) : Bool := decide (x.k = y.k) && decide (x.s.toList = y.s.toList) && decide (x.c = y.c)
/-- the first k pieces are equal -/
def eqP (l m : List Pc) (k : Nat) : Prop := ∀ i, i < k → pcEq (l.getD i nil) (m.getD i nil) = true
def samP (l m : List Pc) : Bool := decide (l.length = m.length) && (List.range l.length).all fun i => pcEq (l.getD i nil) (m.getD i nil)
theorem samP_len {l m : List Pc} (h : l.length ≠ m.length) : samP l m = false := by unfold samP; simp [h]
theorem samP_at {l m : List Pc} {k : Nat} (hk : k < l.length) (h : pcEq (l.getD k nil) (m.getD k nil) = false) : samP l m = false := by
  unfold samP
  have : (List.range l.length).all (fun i => pcEq (l.getD i nil) (m.getD i nil)) = false := by
    rw [List.all_eq_false]
    exact ⟨k, List.mem_range.2 hk, by rw [h]; simp⟩
  rw [this, Bool.and_false]
theorem samP_all {l m : List Pc} (hl : l.length = m.length) (h : eqP l m l.length) : samP l m = true := by
  unfold samP
  rw [decide_eq_true hl, Bool.true_and, List.all_eq_true]
  exact fun i hi => h i (List.mem_range.1 hi)
theorem pcEq_refl (x : Pc) : pcEq x x = true := by unfold pcEq; simp
theorem samP_refl (l : List Pc) : samP l l = true := samP_all rfl fun _ _ => pcEq_refl _
set_option maxHeartbeats 8000000 in
theorem samePcs_any (l m : List Pc) (u v : Value) (w : World) (hu : PcsAt w u l) (hv : PcsAt w v m) :
    Calls Tryz.prog 28 #[u, v] w fun e w' => e = .returned (.bool (samP l m)) ∧ ∃ n, w' = w.drewN n := by
  obtain ⟨p, cap, rfl, hl1, hc, hrow⟩ := hu
  obtain ⟨q, cap2, rfl, hl2, hc2, hrow2⟩ := hv
  unfold maxLen at hc hc2
  have ag := Tryz.isAgg56
  have zg := Tryz.sizeOf56
  have HR := Lib.hid hrow
  have HR2 := Lib.hid hrow2
  clear hrow hrow2
  by_cases hlen : l.length = m.length
  · have HL := Lib.hid hlen
    have HA := Lib.hid (fun h => samP_all hlen h)
    rw [← hlen]
    clear hlen
    go_enter Tryz.func28, Tryz.ntmps28
    go_wp2
    go_loopw [5] (fun i wr => ∃ k : Nat, k ≤ l.length ∧ i = .int .i64 k ∧ Hid (eqP l m k) ∧ ∃ n, wr = w.drewN n) (fun i _ => l.length - (intOf i).toNat)
    case atStart => exact ⟨0, Nat.zero_le _, rfl, fun i h => by omega, 0, rfl⟩
    case round =>
      obtain ⟨k, hk, rfl, HE, n, rfl⟩ := hrel
      obtain ⟨w1, hw1⟩ : ∃ w1, w1 = w.drewN n := ⟨_, rfl⟩
      have HW := Lib.hid hw1
      by_cases hlt : k < l.length
      · have hlt2 : k < m.length := by have := HL.out; omega
        obtain ⟨A, rfl, hA, hcell⟩ := HR.out (by omega)
        obtain ⟨A2, rfl, hA2, hcell2⟩ := HR2.out (by omega)
        have hb : Below w.heap.size w w1 := by rw [hw1]; exact ⟨rfl, rfl, rfl, Nat.le_refl _, fun _ _ => rfl⟩
        obtain ⟨x0, x1, x2⟩ := pcs_cellsB hA hcell hlt hb
        obtain ⟨z0, z1, z2⟩ := pcs_cellsB hA2 hcell2 hlt2 hb
        have HF := Lib.hid (fun h => samP_at (l := l) (m := m) (k := k) hlt h)
        have HS : Hid (pcEq (l.getD k nil) (m.getD k nil) = true → eqP l m (k + 1)) := fun h i hi => by
          rcases Nat.lt_succ_iff_lt_or_eq.1 hi with h' | rfl
          · exact HE.out i h'
          · exact h
        rw [← hw1]
        clear hcell hcell2 hw1 hb
        generalize l.getD k nil = x at *
        generalize m.getD k nil = y at *
        obtain ⟨xk, xs, xc⟩ := x
        obtain ⟨yk, ys, yc⟩ := y
        by_cases e1 : xk = yk <;> by_cases e2 : xs.toList = ys.toList <;> by_cases e3 : xc = yc
        all_goals first
          | (have HF2 := Lib.hid (HF.out (by unfold pcEq; simp [e1, e2, e3]))
             clear HF HS
             go_wp2
             go_quiet (fail)
             go_wp2
             go_ret
             exact ⟨ret_bool HF2.out.symm, n + nq, by rw [HW.out, World.drewN_drewN]⟩)
          | (have HS2 := Lib.hid (HS.out (by unfold pcEq; simp [e1, e2, e3]))
             clear HF HS
             go_wp2
             go_quiet (fail)
             go_wp2
             go_roundw
             case rel => exact ⟨k + 1, by omega, by go_num, HS2.out, n + nq, by rw [HW.out, World.drewN_drewN]⟩
             case measure => simp [intOf]; omega)
      · have hkl : k = l.length := by omega
        subst hkl
        rw [← hw1]
        clear hw1
        go_wp2
        go_ret
        exact ⟨ret_bool (HA.out HE.out).symm, n, HW.out⟩
  · have HX := Lib.hid (samP_len hlen)
    have hlI : ((l.length : Int) == (m.length : Int)) = false := by simpa using (show ((l.length : Nat) : Int) ≠ ((m.length : Nat) : Int) by omega)
    clear hlen
    go_enter Tryz.func28, Tryz.ntmps28
    go_wp2
    go_ret
    exact ⟨ret_bool HX.out.symm, 0, rfl⟩
/-- equal documents -/
def bkEq (x y : Bk) : Bool := decide (x.k = y.k) && samP x.l y.l
def eqK (bs cs : List Bk) (k : Nat) : Prop := ∀ i, i < k → bkEq (bs.getD i nilB) (cs.getD i nilB) = true
def samK (bs cs : List Bk) : Bool := decide (bs.length = cs.length) && (List.range bs.length).all fun i => bkEq (bs.getD i nilB) (cs.getD i nilB)
theorem samK_len {bs cs : List Bk} (h : bs.length ≠ cs.length) : samK bs cs = false := by unfold samK; simp [h]
theorem samK_at {bs cs : List Bk} {k : Nat} (hk : k < bs.length) (h : bkEq (bs.getD k nilB) (cs.getD k nilB) = false) : samK bs cs = false := by
  unfold samK
  have : (List.range bs.length).all (fun i => bkEq (bs.getD i nilB) (cs.getD i nilB)) = false := by
    rw [List.all_eq_false]
    exact ⟨k, List.mem_range.2 hk, by rw [h]; simp⟩
  rw [this, Bool.and_false]
theorem samK_all {bs cs : List Bk} (hl : bs.length = cs.length) (h : eqK bs cs bs.length) : samK bs cs = true := by
  unfold samK
  rw [decide_eq_true hl, Bool.true_and, List.all_eq_true]
  exact fun i hi => h i (List.mem_range.1 hi)
theorem samK_refl (bs : List Bk) : samK bs bs = true := samK_all rfl fun i _ => by unfold bkEq; rw [samP_refl]; simp
/-- the cells of one block of a list -/
theorem bks_cells {w : World} {A : Addr} {bs : List Bk} {us : List Value} {k : Nat} {wr : World} (hA : A.block < w.heap.size) (hcell : ∀ i j, i < bs.length → j < 2 → w.cell? (A.add (i * 2 + j)) = some (bkF bs us i j)) (hlt : k < bs.length) (hb : Below w.heap.size w wr) :
    wr.cell? (A.add (k * 2)) = some (.int .u8 (bs.getD k nilB).k) ∧ wr.cell? { block := (A.add (k * 2)).block, off := (A.add (k * 2)).off + 1 } = some (us.getD k nilV) := by
  have hAb : (A.add (k * 2)).block < w.heap.size := by rw [add_block]; exact hA
  refine ⟨?_, ?_⟩
  · rw [hb.cell hAb]; have := hcell k 0 hlt (by omega); simpa [bkF] using this
  · rw [hb.cell (p := { block := (A.add (k * 2)).block, off := (A.add (k * 2)).off + 1 }) hAb]; have := cell_off (by omega) (hcell k 1 hlt (by omega)); simpa [bkF] using this
theorem below_drewsS {w w' : World} (h : ∃ n, w' = w.drewN n) : Below w.heap.size w w' := by
  obtain ⟨n, rfl⟩ := h
  exact ⟨rfl, rfl, rfl, Nat.le_refl _, fun _ _ => rfl⟩
/-- a document in its own cell -/
def DBox (b : Nat) (v : Value) (w : World) : Prop := w.cell? ⟨b, 0, none⟩ = some v ∧ b < w.heap.size
theorem DBox.step {b : Nat} {v : Value} {w w' : World} (h : DBox b v w) (hb : Below w.heap.size w w') : DBox b v w' :=
  ⟨by rw [hb.cell (p := ⟨b, 0, none⟩) h.2]; exact h.1, Nat.lt_of_lt_of_le h.2 hb.size⟩
theorem DBox.two (w : World) (u v : Value) (t t' : TypeId) : DBox w.heap.size u ((w.alloc (.cells #[u] t)).alloc (.cells #[v] t')) ∧ DBox (w.heap.size + 1) v ((w.alloc (.cells #[u] t)).alloc (.cells #[v] t')) := by
  have h : DBox w.heap.size u (w.alloc (.cells #[u] t)) := ⟨by simp, by simp⟩
  refine ⟨h.step (below_box _), ?_, by simp⟩
  simp
theorem below_two (w : World) (o o' : Obj) : Below w.heap.size w ((w.alloc o).alloc o') := ((Below.refl _ _).alloc (Nat.le_refl _) _).alloc (by simp) _
theorem pcs_form {w : World} {u : Value} {l : List Pc} (h : PcsAt w u l) : ∃ ao cap, u = .slice ao l.length cap := by
  obtain ⟨p, cap, rfl, _⟩ := h
  exact ⟨p, cap, rfl⟩
set_option maxHeartbeats 8000000 in
theorem refSame_any (bs cs : List Bk) (u v : Value) (w : World) (hu : BksAt w u bs) (hv : BksAt w v cs) :
    Calls Tryz.prog 14 #[.agg #[u], .agg #[v]] w fun e w' => e = .returned (.bool (samK bs cs)) ∧ Below w.heap.size w w' := by
  obtain ⟨us, hul, ⟨p, cap, rfl, hl1, hc, hrow⟩, hup⟩ := hu
  obtain ⟨vs, hvl, ⟨q, cap2, rfl, hl2, hc2, hrow2⟩, hvp⟩ := hv
  unfold maxLen at hc hc2
  have ag := Tryz.isAgg51
  have zg := Tryz.sizeOf51
  have ag2 := Tryz.isAgg24
  have zg2 := Tryz.sizeOf24
  have HR := Lib.hid hrow
  have HR2 := Lib.hid hrow2
  have HU := Lib.hid hup
  have HV := Lib.hid hvp
  clear hrow hrow2 hup hvp
  by_cases hlen : bs.length = cs.length
  · have HL := Lib.hid hlen
    have HA := Lib.hid (fun h => samK_all hlen h)
    rw [← hlen]
    clear hlen
    go_enter Tryz.func14, Tryz.ntmps14
    go_wp2
    go_loopw [5] (fun i wr => ∃ k : Nat, k ≤ bs.length ∧ i = .int .i64 k ∧ Hid (eqK bs cs k) ∧ Hid (DBox w.heap.size (.slice p bs.length cap) wr) ∧ Hid (DBox (w.heap.size + 1) (.slice q bs.length cap2) wr) ∧ Hid (Below w.heap.size w wr)) (fun i _ => bs.length - (intOf i).toNat)
    case atStart => exact ⟨0, Nat.zero_le _, rfl, fun i h => by omega, (DBox.two w _ _ _ _).1, (DBox.two w _ _ _ _).2, below_two _ _ _⟩
    case round =>
      obtain ⟨k, hk, rfl, HE, H1, H2, HB⟩ := hrel
      have b1 := H1.out.1
      have b2 := H2.out.1
      by_cases hlt : k < bs.length
      · have hlt2 : k < cs.length := by have := HL.out; omega
        obtain ⟨A, rfl, hA, hcell⟩ := HR.out (by omega)
        obtain ⟨A2, rfl, hA2, hcell2⟩ := HR2.out (by omega)
        obtain ⟨x0, x1⟩ := bks_cells hA hcell hlt HB.out
        obtain ⟨z0, z1⟩ := bks_cells hA2 hcell2 hlt2 HB.out
        have hp1 := (HU.out k hlt)
        have hp2 := (HV.out k hlt2)
        obtain ⟨ao, ca, e1⟩ := pcs_form hp1
        obtain ⟨ao2, ca2, e2⟩ := pcs_form hp2
        rw [e1] at x1 hp1
        rw [e2] at z1 hp2
        have HF := Lib.hid (fun h => samK_at (bs := bs) (cs := cs) (k := k) hlt h)
        have HS : Hid (bkEq (bs.getD k nilB) (cs.getD k nilB) = true → eqK bs cs (k + 1)) := fun h i hi => by
          rcases Nat.lt_succ_iff_lt_or_eq.1 hi with h' | rfl
          · exact HE.out i h'
          · exact h
        have cS := fun n => samePcs_any (bs.getD k nilB).l (cs.getD k nilB).l _ _ (wr.drewN n) (hp1.step (below_next HB.out (below_drewsS ⟨n, rfl⟩))) (hp2.step (below_next HB.out (below_drewsS ⟨n, rfl⟩)))
        clear hcell hcell2 hp1 hp2 e1 e2
        generalize bs.getD k nilB = x at *
        generalize cs.getD k nilB = y at *
        obtain ⟨xk, xl⟩ := x
        obtain ⟨yk, yl⟩ := y
        simp only at x0 x1 z0 z1 cS
        by_cases e1 : xk = yk
        · generalize hsm : samP xl yl = sm at cS
          subst e1
          cases sm
          · have HF2 := Lib.hid (HF.out (by unfold bkEq; simp [hsm]))
            clear HF HS hsm
            go_wp2
            go_quiet ((go_at_call 28; refine Calls.quiet_of (cS _)))
            go_wp2
            go_ret
            exact ⟨ret_bool HF2.out.symm, below_next HB.out (below_drewsS ⟨nq, rfl⟩)⟩
          · have HS2 := Lib.hid (HS.out (by unfold bkEq; simp [hsm]))
            clear HF HS hsm
            go_wp2
            go_quiet ((go_at_call 28; refine Calls.quiet_of (cS _)))
            go_wp2
            go_roundw
            case rel => exact ⟨k + 1, by omega, by go_num, HS2.out, H1.out.step (below_drewsS ⟨nq, rfl⟩), H2.out.step (below_drewsS ⟨nq, rfl⟩), below_next HB.out (below_drewsS ⟨nq, rfl⟩)⟩
            case measure => simp [intOf]; omega
        · have HF2 := Lib.hid (HF.out (by unfold bkEq; simp [e1]))
          have hk1 : (xk == yk) = false := by simpa using e1
          clear HF HS
          go_wp2
          go_quiet (fail)
          go_wp2
          go_ret
          exact ⟨ret_bool HF2.out.symm, below_next HB.out (below_drewsS ⟨nq, rfl⟩)⟩
      · have hkl : k = bs.length := by omega
        subst hkl
        go_wp2
        go_ret
        exact ⟨ret_bool (HA.out HE.out).symm, HB.out⟩
  · have HX := Lib.hid (samK_len hlen)
    have hlI : ((bs.length : Int) == (cs.length : Int)) = false := by simpa using (show ((bs.length : Nat) : Int) ≠ ((cs.length : Nat) : Int) by omega)
    clear hlen
    go_enter Tryz.func14, Tryz.ntmps14
    go_wp2
    go_ret
    exact ⟨ret_bool HX.out.symm, below_two _ _ _⟩
end Go.Proofs.YtnbeomclmggbiaaGreatDoor
