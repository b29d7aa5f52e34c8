/- Draws: a number in which each bit of the seed has a say. Draws, by the program. Draws, by the specification. Draws of any number, by both sides. -/
import Derived.Test.YthgllfbigcoaiaaGreatDoorCkN
namespace Go.Proofs.YthgllfbigcoaiaaGreatDoor
open Go Go.RowKit Go.Lib
set_option maxRecDepth 100000
def mix1 (z : Int) : Int := IntKind.u64.wrap (bits BinOp.xor IntKind.u64 z (z / 1073741824) * 13787848793156543929)
def mix2 (z : Int) : Int := IntKind.u64.wrap (bits BinOp.xor IntKind.u64 z (z / 134217728) * 10723151780598845931)
def mix3 (z : Int) : Int := bits BinOp.xor IntKind.u64 z (z / 2147483648)
def mixI (z : Int) : Int := mix3 (mix2 (mix1 z))
set_option maxHeartbeats 4000000 in
theorem mixed_any (z : Int) (w : World) : Calls Tryz.prog 53 #[.int .u64 z] w fun e w' => e = .returned (.int .u64 (mixI z)) ∧ w' = w := by
  have H := Lib.hid (show mixI z = mix3 (mix2 (mix1 z)) from rfl)
  unfold mix3 mix2 mix1 at H
  go_enter Tryz.func53, Tryz.ntmps53
  go_wp2
  go_ret
  exact ⟨by rw [H.out]; rfl, rfl⟩
/-- the seed behind so many steps -/
def seedAt (s : Int) : Nat → Int
  | 0 => s
  | k + 1 => IntKind.u64.wrap (seedAt s k + 11400714819323198485)
/-- a row of cells of which the first ones are known -/
def RowC (w : World) (g : Nat) (t : TypeId) (n : Nat) (f : Nat → Value) : Prop := ∃ cur : Array Value, w.heap[g]? = some (.cells cur t (0, 0)) ∧ ∀ j, j < n → cur[j]? = some (f j)
theorem RowC.of {w : World} {g : Nat} {t : TypeId} {n : Nat} {f : Nat → Value} (h : RowK w g t n f) : RowC w g t n f := by
  obtain ⟨cur, h1, _, h3⟩ := h
  exact ⟨cur, h1, h3⟩
theorem RowC.own {w : World} {B g cap n : Nat} {t : TypeId} {xs : List Value} (h : w.ownsRow B t 1 (.slice (some ⟨g, 0, none⟩) n cap) n xs) : RowC w g t n (fun j => xs.getD j .nilIface) := by
  have hl := h.1
  rcases h.2 with ⟨h', _⟩ | ⟨g', cap', cur, h', _, hg, hnc, hcm, hcs, htake⟩
  · simp at h'
  · simp only [Value.slice.injEq, Option.some.injEq, Addr.mk.injEq, and_true, true_and] at h'
    obtain ⟨rfl, rfl⟩ := h'
    refine ⟨cur, hg, fun j hj => ?_⟩
    rw [Nat.mul_one] at htake hl
    rw [← Array.getElem?_toList]
    have e : (cur.toList.take n)[j]? = xs[j]? := by rw [htake]
    rw [List.getElem?_take_of_lt hj] at e
    rw [e]
    show _ = some (xs.getD j Value.nilIface)
    rw [List.getD_eq_getElem?_getD, List.getElem?_eq_getElem (by omega)]
    rfl
theorem RowC.cell {w : World} {g : Nat} {t : TypeId} {n : Nat} {f : Nat → Value} (h : RowC w g t n f) {j : Nat} (hj : j < n) : w.cell? ⟨g, j, none⟩ = some (f j) := by
  obtain ⟨cur, h1, h3⟩ := h
  simp [World.cell?, h1, h3 j hj]
theorem RowC.grown {w w' : World} {g : Nat} {t : TypeId} {n : Nat} {f : Nat → Value} {row : Option Nat} (h : RowC w g t n f) (hg : w.grownBy w' row) (hne : row ≠ some g) : RowC w' g t n f := by
  obtain ⟨cur, h1, h3⟩ := h
  exact ⟨cur, (hg.block g (lt_of_block h1) (fun e => hne e.symm)).trans h1, h3⟩
end Go.Proofs.YthgllfbigcoaiaaGreatDoor
namespace Go.Proofs.YthgllfbigcoaiaaGreatDoor
open Go Go.RowKit Go.Lib
set_option maxRecDepth 100000
set_option maxHeartbeats 1000000 in
theorem made_n (n : Nat) (hn : n ≤ 1000) (w : World) :
    (Instr.makeSlice 46 (.int .i64 (n : Int)) (.int .i64 (n : Int))).run Tryz.prog w = .ok (.slice (some ⟨w.heap.size, 0, none⟩) n n) (w.alloc (.cells (madeCells #[.int .i64 0] n) 3)) := by
  obtain ⟨i, h1, h2, h3, h4⟩ := info_parts (show (Tryz.prog.info? 3).map (fun i => (i.zero, i.size, i.bytes)) = some (some (.int .i64 0), 1, 8) by kernel_rfl)
  have hb : i.bytes * n ≤ 8 * 1000 := Nat.mul_le_mul (by omega) hn
  have hbi : (i.bytes : Int) * (n : Int) ≤ 281474976710656 := by
    have e : ((i.bytes * n : Nat) : Int) = (i.bytes : Int) * (n : Int) := by push_cast; rfl
    omega
  have hr := run_make (P := Tryz.prog) w 46 3 i _ Tryz.underlying46 h1 h2 .i64 .i64 (n : Int) (n : Int) (by omega) (Int.le_refl _) hbi (by omega)
  rw [h3, Nat.mul_one, Int.toNat_natCast] at hr
  exact hr
/-- the number of a draw -/
def drawD (s : Int) (n i j : Nat) : Int := wrap64 ((mixI (seedAt s (i * n + j + 1))).tmod (n : Int))
/-- draws in a row of the call's own -/
def Drawn (B : Nat) (w : World) (out : Value) (k n : Nat) (D : Nat → Nat → Int) : Prop := ∃ Vs : List Value, Vs.length = k ∧ w.ownsRow B 46 1 out k Vs ∧ ∀ i, i < k → ∃ g c, Vs[i]? = some (.slice (some ⟨g, 0, none⟩) n c) ∧ RowC w g 3 n (fun j => .int .i64 (D i j)) ∧ n ≤ c ∧ c ≤ maxLen
theorem RowC.step {w w' : World} {g : Nat} {t : TypeId} {n : Nat} {f : Nat → Value} (hb : Below w.heap.size w w') (h : RowC w g t n f) : RowC w' g t n f := by
  obtain ⟨cur, h1, h3⟩ := h
  exact ⟨cur, (hb.block g (lt_of_block h1)).trans h1, h3⟩
theorem Drawn.step {B : Nat} {w w' : World} {out : Value} {k n : Nat} {D : Nat → Nat → Int} (hb : Below w.heap.size w w') (h : Drawn B w out k n D) : Drawn B w' out k n D := by
  obtain ⟨Vs, h1, h2, h3⟩ := h
  refine ⟨Vs, h1, ownsRow_step hb h2, fun i hi => ?_⟩
  obtain ⟨g, c, e, hr, hc⟩ := h3 i hi
  exact ⟨g, c, e, hr.step hb, hc⟩
theorem Drawn.new (B : Nat) (w : World) (n : Nat) (D : Nat → Nat → Int) : Drawn B w (.slice none 0 0) 0 n D := ⟨[], rfl, World.ownsRow_nil _ _ _ _, fun i h => absurd h (Nat.not_lt_zero i)⟩
theorem Drawn.form {B : Nat} {w : World} {out : Value} {k n : Nat} {D : Nat → Nat → Int} (h : Drawn B w out k n D) : ∃ ao cap, out = .slice ao k cap := by
  obtain ⟨Vs, h1, h2, _⟩ := h
  rcases h2.2 with ⟨hv, h0⟩ | ⟨g, cap, cur, hv, _⟩
  · exact ⟨none, 0, by rw [hv, h0]⟩
  · exact ⟨_, _, hv⟩
/-- one more draw is put behind -/
theorem Drawn.more {B : Nat} {w w' : World} {out out' : Value} {k n g c : Nat} {D : Nat → Nat → Int} {Vs : List Value} (h1 : Vs.length = k) (h2 : w.ownsRow B 46 1 out k Vs)
    (h3 : ∀ i, i < k → ∃ g c, Vs[i]? = some (.slice (some ⟨g, 0, none⟩) n c) ∧ RowC w g 3 n (fun j => .int .i64 (D i j)) ∧ n ≤ c ∧ c ≤ maxLen)
    (hr : RowC w g 3 n (fun j => .int .i64 (D k j))) (hc : n ≤ c ∧ c ≤ maxLen)
    (ho : w'.ownsRow B 46 1 out' (k + 1) (Vs ++ [.slice (some ⟨g, 0, none⟩) n c])) (hg : w.grownBy w' out.ownBlock) : Drawn B w' out' (k + 1) n D := by
  have hne : ∀ q, (∃ f, RowC w q 3 n f) → out.ownBlock ≠ some q := by
    rintro q ⟨f, cur, hq, _⟩ e
    rcases h2.2 with ⟨rfl, _⟩ | ⟨g', cap', cur', rfl, _, hg', _⟩
    · simp [Value.ownBlock] at e
    · simp only [Value.ownBlock, Option.some.injEq] at e
      subst e
      rw [hg'] at hq
      simp at hq
  refine ⟨_, by rw [List.length_append, h1]; rfl, ho, fun i hi => ?_⟩
  rcases Nat.lt_succ_iff_lt_or_eq.1 hi with h | h
  · obtain ⟨q, c2, e, hq, hc2⟩ := h3 i h
    exact ⟨q, c2, by rw [List.getElem?_append_left (by omega)]; exact e, hq.grown hg (hne q ⟨_, hq⟩), hc2⟩
  · subst h
    exact ⟨g, c, by rw [List.getElem?_append_right (by omega), h1, Nat.sub_self]; rfl, hr.grown hg (hne g ⟨_, hr⟩), hc⟩
theorem info_ints : (Tryz.prog.info? 46).map (fun i => (i.zero, i.size, i.bytes)) = some (some (.slice none 0 0), 1, 24) := by kernel_rfl
set_option maxHeartbeats 8000000 in
theorem draws_main (s : Int) (n m : Nat) (w : World) (h1 : 1 ≤ n) (hn : n ≤ 256) (hm : m ≤ 1000) : Calls Tryz.prog 22 #[.int .u64 s, .int .i64 n, .int .i64 m] w fun e w' => (∃ out, e = .returned (.tuple #[out, .int .u8 0]) ∧ Drawn w.heap.size w' out m n (drawD s n)) ∧ Below w.heap.size w w' := by
  obtain ⟨i0, hi, hz0, hz1, hz2⟩ := info_parts info_ints
  have hmk := made_n n (by omega)
  have i1 : ¬ (n : Int) < 1 := by omega
  have i2 : ¬ (256 : Int) < (n : Int) := by omega
  have i3 : ¬ (m : Int) < 0 := by omega
  have i4 : ¬ (1000 : Int) < (m : Int) := by omega
  go_enter Tryz.func22, Tryz.ntmps22
  go_wp2
  go_loopw [0, 8, 9, 10, 26, 32] (fun sv out _ _ kv _ wr => ∃ k : Nat, kv = .int .i64 k ∧ sv = .int .u64 (seedAt s (k * n)) ∧ k ≤ m ∧ Hid (Drawn w.heap.size wr out k n (drawD s n)) ∧ Hid (Below w.heap.size w wr)) (fun _ _ _ _ kv _ _ => m - (RowKit.intOf kv).toNat)
  case atStart => exact ⟨0, rfl, by rw [Nat.zero_mul]; rfl, Nat.zero_le _, Drawn.new _ _ _ _, Below.refl _ _⟩
  case round =>
    obtain ⟨k, rfl, rfl, hk, HD, HB⟩ := hrel
    obtain ⟨ao, cpo, rfl⟩ := HD.out.form
    by_cases hlt : k < m
    · have hki : (k : Int) < (m : Int) := by omega
      go_wp2
      obtain ⟨wo, hwo⟩ : ∃ wo, wo = wr := ⟨_, rfl⟩
      subst hwo
      have hR0 : Hid (RowK (wo.alloc (.cells (madeCells #[.int .i64 0] n) 3)) wo.heap.size 3 n (fun q => .int .i64 (if q < 0 then drawD s n k q else 0))) := RowK.make wo (.int .i64 0) n 3
      have hB0 : Hid (Below wo.heap.size wo (wo.alloc (.cells (madeCells #[.int .i64 0] n) 3))) := below_box _
      go_loopw [0, 10, 32] (fun sv _ jv wj => ∃ j : Nat, jv = .int .i64 j ∧ sv = .int .u64 (seedAt s (k * n + j)) ∧ j ≤ n ∧ Hid (Below wo.heap.size wo wj) ∧ Hid (RowK wj wo.heap.size 3 n (fun q => .int .i64 (if q < j then drawD s n k q else 0)))) (fun _ _ jv _ => n - (RowKit.intOf jv).toNat)
      case atStart => exact ⟨0, rfl, rfl, Nat.zero_le _, hB0.out, hR0.out⟩
      case round =>
        obtain ⟨j, rfl, rfl, hj, HBW, HR⟩ := hrel
        clear hR0 hB0
        by_cases hlt2 : j < n
        · have hji : (j : Int) < (n : Int) := by omega
          have c0 := HR.out.cell hlt2
          have f0 := HR.out.frozen j
          have HR2 := Lib.hid (HR.out.set j (.int .i64 (drawD s n k j)) (fun q => .int .i64 (if q < j + 1 then drawD s n k q else 0)) (fun q _ => by
            by_cases e : q = j
            · subst e; simp
            · simp only [if_neg e]
              by_cases e2 : q < j
              · rw [if_pos (by omega), if_pos e2]
              · rw [if_neg (by omega), if_neg e2]))
          go_wp2_with (go_at_call 53; (with_reducible refine (mixed_any _ _).mono ?_); rintro e ww ⟨rfl, rfl⟩)
          go_roundw
          case rel => exact ⟨j + 1, by go_num, rfl, hlt2, below_set HBW.out (Nat.le_refl _) _, HR2.out⟩
          case measure => simp [RowKit.intOf] <;> omega
        · have hji : ¬ (j : Int) < (n : Int) := by omega
          have hjn : j = n := by omega
          have hD := HD.out.step HBW.out
          obtain ⟨Vs, hv1, hv2, hv3⟩ := hD
          have HV2 := Lib.hid hv2
          have HV3 := Lib.hid hv3
          have hr : RowC wr wo.heap.size 3 n (fun q => .int .i64 (drawD s n k q)) := by
            obtain ⟨cur, a1, a2⟩ := RowC.of HR.out
            exact ⟨cur, a1, fun q hq => by rw [a2 q hq]; simp only [if_pos (show q < j by omega)]⟩
          have HRR := Lib.hid hr
          have hszw := HB.out.size
          have hszr := HBW.out.size
          clear hv2 hv3 hr HR HD
          subst hjn
          go_wp2_with (first
          | (at_builtin; refine wpList_append_own _ rfl _ _ 43 rfl w.heap.size 46 i0 (.slice none 0 0) 1 24 Tryz.underlying43 hi hz0 hz1 hz2 rfl (by decide) _ _ _ rfl (HV2.out.alloc _) ⟨wr.heap.size, 0, none⟩ 1 1 [.slice (some ⟨wo.heap.size, 0, none⟩) j j] rfl rfl (cell_new1 _ _ _) (fun x hx => by simp at hx; subst hx; rfl) (by unfold maxLen; omega) (by omega) (by simp; omega) ?_; intro v3 w3 hown3 hgrow3 hnil3
             have HB3 := Lib.hid (((below_next HB.out HBW.out).alloc (Nat.le_trans hszw hszr) (.cells #[.slice (some ⟨wo.heap.size, 0, none⟩) j j] 46)).grown hgrow3 (by simp; omega) (fun q hq => (HV2.out.lt q hq).1))
             have HD3 : Hid (Drawn w.heap.size w3 v3 (k + 1) j (drawD s j)) := Drawn.more hv1 (HV2.out.alloc _) (fun i hi => (by
               obtain ⟨g, c, e, hq, hc⟩ := HV3.out i hi
               exact ⟨g, c, e, hq.step (below_box _), hc⟩)) (HRR.out.step (below_box _)) ⟨Nat.le_refl _, by unfold maxLen; omega⟩ hown3 hgrow3
             obtain ⟨ao3, cap3, rfl⟩ := HD3.out.form
             clear hown3 hgrow3 hnil3))
          go_roundw
          case rel => exact ⟨k + 1, by go_num, by rw [Nat.succ_mul], hlt, HD3.out, HB3.out⟩
          case measure => simp [RowKit.intOf] <;> omega
    · have hki : ¬ (k : Int) < (m : Int) := by omega
      obtain rfl : k = m := by omega
      go_wp2
      go_ret2
      exact ⟨⟨_, rfl, HD.out⟩, HB.out⟩
end Go.Proofs.YthgllfbigcoaiaaGreatDoor
namespace Go.Proofs.YthgllfbigcoaiaaGreatDoor
open Go Go.RowKit Go.Lib
set_option maxRecDepth 100000
theorem info_int : (Tryz.prog.info? 3).map (fun i => (i.zero, i.size, i.bytes)) = some (some (.int .i64 0), 1, 8) := by kernel_rfl
theorem own_row {w : World} {B n : Nat} {t : TypeId} {v : Value} {xs : List Value} (h : w.ownsRow B t 1 v n xs) (hn : 1 ≤ n) : ∃ g c, v = .slice (some ⟨g, 0, none⟩) n c ∧ RowC w g t n (fun j => xs.getD j .nilIface) ∧ n ≤ c ∧ c ≤ maxLen := by
  have h0 := h
  rcases h.2 with ⟨_, h'⟩ | ⟨g, cap, cur, rfl, _, _, hnc, hcm, _⟩
  · omega
  · exact ⟨g, cap, rfl, RowC.own h0, hnc, hcm⟩
theorem own_form {w : World} {B n : Nat} {t : TypeId} {v : Value} {xs : List Value} (h : w.ownsRow B t 1 v n xs) : ∃ ao c, v = .slice ao n c := by
  rcases h.2 with ⟨hv, h0⟩ | ⟨g, cap, cur, hv, _⟩
  · exact ⟨none, 0, by rw [hv, h0]⟩
  · exact ⟨_, _, hv⟩
set_option maxHeartbeats 16000000 in
theorem refDraws_main (s : Int) (n m : Nat) (w : World) (h1 : 1 ≤ n) (hn : n ≤ 256) (hm : m ≤ 1000) : Calls Tryz.prog 23 #[.int .u64 s, .int .i64 n, .int .i64 m] w fun e w' => (∃ out, e = .returned (.tuple #[out, .int .u8 0]) ∧ Drawn w.heap.size w' out m n (drawD s n)) ∧ Below w.heap.size w w' := by
  obtain ⟨i0, hi, hz0, hz1, hz2⟩ := info_parts info_ints
  obtain ⟨i5, hj0, hy0, hy1, hy2⟩ := info_parts info_int
  have i1 : ¬ (n : Int) < 1 := by omega
  have i2 : ¬ (256 : Int) < (n : Int) := by omega
  have i3 : ¬ (m : Int) < 0 := by omega
  have i4 : ¬ (1000 : Int) < (m : Int) := by omega
  go_enter Tryz.func23, Tryz.ntmps23
  go_wp2
  go_loopw [0, 8, 9, 10, 11, 12] (fun sv out kv _ _ _ wr => ∃ k : Nat, kv = .int .i64 k ∧ sv = .int .u64 (seedAt s (k * n)) ∧ k ≤ m ∧ Hid (Drawn w.heap.size wr out k n (drawD s n)) ∧ Hid (Below w.heap.size w wr)) (fun _ _ kv _ _ _ _ => m - (RowKit.intOf kv).toNat)
  case atStart => exact ⟨0, rfl, by rw [Nat.zero_mul]; rfl, Nat.zero_le _, Drawn.new _ _ _ _, Below.refl _ _⟩
  case round =>
    obtain ⟨k, rfl, rfl, hk, HD, HB⟩ := hrel
    obtain ⟨ao, cpo, rfl⟩ := HD.out.form
    by_cases hlt : k < m
    · have hki : (k : Int) < (m : Int) := by omega
      go_wp2
      obtain ⟨wo, hwo⟩ : ∃ wo, wo = wr := ⟨_, rfl⟩
      subst hwo
      go_loopw [0, 10, 11, 12] (fun sv lv jv _ wj => ∃ j : Nat, jv = .int .i64 j ∧ sv = .int .u64 (seedAt s (k * n + j)) ∧ j ≤ n ∧ Hid (Below wo.heap.size wo wj) ∧ Hid (wj.ownsRow wo.heap.size 3 1 lv j ((List.range j).map fun q => Value.int .i64 (drawD s n k q)))) (fun _ _ jv _ _ => n - (RowKit.intOf jv).toNat)
      case atStart => exact ⟨0, rfl, rfl, Nat.zero_le _, Below.refl _ _, World.ownsRow_nil _ _ _ _⟩
      case round =>
        obtain ⟨j, rfl, rfl, hj, HBW, HR⟩ := hrel
        obtain ⟨al, cl, rfl⟩ := own_form HR.out
        have hszr := HBW.out.size
        by_cases hlt2 : j < n
        · have hji : (j : Int) < (n : Int) := by omega
          have HDD := Lib.hid (show drawD s n k j = wrap64 ((mix3 (mix2 (mix1 (seedAt s (k * n + j + 1))))).tmod (n : Int)) from rfl)
          unfold mix3 mix2 mix1 at HDD
          have hsd : seedAt s (k * n + j + 1) = IntKind.u64.wrap (seedAt s (k * n + j) + 11400714819323198485) := rfl
          rw [hsd] at HDD
          have HSD := Lib.hid hsd
          clear hsd
          generalize seedAt s (k * n + j) = sd at *
          go_wp2_with (first
          | (at_builtin; refine wpList_append_own _ rfl _ _ 46 rfl wo.heap.size 3 i5 (.int .i64 0) 1 8 Tryz.underlying46 hj0 hy0 hy1 hy2 rfl (by decide) _ _ _ rfl (HR.out.alloc _) ⟨wr.heap.size, 0, none⟩ 1 1 [_] rfl rfl (cell_new1 _ _ _) (fun x hx => by simp at hx; subst hx; rfl) (by unfold maxLen; omega) (by omega) (by simp; omega) ?_; intro v3 w3 hown3 hgrow3 hnil3
             have HB3 := Lib.hid ((HBW.out.alloc hszr (.cells #[_] 3)).grown hgrow3 (by simp; omega) (fun q hq => (HR.out.lt q hq).1))
             rw [← HDD.out] at hown3
             have HR3 : Hid (w3.ownsRow wo.heap.size 3 1 v3 (j + 1) ((List.range (j + 1)).map fun q => Value.int .i64 (drawD s n k q))) := by show World.ownsRow _ _ _ _ _ _ _; rw [List.range_succ, List.map_append]; exact hown3
             obtain ⟨al3, cl3, rfl⟩ := own_form HR3.out
             clear hown3 hgrow3 hnil3))
          go_roundw
          case rel => exact ⟨j + 1, by go_num, by rw [← Nat.add_assoc, HSD.out], hlt2, HB3.out, HR3.out⟩
          case measure => simp [RowKit.intOf] <;> omega
        · have hji : ¬ (j : Int) < (n : Int) := by omega
          have hjn : j = n := by omega
          subst hjn
          have hD := HD.out.step HBW.out
          obtain ⟨Vs, hv1, hv2, hv3⟩ := hD
          have HV2 := Lib.hid hv2
          have HV3 := Lib.hid hv3
          obtain ⟨g, c, hv, hr, hnc, hcm⟩ := own_row HR.out h1
          obtain ⟨rfl, rfl⟩ : al = some ⟨g, 0, none⟩ ∧ cl = c := by simpa using hv
          have HRR : Hid (RowC wr g 3 j (fun q => .int .i64 (drawD s j k q))) := by
            obtain ⟨cur, a1, a2⟩ := hr
            refine ⟨cur, a1, fun q hq => ?_⟩
            rw [a2 q hq]
            show some (((List.range j).map fun q => Value.int .i64 (drawD s j k q)).getD q .nilIface) = _
            rw [List.getD_eq_getElem?_getD, List.getElem?_map, List.getElem?_range hq]
            rfl
          have hszw := HB.out.size
          have HCC := Lib.hid (And.intro hnc hcm)
          clear hv2 hv3 hr HR HD hv hnc hcm
          go_wp2_with (first
          | (at_builtin; refine wpList_append_own _ rfl _ _ 43 rfl w.heap.size 46 i0 (.slice none 0 0) 1 24 Tryz.underlying43 hi hz0 hz1 hz2 rfl (by decide) _ _ _ rfl (HV2.out.alloc _) ⟨wr.heap.size, 0, none⟩ 1 1 [.slice (some ⟨g, 0, none⟩) j cl] rfl rfl (cell_new1 _ _ _) (fun x hx => by simp at hx; subst hx; rfl) (by unfold maxLen; omega) (by omega) (by simp; omega) ?_; intro v3 w3 hown3 hgrow3 hnil3
             have HB3 := Lib.hid (((below_next HB.out HBW.out).alloc (Nat.le_trans hszw hszr) (.cells #[.slice (some ⟨g, 0, none⟩) j cl] 46)).grown hgrow3 (by simp; omega) (fun q hq => (HV2.out.lt q hq).1))
             have HD3 : Hid (Drawn w.heap.size w3 v3 (k + 1) j (drawD s j)) := Drawn.more hv1 (HV2.out.alloc _) (fun i hi => (by
               obtain ⟨g, c, e, hq, hc⟩ := HV3.out i hi
               exact ⟨g, c, e, hq.step (below_box _), hc⟩)) (HRR.out.step (below_box _)) HCC.out hown3 hgrow3
             obtain ⟨ao3, cap3, rfl⟩ := HD3.out.form
             clear hown3 hgrow3 hnil3))
          go_roundw
          case rel => exact ⟨k + 1, by go_num, by rw [Nat.succ_mul], hlt, HD3.out, HB3.out⟩
          case measure => simp [RowKit.intOf] <;> omega
    · have hki : ¬ (k : Int) < (m : Int) := by omega
      obtain rfl : k = m := by omega
      go_wp2
      go_ret2
      exact ⟨⟨_, rfl, HD.out⟩, HB.out⟩
end Go.Proofs.YthgllfbigcoaiaaGreatDoor
namespace Go.Proofs.YthgllfbigcoaiaaGreatDoor
open Go Go.RowKit Go.Lib
set_option maxRecDepth 100000
/-- numbers for which there are no draws -/
def BadD (n m : Int) : Prop := n < 1 ∨ 256 < n ∨ m < 0 ∨ 1000 < m
instance (n m : Int) : Decidable (BadD n m) := inferInstanceAs (Decidable (_ ∨ _))
def drE (n m : Int) : Int := if BadD n m then 1 else 0
def drK (n m : Int) : Nat := if BadD n m then 0 else m.toNat
set_option maxHeartbeats 8000000 in
theorem draws_any (s n m : Int) (w : World) : Calls Tryz.prog 22 #[.int .u64 s, .int .i64 n, .int .i64 m] w fun e w' => (∃ out, e = .returned (.tuple #[out, .int .u8 (drE n m)]) ∧ Drawn w.heap.size w' out (drK n m) n.toNat (drawD s n.toNat)) ∧ Below w.heap.size w w' := by
  by_cases h : BadD n m
  · have h' := h
    have hE : drE n m = 1 := by unfold drE; rw [if_pos h]
    have hK : drK n m = 0 := by unfold drK; rw [if_pos h]
    rw [hE, hK]
    clear hE hK h
    by_cases i1 : n < 1 <;> by_cases i2 : 256 < n <;> by_cases i3 : m < 0 <;> by_cases i4 : 1000 < m
    all_goals first
      | (exfalso; omega)
      | (exfalso; unfold BadD at h'; omega)
      | (go_enter Tryz.func22, Tryz.ntmps22
         go_wp2
         go_ret2
         exact ⟨⟨_, rfl, Drawn.new _ _ _ _⟩, Below.refl _ _⟩)
  · have hE : drE n m = 0 := by unfold drE; rw [if_neg h]
    have hK : drK n m = m.toNat := by unfold drK; rw [if_neg h]
    rw [hE, hK]
    unfold BadD at h
    obtain ⟨N, rfl⟩ : ∃ N : Nat, n = N := ⟨n.toNat, by omega⟩
    obtain ⟨M, rfl⟩ : ∃ M : Nat, m = M := ⟨m.toNat, by omega⟩
    rw [Int.toNat_natCast, Int.toNat_natCast]
    exact draws_main s N M w (by omega) (by omega) (by omega)
set_option maxHeartbeats 8000000 in
theorem refDraws_any (s n m : Int) (w : World) : Calls Tryz.prog 23 #[.int .u64 s, .int .i64 n, .int .i64 m] w fun e w' => (∃ out, e = .returned (.tuple #[out, .int .u8 (drE n m)]) ∧ Drawn w.heap.size w' out (drK n m) n.toNat (drawD s n.toNat)) ∧ Below w.heap.size w w' := by
  by_cases h : BadD n m
  · have h' := h
    have hE : drE n m = 1 := by unfold drE; rw [if_pos h]
    have hK : drK n m = 0 := by unfold drK; rw [if_pos h]
    rw [hE, hK]
    clear hE hK h
    by_cases i1 : n < 1 <;> by_cases i2 : 256 < n <;> by_cases i3 : m < 0 <;> by_cases i4 : 1000 < m
    all_goals first
      | (exfalso; omega)
      | (exfalso; unfold BadD at h'; omega)
      | (go_enter Tryz.func23, Tryz.ntmps23
         go_wp2
         go_ret2
         exact ⟨⟨_, rfl, Drawn.new _ _ _ _⟩, Below.refl _ _⟩)
  · have hE : drE n m = 0 := by unfold drE; rw [if_neg h]
    have hK : drK n m = m.toNat := by unfold drK; rw [if_neg h]
    rw [hE, hK]
    unfold BadD at h
    obtain ⟨N, rfl⟩ : ∃ N : Nat, n = N := ⟨n.toNat, by omega⟩
    obtain ⟨M, rfl⟩ : ∃ M : Nat, m = M := ⟨m.toNat, by omega⟩
    rw [Int.toNat_natCast, Int.toNat_natCast]
    exact refDraws_main s N M w (by omega) (by omega) (by omega)
end Go.Proofs.YthgllfbigcoaiaaGreatDoor
