/- Whether there is a break at a place, by the specification. Breaks and Fits, by the specification. Fits, by the specification. The guard on rules; two lists of numbers compared. The law DocsBreaks over any rules and any list, given that the layer's examples hold. -/
import Derived.Test.YtnkpjkomokkhcaaGreatDoorBsB
import Derived.Test.YtnkpjkomokkhcaaGreatDoorDqA
namespace Go.Proofs.YtnkpjkomokkhcaaGreatDoor
open Go Go.RowKit Go.Lib
set_option maxRecDepth 100000
theorem brk_step {R : List Rl} {L : List Un} {p k : Nat} (h : k < R.length) : rlBreak (R.drop k) L p = if rlFits (R.getD k nilR) L p = true then (R.getD k nilR).k else rlBreak (R.drop (k + 1)) L p := by
  rw [List.drop_eq_getElem_cons h, List.getD_eq_getElem?_getD, List.getElem?_eq_getElem h]
  rfl
theorem items_w (s : ByteArray) : ftW (items s) ≤ s.size := Nat.le_trans (ftW_le _) (items_len s)
set_option maxHeartbeats 32000000 in
theorem sBreak_any (R : List Rl) (L : List Un) (v vu : Value) (p : Nat) (w : World) (hv : RulesAt w v R) (hz : ∀ x ∈ R, x.b.size ≤ 100000 ∧ x.a.size ≤ 100000) (hU : SuAt w vu L) (hp : p ≤ L.length) (hm : L.length ≤ 1000000) :
    Calls Tryz.prog 58 #[v, vu, .int .i64 (p : Int)] w fun e w' => e = .returned (.bool (rlBreak R L p)) ∧ Below w.heap.size w w' := by
  have ar := Tryz.isAgg47
  have zr := Tryz.sizeOf47
  have HV := Lib.hid hv
  have HU := Lib.hid hU
  have HZ := Lib.hid hz
  obtain ⟨q, cap, rfl, hl, hc, hrow⟩ := hv
  obtain ⟨qu, capu, rfl, hlu, hcu⟩ := hU.form
  unfold maxLen at hc hcu
  clear hrow hU hz
  have hp0 : (0 : Int) ≤ (p : Int) := by omega
  go_enter Tryz.func58, Tryz.ntmps58
  go_wp2
  go_loopw [7] (fun i wr => ∃ k : Nat, i = .int .i64 k ∧ k ≤ R.length ∧ Hid (rlBreak R L p = rlBreak (R.drop k) L p) ∧ Hid (Below w.heap.size w wr)) (fun i _ => R.length - (RowKit.intOf i).toNat)
  case atStart => exact ⟨0, rfl, Nat.zero_le _, rfl, Below.refl _ _⟩
  case round =>
    obtain ⟨k, rfl, hk, HS, HB⟩ := hrel
    by_cases hlt : k < R.length
    · have hki : (k : Int) < (R.length : Int) := by omega
      have hk0 : (0 : Int) ≤ (k : Int) := by omega
      obtain ⟨A, rfl, x0, x1, x2⟩ := (HV.out.step HB.out).get hlt
      have hA : A.block < wr.heap.size := by have := World.block_lt_of_cell? wr _ x0; rwa [add_block] at this
      have hAk : (A.add (k * 3)).block < wr.heap.size := by rw [add_block]; exact hA
      have hsz := HZ.out (R.getD k nilR) (by rw [List.getD_eq_getElem?_getD, List.getElem?_eq_getElem hlt]; exact List.getElem_mem hlt)
      have HST := Lib.hid (HS.out.trans (brk_step hlt))
      clear HS
      generalize R.getD k nilR = x at *
      obtain ⟨xb, xa, xk⟩ := x
      dsimp only at x0 x1 x2 hsz
      have cF1 := sFits_any xb wr hsz.1
      have cF2 := fun w' => sFits_any xa w' hsz.2
      have hw1 : ftW (items xb) ≤ 100000 := Nat.le_trans (items_w xb) hsz.1
      have hi1 : (items xb).length ≤ 100000 := Nat.le_trans (items_len xb) hsz.1
      have hi2 : (items xa).length ≤ 100000 := Nat.le_trans (items_len xa) hsz.2
      unfold FtsEnd at cF1 cF2
      have HRF := Lib.hid (show rlFits ⟨xb, xa, xk⟩ L p = (decide (ftW (items xb) ≤ p) && behB L (p - ftW (items xb)) (items xb) && behB L p (items xa)) from rfl)
      generalize items xb = X at *
      generalize items xa = Y at *
      generalize (patOf xb).isSome = o1 at *
      generalize (patOf xa).isSome = o2 at *
      have cW := fun v w' (h : FsAt w' v X) => width_any X v w' h hi1
      have cB1 := fun v vx w' hu hx => sBehind_any L X v vx (p - ftW X) w' hu hx (by omega) hm hi1
      have cB2 := fun v vx w' hu hx => sBehind_any L Y v vx p w' hu hx hp hm hi2
      by_cases hpw : ftW X ≤ p
      · have hpI : ((ftW X : Nat) : Int) ≤ (p : Int) := by omega
        have hq : IntKind.i64.wrap ((p : Int) - ((ftW X : Nat) : Int)) = ((p - ftW X : Nat) : Int) := by rw [IntKind.wrap_i64]; omega
        rw [show decide (ftW X ≤ p) = true by simpa using hpw] at HRF
        generalize p - ftW X = d at *
        generalize ftW X = n at *
        generalize behB L d X = b1 at *
        generalize behB L p Y = b2 at *
        cases b1
        · have HN := Lib.hid (HST.out.trans (if_neg (by rw [HRF.out]; simp)))
          go_wp2_with (first
          | (go_at_call 54; (with_reducible refine cF1.mono ?_); rintro e w3 ⟨⟨u3, rfl, hu3⟩, hb3⟩; obtain ⟨pu3, cu3, rfl, _, _⟩ := hu3.form; have HX3 := Lib.hid hu3; have HB3 := Lib.hid (below_next HB.out hb3); have z1 := (hb3.cell (p := { block := (A.add (k * 3)).block, off := (A.add (k * 3)).off + 1 }) hAk).trans x1; have z2 := (hb3.cell (p := { block := (A.add (k * 3)).block, off := (A.add (k * 3)).off + 2 }) hAk).trans x2; have hAk3 : (A.add (k * 3)).block < w3.heap.size := Nat.lt_of_lt_of_le hAk hb3.size; clear hb3 hu3)
          | (go_at_call 54; (with_reducible refine (cF2 _).mono ?_); rintro e w4 ⟨⟨u4, rfl, hu4⟩, hb4⟩; obtain ⟨pu4, cu4, rfl, _, _⟩ := hu4.form; have HY4 := Lib.hid hu4; have HX4 := Lib.hid (HX3.out.step hb4); have HB4 := Lib.hid (below_next HB3.out hb4); have HU4 := Lib.hid (HU.out.step HB4.out); have z3 := (hb4.cell (p := { block := (A.add (k * 3)).block, off := (A.add (k * 3)).off + 2 }) hAk3).trans z2; have hAk4 : (A.add (k * 3)).block < w4.heap.size := Nat.lt_of_lt_of_le hAk3 hb4.size; clear hb4 hu4)
          | (go_at_call 59; (with_reducible refine (cW _ _ HX4.out).mono ?_); rintro e w5 ⟨rfl, rfl⟩)
          | (go_at_call 60; (with_reducible refine (cB1 _ _ _ HU4.out HX4.out).mono ?_); rintro e w6 ⟨rfl, hb6⟩; have HY6 := Lib.hid (HY4.out.step hb6); have HU6 := Lib.hid (HU4.out.step hb6); have HB6 := Lib.hid (below_next HB4.out hb6); have z4 := (hb6.cell (p := { block := (A.add (k * 3)).block, off := (A.add (k * 3)).off + 2 }) hAk4).trans z3; have hAk6 : (A.add (k * 3)).block < w6.heap.size := Nat.lt_of_lt_of_le hAk4 hb6.size; clear hb6)
          | (go_at_call 60; (with_reducible refine (cB2 _ _ _ HU6.out HY6.out).mono ?_); rintro e w7 ⟨rfl, hb7⟩; have HB7 := Lib.hid (below_next HB6.out hb7); have z5 := (hb7.cell (p := { block := (A.add (k * 3)).block, off := (A.add (k * 3)).off + 2 }) hAk6).trans z4; clear hb7))
          go_roundw
          case rel => exact ⟨k + 1, by go_num, by omega, HN.out, HB6.out⟩
          case measure => simp [RowKit.intOf]; omega
        · cases b2
          · have HN := Lib.hid (HST.out.trans (if_neg (by rw [HRF.out]; decide)))
            go_wp2_with (first
          | (go_at_call 54; (with_reducible refine cF1.mono ?_); rintro e w3 ⟨⟨u3, rfl, hu3⟩, hb3⟩; obtain ⟨pu3, cu3, rfl, _, _⟩ := hu3.form; have HX3 := Lib.hid hu3; have HB3 := Lib.hid (below_next HB.out hb3); have z1 := (hb3.cell (p := { block := (A.add (k * 3)).block, off := (A.add (k * 3)).off + 1 }) hAk).trans x1; have z2 := (hb3.cell (p := { block := (A.add (k * 3)).block, off := (A.add (k * 3)).off + 2 }) hAk).trans x2; have hAk3 : (A.add (k * 3)).block < w3.heap.size := Nat.lt_of_lt_of_le hAk hb3.size; clear hb3 hu3)
          | (go_at_call 54; (with_reducible refine (cF2 _).mono ?_); rintro e w4 ⟨⟨u4, rfl, hu4⟩, hb4⟩; obtain ⟨pu4, cu4, rfl, _, _⟩ := hu4.form; have HY4 := Lib.hid hu4; have HX4 := Lib.hid (HX3.out.step hb4); have HB4 := Lib.hid (below_next HB3.out hb4); have HU4 := Lib.hid (HU.out.step HB4.out); have z3 := (hb4.cell (p := { block := (A.add (k * 3)).block, off := (A.add (k * 3)).off + 2 }) hAk3).trans z2; have hAk4 : (A.add (k * 3)).block < w4.heap.size := Nat.lt_of_lt_of_le hAk3 hb4.size; clear hb4 hu4)
          | (go_at_call 59; (with_reducible refine (cW _ _ HX4.out).mono ?_); rintro e w5 ⟨rfl, rfl⟩)
          | (go_at_call 60; (with_reducible refine (cB1 _ _ _ HU4.out HX4.out).mono ?_); rintro e w6 ⟨rfl, hb6⟩; have HY6 := Lib.hid (HY4.out.step hb6); have HU6 := Lib.hid (HU4.out.step hb6); have HB6 := Lib.hid (below_next HB4.out hb6); have z4 := (hb6.cell (p := { block := (A.add (k * 3)).block, off := (A.add (k * 3)).off + 2 }) hAk4).trans z3; have hAk6 : (A.add (k * 3)).block < w6.heap.size := Nat.lt_of_lt_of_le hAk4 hb6.size; clear hb6)
          | (go_at_call 60; (with_reducible refine (cB2 _ _ _ HU6.out HY6.out).mono ?_); rintro e w7 ⟨rfl, hb7⟩; have HB7 := Lib.hid (below_next HB6.out hb7); have z5 := (hb7.cell (p := { block := (A.add (k * 3)).block, off := (A.add (k * 3)).off + 2 }) hAk6).trans z4; clear hb7))
            go_roundw
            case rel => exact ⟨k + 1, by go_num, by omega, HN.out, HB7.out⟩
            case measure => simp [RowKit.intOf]; omega
          · have HN := Lib.hid (HST.out.trans (if_pos (by rw [HRF.out]; decide)))
            go_wp2_with (first
          | (go_at_call 54; (with_reducible refine cF1.mono ?_); rintro e w3 ⟨⟨u3, rfl, hu3⟩, hb3⟩; obtain ⟨pu3, cu3, rfl, _, _⟩ := hu3.form; have HX3 := Lib.hid hu3; have HB3 := Lib.hid (below_next HB.out hb3); have z1 := (hb3.cell (p := { block := (A.add (k * 3)).block, off := (A.add (k * 3)).off + 1 }) hAk).trans x1; have z2 := (hb3.cell (p := { block := (A.add (k * 3)).block, off := (A.add (k * 3)).off + 2 }) hAk).trans x2; have hAk3 : (A.add (k * 3)).block < w3.heap.size := Nat.lt_of_lt_of_le hAk hb3.size; clear hb3 hu3)
          | (go_at_call 54; (with_reducible refine (cF2 _).mono ?_); rintro e w4 ⟨⟨u4, rfl, hu4⟩, hb4⟩; obtain ⟨pu4, cu4, rfl, _, _⟩ := hu4.form; have HY4 := Lib.hid hu4; have HX4 := Lib.hid (HX3.out.step hb4); have HB4 := Lib.hid (below_next HB3.out hb4); have HU4 := Lib.hid (HU.out.step HB4.out); have z3 := (hb4.cell (p := { block := (A.add (k * 3)).block, off := (A.add (k * 3)).off + 2 }) hAk3).trans z2; have hAk4 : (A.add (k * 3)).block < w4.heap.size := Nat.lt_of_lt_of_le hAk3 hb4.size; clear hb4 hu4)
          | (go_at_call 59; (with_reducible refine (cW _ _ HX4.out).mono ?_); rintro e w5 ⟨rfl, rfl⟩)
          | (go_at_call 60; (with_reducible refine (cB1 _ _ _ HU4.out HX4.out).mono ?_); rintro e w6 ⟨rfl, hb6⟩; have HY6 := Lib.hid (HY4.out.step hb6); have HU6 := Lib.hid (HU4.out.step hb6); have HB6 := Lib.hid (below_next HB4.out hb6); have z4 := (hb6.cell (p := { block := (A.add (k * 3)).block, off := (A.add (k * 3)).off + 2 }) hAk4).trans z3; have hAk6 : (A.add (k * 3)).block < w6.heap.size := Nat.lt_of_lt_of_le hAk4 hb6.size; clear hb6)
          | (go_at_call 60; (with_reducible refine (cB2 _ _ _ HU6.out HY6.out).mono ?_); rintro e w7 ⟨rfl, hb7⟩; have HB7 := Lib.hid (below_next HB6.out hb7); have z5 := (hb7.cell (p := { block := (A.add (k * 3)).block, off := (A.add (k * 3)).off + 2 }) hAk6).trans z4; clear hb7))
            go_ret
            exact ⟨by rw [HN.out]; rfl, HB7.out⟩
      · have hpI : ¬ ((ftW X : Nat) : Int) ≤ (p : Int) := by omega
        rw [show decide (ftW X ≤ p) = false by simpa using hpw] at HRF
        have HN := Lib.hid (HST.out.trans (if_neg (by rw [HRF.out]; simp)))
        clear cB1 cB2
        generalize ftW X = n at *
        go_wp2_with (first
          | (go_at_call 54; (with_reducible refine cF1.mono ?_); rintro e w3 ⟨⟨u3, rfl, hu3⟩, hb3⟩; obtain ⟨pu3, cu3, rfl, _, _⟩ := hu3.form; have HX3 := Lib.hid hu3; have HB3 := Lib.hid (below_next HB.out hb3); have z1 := (hb3.cell (p := { block := (A.add (k * 3)).block, off := (A.add (k * 3)).off + 1 }) hAk).trans x1; have z2 := (hb3.cell (p := { block := (A.add (k * 3)).block, off := (A.add (k * 3)).off + 2 }) hAk).trans x2; have hAk3 : (A.add (k * 3)).block < w3.heap.size := Nat.lt_of_lt_of_le hAk hb3.size; clear hb3 hu3)
          | (go_at_call 54; (with_reducible refine (cF2 _).mono ?_); rintro e w4 ⟨⟨u4, rfl, hu4⟩, hb4⟩; obtain ⟨pu4, cu4, rfl, _, _⟩ := hu4.form; have HY4 := Lib.hid hu4; have HX4 := Lib.hid (HX3.out.step hb4); have HB4 := Lib.hid (below_next HB3.out hb4); have HU4 := Lib.hid (HU.out.step HB4.out); have z3 := (hb4.cell (p := { block := (A.add (k * 3)).block, off := (A.add (k * 3)).off + 2 }) hAk3).trans z2; have hAk4 : (A.add (k * 3)).block < w4.heap.size := Nat.lt_of_lt_of_le hAk3 hb4.size; clear hb4 hu4)
          | (go_at_call 59; (with_reducible refine (cW _ _ HX4.out).mono ?_); rintro e w5 ⟨rfl, rfl⟩)
          | (go_at_call 60; (with_reducible refine (cB1 _ _ _ HU4.out HX4.out).mono ?_); rintro e w6 ⟨rfl, hb6⟩; have HY6 := Lib.hid (HY4.out.step hb6); have HU6 := Lib.hid (HU4.out.step hb6); have HB6 := Lib.hid (below_next HB4.out hb6); have z4 := (hb6.cell (p := { block := (A.add (k * 3)).block, off := (A.add (k * 3)).off + 2 }) hAk4).trans z3; have hAk6 : (A.add (k * 3)).block < w6.heap.size := Nat.lt_of_lt_of_le hAk4 hb6.size; clear hb6)
          | (go_at_call 60; (with_reducible refine (cB2 _ _ _ HU6.out HY6.out).mono ?_); rintro e w7 ⟨rfl, hb7⟩; have HB7 := Lib.hid (below_next HB6.out hb7); have z5 := (hb7.cell (p := { block := (A.add (k * 3)).block, off := (A.add (k * 3)).off + 2 }) hAk6).trans z4; clear hb7))
        go_roundw
        case rel => exact ⟨k + 1, by go_num, by omega, HN.out, HB4.out⟩
        case measure => simp [RowKit.intOf]; omega
    · have hki : ¬ (k : Int) < (R.length : Int) := by omega
      have HE := Lib.hid (show rlBreak R L p = false by rw [HS.out, List.drop_of_length_le (by omega)]; rfl)
      go_wp2
      go_ret
      exact ⟨by rw [HE.out]; rfl, HB.out⟩
end Go.Proofs.YtnkpjkomokkhcaaGreatDoor
namespace Go.Proofs.YtnkpjkomokkhcaaGreatDoor
open Go Go.RowKit Go.Lib
set_option maxRecDepth 100000
def brF (R : List Rl) (L : List Un) (p : Nat) : Bool := decide (0 < p) && rlBreak R L p
theorem brTo_succ (R : List Rl) (L : List Un) (k : Nat) : (List.range (k + 1)).filter (brF R L) = (List.range k).filter (brF R L) ++ (if brF R L k = true then [k] else []) := by
  rw [List.range_succ, List.filter_append]
  congr 1
  rw [List.filter_cons]
  rfl
theorem brTo_end {R : List Rl} {L : List Un} {k : Nat} (h1 : L.length ≤ k) (h2 : k ≤ L.length ∨ k = 1) : (List.range k).filter (brF R L) = brksL R L := by
  unfold brksL
  by_cases h : k = L.length
  · rw [h]; rfl
  · have h0 : L.length = 0 := by omega
    have h3 : k = 1 := by omega
    rw [h0, h3]
    rfl
theorem brTo_len (R : List Rl) (L : List Un) (k : Nat) : ((List.range k).filter (brF R L)).length ≤ k := by
  have := List.length_filter_le (brF R L) (List.range k)
  simpa using this
theorem cell_new1' {w : World} {n : Nat} (hs : w.heap.size = n) (a : Value) (t : TypeId) : ∀ j u, [a][j]? = some u → (w.alloc (.cells #[a] t)).cell? ((⟨n, 0, none⟩ : Addr).add j) = some u := by
  subst hs
  intro j u hj
  match j, hj with
  | 0, hj => simp only [List.getElem?_cons_zero, Option.some.injEq] at hj; subst hj; exact (Lib.cell_of_heap (heap_alloc_new w (.cells #[a] t)) 0).trans rfl
set_option maxHeartbeats 32000000 in
theorem sBreaks_any (R : List Rl) (l : List Pc) (vR v : Value) (w : World) (hr : RulesAt w vR R) (hz : SzR R) (hv : PcsAt w v l) (hb : bulk l ≤ 10000) :
    Calls Tryz.prog 22 #[vR, v] w fun e w' => (∃ r, e = .returned (.tuple #[r, .int .u8 (brE R l)]) ∧ IntsAt w' r ((brR R l).map fun p : Nat => (p : Int))) ∧ Below w.heap.size w w' := by
  have cR := sCheckBreaks_any R vR w hr hz
  have cP := fun wr (h : Below w.heap.size w wr) => refCheck_any l v wr (hv.step h) (by omega)
  have cU := fun wr (h : Below w.heap.size w wr) => sUnits_any l v wr (hv.step h) hb
  have HRl := Lib.hid hr
  have HZ := Lib.hid hz
  have hnU : (unsL l).length ≤ 10000 := by have h := sum_un l; rw [uns_len]; unfold nUnits; omega
  obtain ⟨pR, capR, rfl, hlR, hcR, hrowR⟩ := hr
  obtain ⟨p, cap, rfl, hl, hc, hrow⟩ := hv
  clear hrow hrowR hz
  by_cases h1 : rlsE R = 0
  · by_cases h2 : checkE l = 0
    · have hE : brE R l = 0 := by unfold brE; rw [if_neg (by simp [h1])]; exact h2
      have hRR : brR R l = brksL R (unsL l) := by unfold brR; rw [if_pos hE]
      rw [hE, hRR]
      rw [h1] at cR
      simp only [h2] at cP
      have HZ2 := Lib.hid (HZ.out (by unfold rlsE at h1; split at h1; cases h1; omega))
      obtain ⟨i0, hi0, hz0, hz1, hz2⟩ := info_int_of
      clear h1 h2 hE hRR
      generalize unsL l = L at *
      go_enter Tryz.func22, Tryz.ntmps22
      go_wp2_with (first
        | (go_at_call 20; (with_reducible refine cR.mono ?_); rintro e w3 ⟨rfl, hb3⟩; have HB3 := Lib.hid hb3; clear hb3)
        | (go_at_call 26; (with_reducible refine (cP _ HB3.out).mono ?_); rintro e w4 ⟨rfl, hb4⟩; have HB4 := Lib.hid (below_next HB3.out hb4); clear hb4)
        | (go_at_call 49; (with_reducible refine (cU _ HB4.out).mono ?_); rintro e w5 ⟨⟨u, rfl, hu⟩, hb5⟩; obtain ⟨pu, cu, rfl, hlu, hcu⟩ := hu.form; have HU5 := Lib.hid hu; have HB5 := Lib.hid (below_next HB4.out hb5); clear hb5 hu))
      unfold maxLen at hcu
      go_loopw [8, 9] (fun o i wr => ∃ k : Nat, i = .int .i64 k ∧ 1 ≤ k ∧ (k ≤ L.length ∨ k = 1) ∧ Hid (wr.ownsRow w5.heap.size 3 1 o ((List.range k).filter (brF R L)).length (cellsI ((List.range k).filter (brF R L)))) ∧ Hid (Below w5.heap.size w5 wr)) (fun _ i _ => L.length - (RowKit.intOf i).toNat)
      case atStart => exact ⟨1, rfl, Nat.le_refl _, .inr rfl, World.ownsRow_nil _ _ _ _, Below.refl _ _⟩
      case round =>
        obtain ⟨k, rfl, hk1, hk, HO, HB6⟩ := hrel
        have HB := Lib.hid (below_next HB5.out HB6.out)
        by_cases hlt : k < L.length
        · have hki : (k : Int) < (L.length : Int) := by omega
          have hk0 : (0 : Int) ≤ (k : Int) := by omega
          have hszw := HB6.out.size
          have cB := sBreak_any R L _ _ k wr (HRl.out.step HB.out) HZ2.out (HU5.out.step HB6.out) (by omega) (by omega)
          have HT := Lib.hid (brTo_succ R L k)
          have hol := brTo_len R L k
          have HF := Lib.hid (show brF R L k = rlBreak R L k by unfold brF; rw [show decide (0 < k) = true from decide_eq_true hk1]; rfl)
          generalize (List.range k).filter (brF R L) = us at HO HT hol
          obtain ⟨ao, ca, hfo⟩ := own_slice HO.out
          subst hfo
          cases hq : rlBreak R L k
          · rw [hq] at cB HF
            have HT2 := Lib.hid (show (List.range (k + 1)).filter (brF R L) = us by rw [HT.out, HF.out]; simp)
            clear hq
            go_wp2_with (go_at_call 58; (with_reducible refine cB.mono ?_); rintro e w7 ⟨rfl, hb7⟩; have HB8 := Lib.hid (below_next HB6.out hb7); have HO7 := Lib.hid (ownsRow_step hb7 HO.out); clear hb7)
            go_roundw
            case rel => exact ⟨k + 1, by go_num, by omega, .inl hlt, (by rw [HT2.out]; exact HO7.out), HB8.out⟩
            case measure => simp [RowKit.intOf]; omega
          · rw [hq] at cB HF
            have HT2 := Lib.hid (show (List.range (k + 1)).filter (brF R L) = us ++ [k] by rw [HT.out, HF.out]; simp)
            have q1 := Lib.hid (show us.length + 1 ≤ maxLen by unfold maxLen; omega)
            have q2 := Lib.hid (show (us.length + 1) * 8 ≤ 140737488355328 by omega)
            clear hq
            go_wp2_with (first
              | (go_at_call 58; (with_reducible refine cB.mono ?_); rintro e w7 ⟨rfl, hb7⟩; have HB8 := Lib.hid (below_next HB6.out hb7); have HO7 := Lib.hid (ownsRow_step hb7 HO.out); have hs7 := HB8.out.size; clear hb7)
              | (at_builtin; refine wpList_append_own _ rfl _ _ 23 rfl w5.heap.size 3 i0 _ 1 8 Tryz.underlying23 hi0 hz0 hz1 hz2 rfl (by decide) _ _ _ rfl (HO7.out.alloc _) ⟨w7.heap.size, 0, none⟩ 1 1 [.int .i64 (k : Int)] rfl rfl (cell_new1' rfl _ _) (fun u hu => by simp at hu; rw [hu]; rfl) q1.out q2.out (by simp; omega) ?_; intro v9 w9 hown9 hgrow9 hnil9
                 have HO9 := Lib.hid (show w9.ownsRow w5.heap.size 3 1 v9 (us ++ [k]).length (cellsI (us ++ [k])) by rw [List.length_append, List.length_singleton, cellsI_app]; exact hown9)
                 have HB9 := Lib.hid ((HB8.out.alloc hs7 _).grown hgrow9 (by simp; omega) (fun k hk => (HO7.out.lt k hk).1))
                 clear hgrow9 hnil9 hown9))
            go_roundw
            case rel => exact ⟨k + 1, by go_num, by omega, .inl hlt, (by rw [HT2.out]; exact HO9.out), HB9.out⟩
            case measure => simp [RowKit.intOf]; omega
        · have hki : ¬ (k : Int) < (L.length : Int) := by omega
          have HE := Lib.hid (brTo_end (R := R) (by omega) hk)
          go_wp2
          go_ret2
          exact ⟨⟨_, rfl, by rw [← HE.out]; exact ints_own HO.out⟩, HB.out⟩
    · have HE := Lib.hid (show brE R l = checkE l by unfold brE; rw [if_neg (by simp [h1])])
      have HR := Lib.hid (show brR R l = [] by unfold brR; rw [HE.out, if_neg h2])
      rw [h1] at cR
      clear cU
      generalize checkE l = Z at *
      have h2' : (Z != 0) = true := by simpa using h2
      go_enter Tryz.func22, Tryz.ntmps22
      go_wp2_with (first
        | (go_at_call 20; (with_reducible refine cR.mono ?_); rintro e w3 ⟨rfl, hb3⟩; have HB3 := Lib.hid hb3; clear hb3)
        | (go_at_call 26; (with_reducible refine (cP _ HB3.out).mono ?_); rintro e w4 ⟨rfl, hb4⟩; have HB4 := Lib.hid (below_next HB3.out hb4); clear hb4))
      go_ret2
      exact ⟨⟨_, by rw [HE.out]; rfl, by rw [HR.out]; exact ints_own (B := 0) (us := []) (World.ownsRow_nil _ _ _ _)⟩, HB4.out⟩
  · have HE := Lib.hid (show brE R l = rlsE R by unfold brE; rw [if_pos h1])
    have HR := Lib.hid (show brR R l = [] by unfold brR; rw [HE.out, if_neg h1])
    clear cU cP
    generalize rlsE R = Z at *
    have h1' : (Z != 0) = true := by simpa using h1
    go_enter Tryz.func22, Tryz.ntmps22
    go_wp2_with (go_at_call 20; (with_reducible refine cR.mono ?_); rintro e w3 ⟨rfl, hb3⟩; have HB3 := Lib.hid hb3; clear hb3)
    go_ret2
    exact ⟨⟨_, by rw [HE.out]; rfl, by rw [HR.out]; exact ints_own (B := 0) (us := []) (World.ownsRow_nil _ _ _ _)⟩, HB3.out⟩
end Go.Proofs.YtnkpjkomokkhcaaGreatDoor
namespace Go.Proofs.YtnkpjkomokkhcaaGreatDoor
open Go Go.RowKit Go.Lib
set_option maxRecDepth 100000
set_option maxHeartbeats 32000000 in
theorem sFitsR_any (x : Rl) (l : List Pc) (v : Value) (p : Int) (w : World) (hx : x.b.size ≤ 100000 ∧ x.a.size ≤ 100000) (hv : PcsAt w v l) (hb : bulk l ≤ 10000) :
    Calls Tryz.prog 25 #[.agg #[.string x.b, .string x.a, .bool x.k], v, .int .i64 p] w fun e w' => e = .returned (.tuple #[.bool (ftR x l p), .int .u8 (ftE x l p)]) ∧ Below w.heap.size w w' := by
  have ar := Tryz.isAgg47
  have zr := Tryz.sizeOf47
  have hbx := below_next (below_box (w := w) (.cells #[.string x.b, .string x.a, .bool x.k] 47)) (below_box (w := w.alloc (.cells #[.string x.b, .string x.a, .bool x.k] 47)) (.cells #[.string x.b, .string x.a, .bool x.k] 47))
  have cR := sCheckBreaks_any [x] _ _ (rules_one x w) (fun _ y hy => by rw [List.mem_singleton.1 hy]; exact hx)
  have HB0 := Lib.hid hbx
  have hx1 := heap_alloc_new w (.cells #[.string x.b, .string x.a, .bool x.k] 47)
  have HX2 := Lib.hid ((Below.heap_alloc (w.alloc (.cells #[.string x.b, .string x.a, .bool x.k] 47)) (.cells #[.string x.b, .string x.a, .bool x.k] 47) _ (lt_of_block hx1)).trans hx1)
  have cP := fun wr (h : Below w.heap.size w wr) => refCheck_any l v wr (hv.step h) (by omega)
  have cU := fun wr (h : Below w.heap.size w wr) => sUnits_any l v wr (hv.step h) hb
  obtain ⟨q, cap, rfl, hl, hc, hrow⟩ := hv
  have hnU : (unsL l).length ≤ 10000 := by have h := sum_un l; rw [uns_len]; unfold nUnits; omega
  clear hrow hbx hx1
  obtain ⟨xb, xa, xk⟩ := x
  dsimp only at cR HB0 HX2 hx ⊢
  by_cases h1 : rlsE [⟨xb, xa, xk⟩] = 0
  · rw [h1] at cR
    by_cases h2 : checkE l = 0
    · simp only [h2] at cP
      have hEx : ∀ p, ftE ⟨xb, xa, xk⟩ l p = if p < 0 ∨ ((unsL l).length : Int) < p then 1 else 0 := fun p => by unfold ftE; rw [if_neg (by simp [h1]), if_neg (by simp [h2])]
      have hRx : ftR ⟨xb, xa, xk⟩ l p = (decide (ftE ⟨xb, xa, xk⟩ l p = 0) && rlFits ⟨xb, xa, xk⟩ (unsL l) p.toNat) := rfl
      generalize unsL l = L at *
      by_cases h3 : p < 0
      · have HE := Lib.hid (show ftE ⟨xb, xa, xk⟩ l p = 1 by rw [hEx, if_pos (.inl h3)])
        have HR := Lib.hid (show ftR ⟨xb, xa, xk⟩ l p = false by rw [hRx, HE.out]; simp)
        rw [HE.out, HR.out]
        clear HE HR hEx hRx
        go_enter Tryz.func25, Tryz.ntmps25
        go_wp2_with (first
          | (go_at_call 20; (with_reducible refine cR.mono ?_); rintro e w3 ⟨rfl, hb3⟩; have HB3 := Lib.hid (below_next HB0.out hb3); have HX3 := Lib.hid ((hb3.block _ (lt_of_block HX2.out)).trans HX2.out); clear hb3)
          | (go_at_call 26; (with_reducible refine (cP _ HB3.out).mono ?_); rintro e w4 ⟨rfl, hb4⟩; have HB4 := Lib.hid (below_next HB3.out hb4); have HX4 := Lib.hid ((hb4.block _ (lt_of_block HX3.out)).trans HX3.out); clear hb4)
          | (go_at_call 49; (with_reducible refine (cU _ HB4.out).mono ?_); rintro e w5 ⟨⟨u, rfl, hu⟩, hb5⟩; obtain ⟨pu, cu, rfl, hlu, hcu⟩ := hu.form; have HU5 := Lib.hid hu; have HB5 := Lib.hid (below_next HB4.out hb5); have HX5 := Lib.hid ((hb5.block _ (lt_of_block HX4.out)).trans HX4.out); have k50 : w5.cell? ⟨w.heap.size, 0, none⟩ = some (.string xb) := (Lib.cell_of_heap HX5.out 0).trans rfl; clear hb5 hu))
        go_ret2
        exact ⟨rfl, HB5.out⟩
      · by_cases h4 : (L.length : Int) < p
        · have HE := Lib.hid (show ftE ⟨xb, xa, xk⟩ l p = 1 by rw [hEx, if_pos (.inr h4)])
          have HR := Lib.hid (show ftR ⟨xb, xa, xk⟩ l p = false by rw [hRx, HE.out]; simp)
          rw [HE.out, HR.out]
          clear HE HR hEx hRx
          go_enter Tryz.func25, Tryz.ntmps25
          go_wp2_with (first
            | (go_at_call 20; (with_reducible refine cR.mono ?_); rintro e w3 ⟨rfl, hb3⟩; have HB3 := Lib.hid (below_next HB0.out hb3); have HX3 := Lib.hid ((hb3.block _ (lt_of_block HX2.out)).trans HX2.out); clear hb3)
            | (go_at_call 26; (with_reducible refine (cP _ HB3.out).mono ?_); rintro e w4 ⟨rfl, hb4⟩; have HB4 := Lib.hid (below_next HB3.out hb4); have HX4 := Lib.hid ((hb4.block _ (lt_of_block HX3.out)).trans HX3.out); clear hb4)
            | (go_at_call 49; (with_reducible refine (cU _ HB4.out).mono ?_); rintro e w5 ⟨⟨u, rfl, hu⟩, hb5⟩; obtain ⟨pu, cu, rfl, hlu, hcu⟩ := hu.form; have HU5 := Lib.hid hu; have HB5 := Lib.hid (below_next HB4.out hb5); have HX5 := Lib.hid ((hb5.block _ (lt_of_block HX4.out)).trans HX4.out); have k50 : w5.cell? ⟨w.heap.size, 0, none⟩ = some (.string xb) := (Lib.cell_of_heap HX5.out 0).trans rfl; clear hb5 hu))
          go_ret2
          exact ⟨rfl, HB5.out⟩
        · obtain ⟨n, rfl⟩ : ∃ n : Nat, p = (n : Int) := ⟨p.toNat, by omega⟩
          have hn : n ≤ L.length := by omega
          have HE := Lib.hid (show ftE ⟨xb, xa, xk⟩ l (n : Int) = 0 by rw [hEx, if_neg (by omega)])
          have HR := Lib.hid (show ftR ⟨xb, xa, xk⟩ l (n : Int) = (decide (ftW (items xb) ≤ n) && behB L (n - ftW (items xb)) (items xb) && behB L n (items xa)) by rw [hRx, HE.out]; simp [rlFits])
          rw [HE.out, HR.out]
          clear HE HR hEx hRx
          have cF1 := fun w' => sFits_any xb w' hx.1
          have cF2 := fun w' => sFits_any xa w' hx.2
          have hw1 : ftW (items xb) ≤ 100000 := Nat.le_trans (items_w xb) hx.1
          have hi1 : (items xb).length ≤ 100000 := Nat.le_trans (items_len xb) hx.1
          have hi2 : (items xa).length ≤ 100000 := Nat.le_trans (items_len xa) hx.2
          unfold FtsEnd at cF1 cF2
          generalize items xb = X at *
          generalize items xa = Y at *
          generalize (patOf xb).isSome = o1 at *
          generalize (patOf xa).isSome = o2 at *
          have cW := fun v w' (h : FsAt w' v X) => width_any X v w' h hi1
          have cB1 := fun v vx w' hu hx => sBehind_any L X v vx (n - ftW X) w' hu hx (by omega) (by omega) hi1
          have cB2 := fun v vx w' hu hx => sBehind_any L Y v vx n w' hu hx hn (by omega) hi2
          by_cases hpw : ftW X ≤ n
          · have hpI : ((ftW X : Nat) : Int) ≤ (n : Int) := by omega
            have hq : IntKind.i64.wrap ((n : Int) - ((ftW X : Nat) : Int)) = ((n - ftW X : Nat) : Int) := by rw [IntKind.wrap_i64]; omega
            rw [show decide (ftW X ≤ n) = true by simpa using hpw]
            generalize n - ftW X = d at *
            generalize ftW X = m at *
            generalize behB L d X = b1 at *
            generalize behB L n Y = b2 at *
            cases b1
            · go_enter Tryz.func25, Tryz.ntmps25
              go_wp2_with (first
                | (go_at_call 20; (with_reducible refine cR.mono ?_); rintro e w3 ⟨rfl, hb3⟩; have HB3 := Lib.hid (below_next HB0.out hb3); have HX3 := Lib.hid ((hb3.block _ (lt_of_block HX2.out)).trans HX2.out); clear hb3)
                | (go_at_call 26; (with_reducible refine (cP _ HB3.out).mono ?_); rintro e w4 ⟨rfl, hb4⟩; have HB4 := Lib.hid (below_next HB3.out hb4); have HX4 := Lib.hid ((hb4.block _ (lt_of_block HX3.out)).trans HX3.out); clear hb4)
                | (go_at_call 49; (with_reducible refine (cU _ HB4.out).mono ?_); rintro e w5 ⟨⟨u, rfl, hu⟩, hb5⟩; obtain ⟨pu, cu, rfl, hlu, hcu⟩ := hu.form; have HU5 := Lib.hid hu; have HB5 := Lib.hid (below_next HB4.out hb5); have HX5 := Lib.hid ((hb5.block _ (lt_of_block HX4.out)).trans HX4.out); have k50 : w5.cell? ⟨w.heap.size, 0, none⟩ = some (.string xb) := (Lib.cell_of_heap HX5.out 0).trans rfl; clear hb5 hu)
                | (go_at_call 54; (with_reducible refine (cF1 _).mono ?_); rintro e w6 ⟨⟨u3, rfl, hu3⟩, hb6⟩; obtain ⟨pu3, cu3, rfl, _, _⟩ := hu3.form; have HF6 := Lib.hid hu3; have HU6 := Lib.hid (HU5.out.step hb6); have HB6 := Lib.hid (below_next HB5.out hb6); have HX6 := Lib.hid ((hb6.block _ (lt_of_block HX5.out)).trans HX5.out); have k61 : w6.cell? ⟨w.heap.size, 1, none⟩ = some (.string xa) := (Lib.cell_of_heap HX6.out 1).trans rfl; clear hb6 hu3)
                | (go_at_call 54; (with_reducible refine (cF2 _).mono ?_); rintro e w7 ⟨⟨u4, rfl, hu4⟩, hb7⟩; obtain ⟨pu4, cu4, rfl, _, _⟩ := hu4.form; have HY7 := Lib.hid hu4; have HF7 := Lib.hid (HF6.out.step hb7); have HU7 := Lib.hid (HU6.out.step hb7); have HB7 := Lib.hid (below_next HB6.out hb7); clear hb7 hu4)
                | (go_at_call 59; (with_reducible refine (cW _ _ HF7.out).mono ?_); rintro e w5 ⟨rfl, rfl⟩)
                | (go_at_call 60; (with_reducible refine (cB1 _ _ _ HU7.out HF7.out).mono ?_); rintro e w8 ⟨rfl, hb8⟩; have HY8 := Lib.hid (HY7.out.step hb8); have HU8 := Lib.hid (HU7.out.step hb8); have HB8 := Lib.hid (below_next HB7.out hb8); clear hb8)
                | (go_at_call 60; (with_reducible refine (cB2 _ _ _ HU8.out HY8.out).mono ?_); rintro e w9 ⟨rfl, hb9⟩; have HB9 := Lib.hid (below_next HB8.out hb9); clear hb9))
              go_ret2
              exact ⟨rfl, HB8.out⟩
            · go_enter Tryz.func25, Tryz.ntmps25
              go_wp2_with (first
                | (go_at_call 20; (with_reducible refine cR.mono ?_); rintro e w3 ⟨rfl, hb3⟩; have HB3 := Lib.hid (below_next HB0.out hb3); have HX3 := Lib.hid ((hb3.block _ (lt_of_block HX2.out)).trans HX2.out); clear hb3)
                | (go_at_call 26; (with_reducible refine (cP _ HB3.out).mono ?_); rintro e w4 ⟨rfl, hb4⟩; have HB4 := Lib.hid (below_next HB3.out hb4); have HX4 := Lib.hid ((hb4.block _ (lt_of_block HX3.out)).trans HX3.out); clear hb4)
                | (go_at_call 49; (with_reducible refine (cU _ HB4.out).mono ?_); rintro e w5 ⟨⟨u, rfl, hu⟩, hb5⟩; obtain ⟨pu, cu, rfl, hlu, hcu⟩ := hu.form; have HU5 := Lib.hid hu; have HB5 := Lib.hid (below_next HB4.out hb5); have HX5 := Lib.hid ((hb5.block _ (lt_of_block HX4.out)).trans HX4.out); have k50 : w5.cell? ⟨w.heap.size, 0, none⟩ = some (.string xb) := (Lib.cell_of_heap HX5.out 0).trans rfl; clear hb5 hu)
                | (go_at_call 54; (with_reducible refine (cF1 _).mono ?_); rintro e w6 ⟨⟨u3, rfl, hu3⟩, hb6⟩; obtain ⟨pu3, cu3, rfl, _, _⟩ := hu3.form; have HF6 := Lib.hid hu3; have HU6 := Lib.hid (HU5.out.step hb6); have HB6 := Lib.hid (below_next HB5.out hb6); have HX6 := Lib.hid ((hb6.block _ (lt_of_block HX5.out)).trans HX5.out); have k61 : w6.cell? ⟨w.heap.size, 1, none⟩ = some (.string xa) := (Lib.cell_of_heap HX6.out 1).trans rfl; clear hb6 hu3)
                | (go_at_call 54; (with_reducible refine (cF2 _).mono ?_); rintro e w7 ⟨⟨u4, rfl, hu4⟩, hb7⟩; obtain ⟨pu4, cu4, rfl, _, _⟩ := hu4.form; have HY7 := Lib.hid hu4; have HF7 := Lib.hid (HF6.out.step hb7); have HU7 := Lib.hid (HU6.out.step hb7); have HB7 := Lib.hid (below_next HB6.out hb7); clear hb7 hu4)
                | (go_at_call 59; (with_reducible refine (cW _ _ HF7.out).mono ?_); rintro e w5 ⟨rfl, rfl⟩)
                | (go_at_call 60; (with_reducible refine (cB1 _ _ _ HU7.out HF7.out).mono ?_); rintro e w8 ⟨rfl, hb8⟩; have HY8 := Lib.hid (HY7.out.step hb8); have HU8 := Lib.hid (HU7.out.step hb8); have HB8 := Lib.hid (below_next HB7.out hb8); clear hb8)
                | (go_at_call 60; (with_reducible refine (cB2 _ _ _ HU8.out HY8.out).mono ?_); rintro e w9 ⟨rfl, hb9⟩; have HB9 := Lib.hid (below_next HB8.out hb9); clear hb9))
              go_ret2
              exact ⟨by simp, HB9.out⟩
          · have hpI : ¬ ((ftW X : Nat) : Int) ≤ (n : Int) := by omega
            rw [show decide (ftW X ≤ n) = false by simpa using hpw]
            clear cB1 cB2
            generalize ftW X = m at *
            go_enter Tryz.func25, Tryz.ntmps25
            go_wp2_with (first
              | (go_at_call 20; (with_reducible refine cR.mono ?_); rintro e w3 ⟨rfl, hb3⟩; have HB3 := Lib.hid (below_next HB0.out hb3); have HX3 := Lib.hid ((hb3.block _ (lt_of_block HX2.out)).trans HX2.out); clear hb3)
              | (go_at_call 26; (with_reducible refine (cP _ HB3.out).mono ?_); rintro e w4 ⟨rfl, hb4⟩; have HB4 := Lib.hid (below_next HB3.out hb4); have HX4 := Lib.hid ((hb4.block _ (lt_of_block HX3.out)).trans HX3.out); clear hb4)
              | (go_at_call 49; (with_reducible refine (cU _ HB4.out).mono ?_); rintro e w5 ⟨⟨u, rfl, hu⟩, hb5⟩; obtain ⟨pu, cu, rfl, hlu, hcu⟩ := hu.form; have HU5 := Lib.hid hu; have HB5 := Lib.hid (below_next HB4.out hb5); have HX5 := Lib.hid ((hb5.block _ (lt_of_block HX4.out)).trans HX4.out); have k50 : w5.cell? ⟨w.heap.size, 0, none⟩ = some (.string xb) := (Lib.cell_of_heap HX5.out 0).trans rfl; clear hb5 hu)
              | (go_at_call 54; (with_reducible refine (cF1 _).mono ?_); rintro e w6 ⟨⟨u3, rfl, hu3⟩, hb6⟩; obtain ⟨pu3, cu3, rfl, _, _⟩ := hu3.form; have HF6 := Lib.hid hu3; have HU6 := Lib.hid (HU5.out.step hb6); have HB6 := Lib.hid (below_next HB5.out hb6); have HX6 := Lib.hid ((hb6.block _ (lt_of_block HX5.out)).trans HX5.out); have k61 : w6.cell? ⟨w.heap.size, 1, none⟩ = some (.string xa) := (Lib.cell_of_heap HX6.out 1).trans rfl; clear hb6 hu3)
              | (go_at_call 54; (with_reducible refine (cF2 _).mono ?_); rintro e w7 ⟨⟨u4, rfl, hu4⟩, hb7⟩; obtain ⟨pu4, cu4, rfl, _, _⟩ := hu4.form; have HY7 := Lib.hid hu4; have HF7 := Lib.hid (HF6.out.step hb7); have HU7 := Lib.hid (HU6.out.step hb7); have HB7 := Lib.hid (below_next HB6.out hb7); clear hb7 hu4)
              | (go_at_call 59; (with_reducible refine (cW _ _ HF7.out).mono ?_); rintro e w5 ⟨rfl, rfl⟩)
              | (go_at_call 60; (with_reducible refine (cB1 _ _ _ HU7.out HF7.out).mono ?_); rintro e w8 ⟨rfl, hb8⟩; have HY8 := Lib.hid (HY7.out.step hb8); have HU8 := Lib.hid (HU7.out.step hb8); have HB8 := Lib.hid (below_next HB7.out hb8); clear hb8)
              | (go_at_call 60; (with_reducible refine (cB2 _ _ _ HU8.out HY8.out).mono ?_); rintro e w9 ⟨rfl, hb9⟩; have HB9 := Lib.hid (below_next HB8.out hb9); clear hb9))
            go_ret2
            exact ⟨rfl, HB7.out⟩
    · have HE := Lib.hid (show ftE ⟨xb, xa, xk⟩ l p = checkE l by unfold ftE; rw [if_neg (by simp [h1]), if_pos h2])
      have HR := Lib.hid (show ftR ⟨xb, xa, xk⟩ l p = false by unfold ftR; rw [HE.out]; simp [h2])
      rw [HE.out, HR.out]
      clear HE HR cU
      generalize checkE l = Z at *
      have h2' : (Z != 0) = true := by simpa using h2
      go_enter Tryz.func25, Tryz.ntmps25
      go_wp2_with (first
        | (go_at_call 20; (with_reducible refine cR.mono ?_); rintro e w3 ⟨rfl, hb3⟩; have HB3 := Lib.hid (below_next HB0.out hb3); clear hb3)
        | (go_at_call 26; (with_reducible refine (cP _ HB3.out).mono ?_); rintro e w4 ⟨rfl, hb4⟩; have HB4 := Lib.hid (below_next HB3.out hb4); clear hb4))
      go_ret2
      exact ⟨rfl, HB4.out⟩
  · have HE := Lib.hid (show ftE ⟨xb, xa, xk⟩ l p = rlsE [⟨xb, xa, xk⟩] by unfold ftE; rw [if_pos h1])
    have HR := Lib.hid (show ftR ⟨xb, xa, xk⟩ l p = false by unfold ftR; rw [HE.out]; simp [h1])
    rw [HE.out, HR.out]
    clear HE HR cP cU
    generalize rlsE [⟨xb, xa, xk⟩] = Z at *
    have h1' : (Z != 0) = true := by simpa using h1
    go_enter Tryz.func25, Tryz.ntmps25
    go_wp2_with (go_at_call 20; (with_reducible refine cR.mono ?_); rintro e w3 ⟨rfl, hb3⟩; have HB3 := Lib.hid (below_next HB0.out hb3); clear hb3)
    go_ret2
    exact ⟨rfl, HB3.out⟩
end Go.Proofs.YtnkpjkomokkhcaaGreatDoor
namespace Go.Proofs.YtnkpjkomokkhcaaGreatDoor
open Go Go.RowKit Go.Lib
set_option maxRecDepth 100000
def rlB (x : Rl) : Nat := x.b.size + x.a.size
def strM (R : List Rl) (k : Nat) : Nat := R.length + ((R.take k).map rlB).sum
theorem strM_succ {R : List Rl} {k : Nat} (h : k < R.length) : strM R (k + 1) = strM R k + rlB (R.getD k nilR) := by
  unfold strM
  rw [List.take_add_one, List.getElem?_eq_getElem h, List.map_append, List.sum_append, List.getD_eq_getElem?_getD, List.getElem?_eq_getElem h]
  simp
  omega
theorem strM_le {R : List Rl} (hz : ∀ x ∈ R, x.b.size ≤ 140737488355328 ∧ x.a.size ≤ 140737488355328) : ∀ k, k ≤ R.length → strM R k ≤ R.length + k * 281474976710656
  | 0, _ => by simp [strM]
  | k + 1, hk => by
    have h1 := strM_le hz k (by omega)
    have h2 := hz (R.getD k nilR) (by rw [List.getD_eq_getElem?_getD, List.getElem?_eq_getElem (by omega)]; exact List.getElem_mem _)
    rw [strM_succ (by omega)]
    unfold rlB
    omega
theorem sum_mem {l : List Nat} {n : Nat} (h : n ∈ l) : n ≤ l.sum := by
  induction l with
  | nil => cases h
  | cons a l ih =>
    rw [List.sum_cons]
    rcases List.mem_cons.1 h with rfl | h
    · omega
    · have := ih h; omega
theorem strM_sz {R : List Rl} (h : strM R (min 100 R.length) ≤ 600) : SzR R := by
  intro hl x hx
  rw [Nat.min_eq_right (by omega)] at h
  unfold strM at h
  rw [List.take_length] at h
  have := sum_mem (List.mem_map.2 ⟨x, hx, rfl⟩ : rlB x ∈ R.map rlB)
  unfold rlB at this h
  omega
def StrEnd (R : List Rl) (e : Ending) : Prop := e = .returned (.bool (decide (600 < strM R (min 100 R.length))))
set_option maxHeartbeats 16000000 in
theorem strict_any (R : List Rl) (v : Value) (w : World) (hv : RulesAt w v R) (hz : ∀ x ∈ R, x.b.size ≤ 140737488355328 ∧ x.a.size ≤ 140737488355328) (hl : R.length ≤ 140737488355328) :
    Calls Tryz.prog 16 #[v] w fun e w' => StrEnd R e ∧ Below w.heap.size w w' := by
  have ar := Tryz.isAgg47
  have zr := Tryz.sizeOf47
  have HV := Lib.hid hv
  have HZ := Lib.hid (fun k hk => @strM_le R hz k hk)
  obtain ⟨p, cap, rfl, hlc, hc, hrow⟩ := hv
  clear hrow hz
  unfold maxLen at hc
  go_enter Tryz.func16, Tryz.ntmps16
  go_wp2
  go_loopw [3, 4] (fun n i wr => ∃ k : Nat, i = .int .i64 k ∧ n = .int .i64 (strM R k : Nat) ∧ k ≤ R.length ∧ k ≤ 100 ∧ Hid (Below w.heap.size w wr)) (fun _ i _ => R.length - (RowKit.intOf i).toNat)
  case atStart => exact ⟨0, rfl, by simp [strM], Nat.zero_le _, Nat.zero_le _, Below.refl _ _⟩
  case round =>
    obtain ⟨k, rfl, rfl, hk, hk2, HB⟩ := hrel
    by_cases hlt : k < R.length
    · have hki : (k : Int) < (R.length : Int) := by omega
      have hk0 : (0 : Int) ≤ (k : Int) := by omega
      by_cases h100 : k < 100
      · have h100I : (k : Int) < 100 := by omega
        obtain ⟨A, rfl, x0, x1, x2⟩ := (HV.out.step HB.out).get hlt
        have hsz := HZ.out (k + 1) (by omega)
        have hS := strM_succ hlt
        unfold rlB at hS
        clear x2
        obtain ⟨m2, hm2⟩ : ∃ m2, m2 = strM R (k + 1) := ⟨_, rfl⟩
        rw [← hm2] at hsz hS
        have HM2 := Lib.hid hm2
        clear hm2
        generalize strM R k = m at *
        generalize R.getD k nilR = x at *
        obtain ⟨xb, xa, xk⟩ := x
        dsimp only at x0 x1 hS
        have h1 : IntKind.i64.wrap ((m : Int) + (xb.size : Int)) = ((m + xb.size : Nat) : Int) := by rw [IntKind.wrap_i64]; omega
        have h2 : IntKind.i64.wrap (((m + xb.size : Nat) : Int) + (xa.size : Int)) = (m2 : Int) := by rw [IntKind.wrap_i64]; omega
        go_wp2
        go_quiet (fail)
        go_wp2
        go_roundw
        case rel => exact ⟨k + 1, by go_num, by rw [← HM2.out]; go_num, by omega, by omega, below_next HB.out (below_drawn _ _)⟩
        case measure => simp [RowKit.intOf]; omega
      · obtain rfl : k = 100 := by omega
        have HE := Lib.hid (show strM R (min 100 R.length) = strM R 100 by rw [Nat.min_eq_left (by omega)])
        go_wp2
        go_ret
        exact ⟨ret_bool (by rw [HE.out]; simp; omega), HB.out⟩
    · have hki : ¬ (k : Int) < (R.length : Int) := by omega
      obtain rfl : k = R.length := by omega
      have HE := Lib.hid (show strM R (min 100 R.length) = strM R R.length by rw [Nat.min_eq_right (by omega)])
      go_wp2
      go_ret
      exact ⟨ret_bool (by rw [HE.out]; simp; omega), HB.out⟩
set_option maxHeartbeats 8000000 in
theorem ints_any (l : List Int) (u v : Value) (w : World) (hu : IntsAt w u l) (hv : IntsAt w v l) (_hl : l.length ≤ 1000000) :
    Calls Tryz.prog 23 #[u, v] w fun e w' => e = .returned (.bool true) ∧ Below w.heap.size w w' := by
  have HU := Lib.hid hu
  have HV := Lib.hid hv
  obtain ⟨p, cap, rfl, hl1, hc, hrow⟩ := hu
  obtain ⟨q, cap2, rfl, hl2, hc2, hrow2⟩ := hv
  unfold maxLen at hc hc2
  clear hrow hrow2
  go_enter Tryz.func23, Tryz.ntmps23
  go_wp2
  go_loopw [5] (fun i wr => ∃ k : Nat, k ≤ l.length ∧ i = .int .i64 k ∧ Hid (Below w.heap.size w wr)) (fun i _ => l.length - (RowKit.intOf i).toNat)
  case atStart => exact ⟨0, Nat.zero_le _, rfl, Below.refl _ _⟩
  case round =>
    obtain ⟨k, hk, rfl, HB⟩ := hrel
    by_cases hlt : k < l.length
    · have hki : (k : Int) < (l.length : Int) := by omega
      have hk0 : (0 : Int) ≤ (k : Int) := by omega
      obtain ⟨A, rfl, x0⟩ := HU.out.cell HB.out hlt
      obtain ⟨A2, rfl, y0⟩ := HV.out.cell HB.out hlt
      generalize l.getD k 0 = x at *
      go_wp2
      go_quiet (fail)
      go_wp2
      go_roundw
      case rel => exact ⟨k + 1, by omega, by go_num, below_next HB.out (below_drawn _ _)⟩
      case measure => simp [RowKit.intOf]; omega
    · have hki : ¬ (k : Int) < (l.length : Int) := by omega
      go_wp2
      go_ret
      exact ⟨rfl, HB.out⟩
end Go.Proofs.YtnkpjkomokkhcaaGreatDoor
namespace Go.Proofs.YtnkpjkomokkhcaaGreatDoor
open Go Go.RowKit Go.Lib
set_option maxRecDepth 100000
theorem strM_get {R : List Rl} {k : Nat} (hk : k < R.length) (h100 : k < 100) (h : strM R (min 100 R.length) ≤ 600) : (R.getD k nilR).b.size ≤ 100000 ∧ (R.getD k nilR).a.size ≤ 100000 := by
  have hm : rlB (R.getD k nilR) ∈ (R.take (min 100 R.length)).map rlB := by
    refine List.mem_map.2 ⟨_, ?_, rfl⟩
    rw [List.getD_eq_getElem?_getD, List.getElem?_eq_getElem hk]
    have hk2 : k < (R.take (min 100 R.length)).length := by rw [List.length_take]; omega
    have e : (R.take (min 100 R.length))[k] = R[k] := List.getElem_take
    show R[k] ∈ _
    rw [← e]
    exact List.getElem_mem hk2
  have := sum_mem hm
  unfold strM at h
  unfold rlB at this h
  omega
theorem brR_len (R : List Rl) (l : List Pc) : (brR R l).length ≤ (unsL l).length := by
  unfold brR
  split
  · unfold brksL
    have := List.length_filter_le (fun p => decide (0 < p) && rlBreak R (unsL l) p) (List.range (unsL l).length)
    rw [List.length_range] at this
    exact this
  · simp
set_option maxHeartbeats 64000000 in
theorem breaks_law (R : List Rl) (l : List Pc) (vR v : Value) (w : World) (hr : RulesAt w vR R) (hv : PcsAt w v l)
    (hRz : ∀ x ∈ R, x.b.size ≤ 140737488355328 ∧ x.a.size ≤ 140737488355328) (hRl : R.length ≤ 140737488355328) (hsz : ∀ x ∈ l, x.s.size ≤ 140737488355328) (hll : l.length ≤ 140737488355328) (hT : Tabs w) (hC : ClsAt clsR w)
    (hR : ∀ w', Below w.heap.size w w' → Calls Tryz.prog 8 #[] w' fun e w'' => e = .returned (.bool true) ∧ Below w'.heap.size w' w'') :
    Calls Tryz.prog 5 #[vR, v] w fun e w' => e = .returned (.bool true) ∧ Below w.heap.size w w' := by
  have ar := Tryz.isAgg47
  have zr := Tryz.sizeOf47
  have cS := strict_any R vR w hr hRz hRl
  have cL := fun w1 (h : Below w.heap.size w w1) => long_any l v w1.heap.size (w1.alloc (.cells #[v] 22)) (by rw [Lib.cell_of_heap (heap_alloc_new w1 _)]; rfl) ((hv.step h).step (below_box _)) hsz hll
  have hg : 5 ≤ w.heap.size := hT.2.2
  have HRu := Lib.hid hr
  obtain ⟨p, cap, rfl, hl, hc, _⟩ := id hv
  obtain ⟨pR, cR, rfl, hlR, hcR, _⟩ := id hr
  unfold maxLen at hc hcR
  by_cases h1 : 600 < strM R (min 100 R.length)
  · have HS := Lib.hid (show decide (600 < strM R (min 100 R.length)) = true by simpa using h1)
    clear hv hr hT hC
    go_enter Tryz.func5, Tryz.ntmps5
    go_wp2_with (first
      | (go_at_call 16; (with_reducible refine cS.mono ?_); rintro e w1 ⟨he, hb1⟩; unfold StrEnd at he; rw [HS.out] at he; subst he; have HB1 := Lib.hid hb1; clear hb1)
      | (go_at_call 8; (with_reducible refine (hR _ HB1.out).mono ?_); rintro e w99 ⟨rfl, hb99⟩; have HB99 := Lib.hid (below_next HB1.out hb99); clear hb99))
    go_ret
    exact ⟨rfl, HB99.out⟩
  · have HS := Lib.hid (show decide (600 < strM R (min 100 R.length)) = false by simpa using h1)
    by_cases h3 : bulk l ≤ 2500
    · have cPl := fun wr (h : Below w.heap.size w wr) => refPlain_any l _ wr (hv.step h) (by omega)
      have hZ : SzR R := strM_sz (by omega)
      have cU1 := fun wr (h : Below w.heap.size w wr) => units_count l _ wr (hv.step h) (by omega) (hT.step h)
      have cU2 := fun wr (h : Below w.heap.size w wr) => refUnits_any l _ wr (hv.step h) (by omega)
      have cK1 := fun wr (h : Below w.heap.size w wr) => checkBreaks_any R _ wr (hr.step h) hZ (hT.step h)
      have cK2 := fun wr (h : Below w.heap.size w wr) => sCheckBreaks_any R _ wr (hr.step h) hZ
      have cB1 := fun wr (h : Below w.heap.size w wr) => breaks_any R l _ _ wr (hr.step h) hZ (hv.step h) (by omega) (hT.step h) (hC.below h (by omega))
      have cB2 := fun wr (h : Below w.heap.size w wr) => sBreaks_any R l _ _ wr (hr.step h) hZ (hv.step h) (by omega)
      have HF := Lib.hid (fun k (hk : k < R.length) (h100 : k < 100) => strM_get hk h100 (show strM R (min 100 R.length) ≤ 600 by omega))
      have cF1 := fun (x : Rl) (hx : x.b.size ≤ 100000 ∧ x.a.size ≤ 100000) (z : Int) wr (h : Below w.heap.size w wr) => fits_any x l _ z wr hx (hv.step h) (by omega) (hT.step h) (hC.below h (by omega))
      have cF2 := fun (x : Rl) (hx : x.b.size ≤ 100000 ∧ x.a.size ≤ 100000) (z : Int) wr (h : Below w.heap.size w wr) => sFitsR_any x l _ z wr hx (hv.step h) (by omega)
      have hbr : ((brR R l).map fun p : Nat => (p : Int)).length ≤ 1000000 := by
        have h1 := brR_len R l
        have h2 := sum_un l
        rw [uns_len] at h1
        unfold nUnits at h1
        rw [List.length_map]
        omega
      have hun : unE l ≤ 2500 := by
        have h2 := sum_un l
        unfold unE nUnits
        split
        · omega
        · omega
      clear hv hr hT hC
      generalize (brR R l).map (fun p : Nat => (p : Int)) = Q at *
      generalize brE R l = E at *
      generalize rlsE R = E2 at *
      generalize checkE l = E3 at *
      generalize unE l = n at *
      by_cases hP : 400 < (bytes (plainB l)).size
      · have hPI : (400 : Int) < ((bytes (plainB l)).size : Int) := by omega
        generalize bytes (plainB l) = s at *
        go_enter Tryz.func5, Tryz.ntmps5
        go_wp2_with (first
          | (go_at_call 16; (with_reducible refine cS.mono ?_); rintro e w1 ⟨he, hb1⟩; unfold StrEnd at he; rw [HS.out] at he; subst he; have HB1 := Lib.hid hb1; clear hb1)
          | (go_at_call 7; (with_reducible refine (cL _ HB1.out).mono ?_); rintro e w2 ⟨⟨b, rfl, hbb⟩, hw⟩; obtain rfl := hw.symm; have HB2 := Lib.hid (below_next HB1.out (below_box (w := w1) (.cells #[.slice p l.length cap] 22))); cases b)
          | (go_at_call 17; (with_reducible refine (cPl _ HB2.out).mono ?_); rintro e w3 ⟨rfl, hw⟩; obtain rfl := hw.symm)
          | (go_at_call 8; (with_reducible refine (hR _ HB2.out).mono ?_); rintro e w99 ⟨rfl, hb99⟩; have HB99 := Lib.hid (below_next HB2.out hb99); clear hb99))
        all_goals
          go_ret
          exact ⟨rfl, HB99.out⟩
      · have hPI : ¬ (400 : Int) < ((bytes (plainB l)).size : Int) := by omega
        generalize bytes (plainB l) = s at *
        go_enter Tryz.func5, Tryz.ntmps5
        go_wp2_with (first
          | (go_at_call 16; (with_reducible refine cS.mono ?_); rintro e w1 ⟨he, hb1⟩; unfold StrEnd at he; rw [HS.out] at he; subst he; have HB1 := Lib.hid hb1; clear hb1)
          | (go_at_call 7; (with_reducible refine (cL _ HB1.out).mono ?_); rintro e w2 ⟨⟨b, rfl, hbb⟩, hw⟩; obtain rfl := hw.symm; have HB2 := Lib.hid (below_next HB1.out (below_box (w := w1) (.cells #[.slice p l.length cap] 22))); cases b)
          | (go_at_call 17; (with_reducible refine (cPl _ HB2.out).mono ?_); rintro e w3 ⟨rfl, hw⟩; obtain rfl := hw.symm)
          | (go_at_call 8; (with_reducible refine (hR _ HB2.out).mono ?_); rintro e w99 ⟨rfl, hb99⟩; have HB99 := Lib.hid (below_next HB2.out hb99); clear hb99)
          | (go_at_call 18; (with_reducible refine (cU1 _ HB2.out).mono ?_); rintro e w4 ⟨rfl, hb4⟩; have HB4 := Lib.hid (below_next HB2.out hb4); clear hb4)
          | (go_at_call 14; (with_reducible refine (cU2 _ HB4.out).mono ?_); rintro e w5 ⟨rfl, hb5⟩; have HB5 := Lib.hid (below_next HB4.out hb5); clear hb5)
          | (go_at_call 19; (with_reducible refine (cK1 _ HB5.out).mono ?_); rintro e w6 ⟨rfl, hb6⟩; have HB6 := Lib.hid (below_next HB5.out hb6); clear hb6)
          | (go_at_call 20; (with_reducible refine (cK2 _ HB6.out).mono ?_); rintro e w7 ⟨rfl, hb7⟩; have HB7 := Lib.hid (below_next HB6.out hb7); clear hb7)
          | (go_at_call 21; (with_reducible refine (cB1 _ HB7.out).mono ?_); rintro e w8 ⟨⟨u8, rfl, hu8⟩, hb8⟩; have HU8 := Lib.hid hu8; obtain ⟨q8, c8, rfl, _, _⟩ := hu8.form; have HB8 := Lib.hid (below_next HB7.out hb8); clear hb8 hu8)
          | (go_at_call 22; (with_reducible refine (cB2 _ HB8.out).mono ?_); rintro e w9 ⟨⟨u9, rfl, hu9⟩, hb9⟩; have HU9 := Lib.hid hu9; have HU89 := Lib.hid (HU8.out.step hb9); obtain ⟨q9, c9, rfl, _, _⟩ := hu9.form; have HB9 := Lib.hid (below_next HB8.out hb9); clear hb9 hu9)
          | (go_at_call 23; (with_reducible refine (ints_any Q _ _ _ HU89.out HU9.out hbr).mono ?_); rintro e w10 ⟨rfl, hb10⟩; have HB10 := Lib.hid (below_next HB9.out hb10); clear hb10))
        · clear cS cL cPl cU1 cU2 cK1 cK2 cB1 cB2 HU8 HU9 HU89 HB1 HB2 HB4 HB5 HB6 HB7 HB8 HB9
          go_loopw [11] (fun i wr => ∃ k : Nat, i = .int .i64 k ∧ k ≤ R.length ∧ k ≤ 4 ∧ Hid (Below w.heap.size w wr)) (fun i _ => R.length - (RowKit.intOf i).toNat)
          case atStart => exact ⟨0, rfl, Nat.zero_le _, Nat.zero_le _, HB10.out⟩
          case round =>
            clear HB10
            obtain ⟨k, rfl, hk, hk4, HB⟩ := hrel
            by_cases hlt : k < R.length
            · have hki : (k : Int) < (R.length : Int) := by omega
              have hk0 : (0 : Int) ≤ (k : Int) := by omega
              by_cases h4 : k < 4
              · have h4I : (k : Int) < 4 := by omega
                obtain ⟨wo, hwo⟩ : ∃ wo, wo = wr := ⟨_, rfl⟩
                subst hwo
                go_wp2
                go_loopw [12] (fun i wr => ∃ z : Int, i = .int .i64 z ∧ -1 ≤ z ∧ z ≤ n + 2 ∧ Hid (Below w.heap.size w wr)) (fun i _ => ((n : Int) + 2 - RowKit.intOf i).toNat)
                case atStart => exact ⟨-1, rfl, by omega, by omega, HB.out⟩
                case round =>
                  clear HB
                  obtain ⟨z, rfl, hz1, hz2, HB⟩ := hrel
                  by_cases hz : z ≤ n + 1
                  · have hzI : z ≤ (n : Int) + 1 := hz
                    obtain ⟨A, rfl, x0, x1, x2⟩ := (HRu.out.step HB.out).get hlt
                    have hA : A.block < wr.heap.size := by have := World.block_lt_of_cell? wr _ x0; rwa [add_block] at this
                    have hAk : (A.add (k * 3)).block < wr.heap.size := by rw [add_block]; exact hA
                    have hx := HF.out k hlt (by omega)
                    have cf1 := cF1 (R.getD k nilR) hx z
                    have cf2 := cF2 (R.getD k nilR) hx z
                    generalize ftR (R.getD k nilR) l z = yb at *
                    generalize ftE (R.getD k nilR) l z = ye at *
                    generalize R.getD k nilR = x at *
                    obtain ⟨xb, xa, xk⟩ := x
                    dsimp only at x0 x1 x2 cf1 cf2
                    go_wp2_with (first
                      | (go_at_call 24; (with_reducible refine (cf1 _ HB.out).mono ?_); rintro e w4 ⟨rfl, hb4⟩; have y0 := (hb4.cell (p := A.add (k * 3)) hAk).trans x0; have y1 := (hb4.cell (p := { block := (A.add (k * 3)).block, off := (A.add (k * 3)).off + 1 }) hAk).trans x1; have y2 := (hb4.cell (p := { block := (A.add (k * 3)).block, off := (A.add (k * 3)).off + 2 }) hAk).trans x2; have HB4 := Lib.hid (below_next HB.out hb4); clear hb4)
                      | (go_at_call 25; (with_reducible refine (cf2 _ HB4.out).mono ?_); rintro e w5 ⟨rfl, hb5⟩; have HB5 := Lib.hid (below_next HB4.out hb5); clear hb5))
                    go_roundw
                    case rel => exact ⟨z + 1, by go_num, by omega, by omega, HB5.out⟩
                    case measure => simp [RowKit.intOf]; omega
                  · have hzI : ¬ z ≤ (n : Int) + 1 := hz
                    go_wp2
                    go_roundw
                    case rel => exact ⟨k + 1, by go_num, by omega, by omega, HB.out⟩
                    case measure => simp [RowKit.intOf]; omega
              · obtain rfl : k = 4 := by omega
                go_wp2_with (go_at_call 8; (with_reducible refine (hR _ HB.out).mono ?_); rintro e w99 ⟨rfl, hb99⟩; have HB99 := Lib.hid (below_next HB.out hb99); clear hb99)
                go_ret
                exact ⟨rfl, HB99.out⟩
            · have hki : ¬ (k : Int) < (R.length : Int) := by omega
              go_wp2_with (go_at_call 8; (with_reducible refine (hR _ HB.out).mono ?_); rintro e w99 ⟨rfl, hb99⟩; have HB99 := Lib.hid (below_next HB.out hb99); clear hb99)
              go_ret
              exact ⟨rfl, HB99.out⟩
        all_goals
          go_ret
          exact ⟨rfl, HB99.out⟩
    · clear hv hr hT hC
      go_enter Tryz.func5, Tryz.ntmps5
      go_wp2_with (first
        | (go_at_call 16; (with_reducible refine cS.mono ?_); rintro e w1 ⟨he, hb1⟩; unfold StrEnd at he; rw [HS.out] at he; subst he; have HB1 := Lib.hid hb1; clear hb1)
        | (go_at_call 7; (with_reducible refine (cL _ HB1.out).mono ?_); rintro e w2 ⟨⟨b, rfl, hbb⟩, hw⟩; obtain rfl := hw.symm; have HB2 := Lib.hid (below_next HB1.out (below_box (w := w1) (.cells #[.slice p l.length cap] 22))); cases b; exact absurd (hbb rfl) h3)
        | (go_at_call 8; (with_reducible refine (hR _ HB2.out).mono ?_); rintro e w99 ⟨rfl, hb99⟩; have HB99 := Lib.hid (below_next HB2.out hb99); clear hb99))
      go_ret
      exact ⟨rfl, HB99.out⟩
end Go.Proofs.YtnkpjkomokkhcaaGreatDoor
