/- Steps and units with places clipped: a round's body gets any element. Breaks, by the program. Breaks, by the program: any rules, any list. -/
import Derived.Test.YtnkpjkomokkhcaaGreatDoorBrD
namespace Go.Proofs.YtnkpjkomokkhcaaGreatDoor
open Go Go.RowKit Go.Lib
set_option maxRecDepth 100000
attribute [local go_sem] Oper.semAt_some
def clipN (n : Nat) : Nat := if n ≤ 90000 then n else 0
theorem clipN_of {n : Nat} (h : n ≤ 90000) : clipN n = n := if_pos h
theorem clipN_le (n : Nat) : clipN n ≤ 90000 := by unfold clipN; split <;> omega
def encS2 (y : Nat × Pc) : Array Value := #[.int .i64 (clipN y.1 : Nat), pcV (clip y.2)]
theorem encS2_of {p : Nat} {k : Int} {s : ByteArray} {c : Bool} (hp : p ≤ 90000) (h : s.size ≤ 16) : encS2 (p, ⟨k, s, c⟩) = #[.int .i64 (p : Int), .agg #[.int .u8 k, .string s, .bool c]] := by
  unfold encS2
  rw [clip_of (show (⟨k, s, c⟩ : Pc).s.size ≤ 16 from h), clipN_of (show (p, (⟨k, s, c⟩ : Pc)).1 ≤ 90000 from hp)]
  rfl
def encU2 (u : Nat × (Int × Nat)) : Array Value := #[.int .i64 (clipN u.1 : Nat), unV u.2]
set_option maxHeartbeats 16000000 in
theorem steps_in2 (n : Nat) (hn : 1 ≤ n) (lb B Bn : Nat) (l : List Pc) (p : Option Addr) (cap : Nat) (J Jx : List (Nat × Pc) → World → Prop)
    (hval : ∀ i, i < l.length → (l.getD i nil).k = 1 → textB (l.getD i nil).s = true) (hsz : ∀ i, i < l.length → (l.getD i nil).s.size ≤ 1000000) (hnm : ∀ i, i < l.length → (l.getD i nil).k ≠ 1 → (l.getD i nil).s.size ≤ 16) (hN : (singleL l).length ≤ 90000)
    (hY : ∀ pre y W1, J pre W1 → pre.length < (placed 0 (singleL l)).length → YieldAt Fence.wide (n - 1) Tryz.prog lb (encS2 y) W1 fun e W' =>
      (e = .returned (.bool true) ∧ J (pre ++ [y]) W' ∧ KpS B W1 W') ∨ (e = .returned (.bool false) ∧ Jx (pre ++ [y]) W'))
    (W : World) (hJ : AbidesFrom W.heap.size J) (hBx : W.heap[Bn]? = some (.cells #[.slice p l.length cap] 22 (0, 0))) (hBW : B ≤ W.heap.size) (hGB : 5 ≤ B) (hT : Lib.Utf8Tabs 2 3 W)
    (hl : l.length ≤ cap) (hc : cap ≤ maxLen) (hrow : 0 < l.length → ∃ A, p = some A ∧ A.block < B ∧ ∀ i j, i < l.length → j < 3 → W.cell? (A.add (i * 3 + j)) = some (pcF l i j)) (h0 : J [] W) :
    CallsIn Fence.wide n Tryz.prog 72 #[.func (.yield lb) #[] #[], .pointer (some ⟨Bn, 0, none⟩)] W fun e W' => (∃ v, e = .returned v) ∧
      ((∃ ys, ys = placed 0 (singleL l) ∧ J ys W') ∨ (∃ pre, pre <+: placed 0 (singleL l) ∧ Jx pre W')) := by
  unfold maxLen at hc
  have ag := Tryz.isAgg52
  have zg := Tryz.sizeOf52
  have c0 : W.cell? ⟨Bn, 0, none⟩ = some (.slice p l.length cap) := (Lib.cell_of_heap hBx 0).trans rfl
  have HJ := Lib.hid hJ
  have HY := Lib.hid hY
  have HV := Lib.hid hval
  have HT := Lib.hid hT
  have HR := Lib.hid hrow
  have HZ := Lib.hid hsz
  have HNM := Lib.hid hnm
  have HS0 := Lib.hid (show placed 0 (singleL l) = [] ++ placed 0 (singleL (l.drop 0)) by rw [List.drop_zero]; rfl)
  have H0 := Lib.hid h0
  have HN := Lib.hid (show (placed 0 (singleL l)).length ≤ 90000 by rw [placed_len]; exact hN)
  clear hJ hY hval hT hrow hBx h0 hsz hN hnm
  generalize hS : placed 0 (singleL l) = S at *
  clear hS
  refine callsIn_of_wp Tryz.func72 rfl trivial ?_ rfl
  simp only [Tryz.ntmps72, List.size_toArray, List.length_cons, List.length_nil, Nat.reduceAdd, Nat.reduceSub, Array.replicate_succ, Array.replicate_zero, List.push_toArray, List.append_toArray, List.nil_append, List.cons_append]
  gi_wp2
  gi_loopw [3, 11] (fun v3 v11 wr => ∃ (i place : Nat) (pre : List (Nat × Pc)), v3 = .int .i64 place ∧ v11 = .int .i64 i ∧ i ≤ l.length ∧ place ≤ pre.length ∧ Hid (S = pre ++ placed place (singleL (l.drop i))) ∧ Hid (J pre wr) ∧ Hid (Below B W wr)) (fun _ v11 _ => l.length - (RowKit.intOf v11).toNat)
  case atStart => exact ⟨0, 0, [], rfl, rfl, Nat.zero_le _, Nat.le_refl _, HS0.out, H0.out, Below.refl _ _⟩
  case round =>
    obtain ⟨i, place, pre, rfl, rfl, hi, hpl, HS, HJP, HST⟩ := hrel
    obtain ⟨wo, hwo⟩ : ∃ wo, wo = wr := ⟨_, rfl⟩
    subst hwo
    have hprl := Lib.hid (show pre.length ≤ 90000 by have h1 := HN.out; rw [HS.out, List.length_append] at h1; omega)
    by_cases hlt : i < l.length
    · obtain ⟨A, rfl, hA, hcell⟩ := HR.out (by omega)
      obtain ⟨x0, x1, x2⟩ := pcs_cells hA hcell hlt HST.out
      have hszo := HST.out.size
      have HSD := Lib.hid (HS.out.trans (congrArg (fun q => pre ++ placed place q) (single_drop hlt)))
      have hv := HV.out i hlt
      have hzz := HZ.out i hlt
      have hnn := HNM.out i hlt
      clear hcell HS
      generalize l.getD i nil = x at x0 x1 x2 HSD hv hzz hnn
      have HR1 := Lib.hid (rfl : singleL (l.drop (i + 1)) = singleL (l.drop (i + 1)))
      generalize hRR : singleL (l.drop (i + 1)) = R at HSD
      have HRR := Lib.hid hRR
      clear hRR HR1
      have HX1 := Lib.hid (show (wo.alloc (pcC x)).heap[wo.heap.size]? = some (pcC x) from heap_alloc_new wo (pcC x))
      have HB1 := Lib.hid (show Below B W (wo.alloc (pcC x)) from HST.out.trans ((below_box (w := wo) (pcC x)).mono (by omega)))
      have HJ1 := Lib.hid (abide_step HJ.out HJP.out (below_box (w := wo) (pcC x)))
      have hs1 : (wo.alloc (pcC x)).heap.size = wo.heap.size + 1 := by simp
      obtain ⟨k, s, c⟩ := x
      dsimp only at x0 x1 x2 hv hzz hnn
      unfold pcC at hs1
      by_cases hk : k = 1
      · subst hk
        have ht := Lib.hid (hv rfl)
        obtain ⟨y0, y1, y2⟩ := pc_box HX1.out
        dsimp only at y0 y1 y2
        unfold pcC at HX1 HB1 HJ1 y0 y1 y2
        have HSD2 := Lib.hid (show S = pre ++ placed place ((runesOf s).map runP ++ R) by rw [HSD.out]; unfold unP; rw [if_pos rfl])
        clear hv HSD
        gi_wp2
        generalize wo.alloc (.cells #[.int .u8 1, .string s, .bool c] 52) = W1 at *
        gi_loopw [3, 6] (fun v3 v6 wr => ∃ (place : Nat) (pre : List (Nat × Pc)) (t : ByteArray), v3 = .int .i64 place ∧ v6 = .string t ∧ place ≤ pre.length ∧ t.size ≤ 1000000 ∧ Hid (wr.heap[wo.heap.size]? = some (pcC ⟨1, s, c⟩)) ∧ Hid (textB t = true) ∧ Hid (S = pre ++ placed place ((runesOf t).map runP ++ R)) ∧ Hid (J pre wr) ∧ Hid (Below B W wr)) (fun _ v6 _ => strN v6)
        case atStart => exact ⟨place, pre, s, rfl, rfl, hpl, hzz, HX1.out, ht.out, HSD2.out, HJ1.out, HB1.out⟩
        case round =>
          clear HX1 HB1 HJ1 y0 y1 y2 HSD2 ht hpl hprl
          obtain ⟨place, pre, t, rfl, rfl, hpl, htz, HX, ht, HS, HJP, HST⟩ := hrel
          have hprl : pre.length ≤ 90000 := by have h1 := HN.out; rw [HS.out, List.length_append] at h1; omega
          obtain ⟨y0, y1, y2⟩ := pc_box HX.out
          dsimp only at y0 y1 y2
          have hszr := HST.out.size
          by_cases hp : 0 < t.size
          · have hne : t.toList.isEmpty = false := by
              rw [Lib.toList_data]
              cases h : t.data.toList with
              | nil => exact absurd (by rw [Lib.size_eq, h]; rfl) (Nat.pos_iff_ne_zero.1 hp)
              | cons _ _ => rfl
            have cD := utf8_DecodeRuneInString t wr (Utf8Tabs_belowB HT.out (by omega) (by omega) HST.out)
            have hdg : Lib.decodeGo t = Utf8.decode t 0 := by unfold Lib.decodeGo; rw [if_neg (by omega)]
            rw [hdg] at cD
            obtain ⟨he1, _, _, hdl⟩ := enc_ext0 hp (by rw [← textB_L]; exact ht.out)
            have hd4 : (t.extract 0 (Utf8.decode t 0).2).size ≤ 16 := by rw [← he1]; exact Nat.le_trans (enc_small _) (by decide)
            have hpm : place ≤ 90000 := by omega
            have HY1 := Lib.hid (fun W1 h1 h2 => encS2_of (p := place) (k := 1) (c := false) hpm hd4 ▸ HY.out pre (place, ⟨1, t.extract 0 (Utf8.decode t 0).2, false⟩) W1 h1 h2)
            have HS1 := Lib.hid (HS.out.trans (congrArg (pre ++ ·) (placed_runs (place := place) (R := R) hp ht.out)))
            have HT1 := Lib.hid (text_rest hp ht.out)
            have hwd := width_pos t 0
            have hq : IntKind.i64.wrap ((place : Int) + 1) = ((place + 1 : Nat) : Int) := by rw [IntKind.wrap_i64]; omega
            clear HS hdg he1 hd4
            generalize (Utf8.decode t 0).1 = r at *
            generalize (Utf8.decode t 0).2 = d at *
            have hdI : (d : Int) ≤ (t.size : Int) := by omega
            have hd0 : (0 : Int) ≤ (d : Int) := by omega
            gi_wp2_with (refine ⟨trivial, ?_⟩; gi_at_call 73; (with_reducible refine (callsIn_wide.2 cD).mono ?_); rintro e w2 ⟨rfl, hb2⟩; have HJ2 := Lib.hid (abide_step HJ.out HJP.out hb2); have HX2 := Lib.hid ((hb2.block _ (lt_of_block HX.out)).trans HX.out); have HST2 := Lib.hid (HST.out.trans (hb2.mono (by omega))); obtain ⟨fn, tmps, assign, body, hy, hR⟩ := HY1.out w2 HJ2.out (pre_lt HS1.out); clear hb2)
            refine hR.mono ?_
            rintro e W3 (⟨rfl, hJ3, hk3⟩ | ⟨rfl, hJx3⟩)
            · have HJ3 := Lib.hid hJ3
              have HX3 := Lib.hid (hk3.2.2.same _ _ HX2.out (calmI_pc _))
              have HST3 := Lib.hid (HST2.out.trans hk3.1)
              clear hJ3 hk3
              gi_wp2
              go_roundw
              case rel => exact ⟨place + 1, pre ++ [(place, (⟨1, t.extract 0 d, false⟩ : Pc))], t.extract d t.size, by go_num, rfl, by simp; omega, by rw [ByteArray.size_extract]; omega, HX3.out, HT1.out, by rw [List.append_assoc]; exact HS1.out, HJ3.out, HST3.out⟩
              case measure => simp [strN]; omega
            · gi_wp2
              refine bodyPost_ret (results_none rfl _ _ _) rfl ?_
              exact ⟨⟨_, rfl⟩, .inr ⟨_, pre_of HS1.out, hJx3⟩⟩
          · have hne : t.toList.isEmpty = true := by
              rw [Lib.toList_data]
              have : t.data.toList = [] := List.eq_nil_of_length_eq_zero (by rw [← Lib.size_eq]; omega)
              rw [this]; rfl
            have HS1 := Lib.hid (show S = pre ++ placed place (singleL (l.drop (i + 1))) by rw [HS.out, runes_end hp, HRR.out]; rfl)
            clear HS
            gi_wp2
            refine ⟨fun _ h => (by cases h), ?_⟩
            gi_wp2
            go_roundw
            case rel => exact ⟨i + 1, place, pre, rfl, by go_num, by omega, hpl, HS1.out, HJP.out, HST.out⟩
            case measure => simp [RowKit.intOf]; omega
      · have HSD2 := Lib.hid (show S = pre ++ (place, (⟨k, s, c⟩ : Pc)) :: placed (cutUn place ⟨k, s, c⟩) R by rw [HSD.out]; unfold unP; rw [if_neg hk]; rfl)
        obtain ⟨y0, y1, y2⟩ := pc_box HX1.out
        dsimp only at y0 y1 y2
        unfold pcC at HX1 HB1 HJ1 y0 y1 y2
        have hkb : (k == 1) = false := beq_eq_false_iff_ne.2 hk
        have hkn : (k != 1) = true := by simp [hk]
        have hq : IntKind.i64.wrap ((place : Int) + 1) = ((place + 1 : Nat) : Int) := by have := hprl.out; rw [IntKind.wrap_i64]; omega
        clear hv HSD
        gi_wp2
        generalize wo.alloc (.cells #[.int .u8 k, .string s, .bool c] 52) = W1 at *
        gi_loopw [3] (fun v3 wr => v3 = .int .i64 place ∧ wr = W1) (fun _ _ => 0)
        case atStart => exact ⟨rfl, rfl⟩
        case round =>
          obtain ⟨rfl, rfl⟩ := hrel
          obtain ⟨fn, tmps, assign, body, hy, hR⟩ := (encS2_of (p := place) (k := k) (c := c) (by have := hprl.out; omega) (hnn hk) ▸ HY.out pre (place, ⟨k, s, c⟩) wr HJ1.out (pre_lt HSD2.out))
          have HX1p := Lib.hid (show wr.heap[wo.heap.size]? = some (pcC ⟨k, s, c⟩) from HX1.out)
          gi_wp2
          refine hR.mono ?_
          rintro e W3 (⟨rfl, hJ3, hk3⟩ | ⟨rfl, hJx3⟩)
          · have HJ3 := Lib.hid hJ3
            have HX3 := hk3.2.2.same _ _ HX1p.out (calmI_pc _)
            have HST3 := Lib.hid (HB1.out.trans hk3.1)
            obtain ⟨z0, z1, z2⟩ := pc_box HX3
            dsimp only at z0 z1 z2
            clear hJ3 hk3 HX3
            by_cases h5 : k = 5
            · have h5b : (k == 5) = true := by simp [h5]
              have HS3 := Lib.hid (show S = (pre ++ [(place, (⟨k, s, c⟩ : Pc))]) ++ placed (place + 1) (singleL (l.drop (i + 1))) by rw [HSD2.out, HRR.out, List.append_assoc]; unfold cutUn; rw [if_pos (.inr h5)]; rfl)
              gi_wp2
              go_roundw
              case rel => exact ⟨i + 1, place + 1, pre ++ [(place, (⟨k, s, c⟩ : Pc))], by go_num, by go_num, by omega, by simp; omega, HS3.out, HJ3.out, HST3.out⟩
              case measure => simp [RowKit.intOf]; omega
            · have h5b : (k == 5) = false := by simp [h5]
              have HS3 := Lib.hid (show S = (pre ++ [(place, (⟨k, s, c⟩ : Pc))]) ++ placed place (singleL (l.drop (i + 1))) by rw [HSD2.out, HRR.out, List.append_assoc]; unfold cutUn; rw [if_neg (by rintro (h | h); exact hk h; exact h5 h)]; rfl)
              gi_wp2
              go_roundw
              case rel => exact ⟨i + 1, place, pre ++ [(place, (⟨k, s, c⟩ : Pc))], rfl, by go_num, by omega, by simp; omega, HS3.out, HJ3.out, HST3.out⟩
              case measure => simp [RowKit.intOf]; omega
          · gi_wp2
            refine bodyPost_ret (results_none rfl _ _ _) rfl ?_
            exact ⟨⟨_, rfl⟩, .inr ⟨_, pre_of HSD2.out, hJx3⟩⟩
    · have HE := Lib.hid (show pre = S by rw [HS.out, List.drop_of_length_le (by omega)]; simp [singleL, placed])
      gi_wp2
      go_end0
      exact ⟨⟨_, rfl⟩, .inl ⟨pre, HE.out, HJP.out⟩⟩
/-- the iterator that steps hands back tells the steps of a list -/
theorem steps_stops2 (n : Nat) (hn : 1 ≤ n) (B Bn : Nat) (l : List Pc) (p : Option Addr) (cap : Nat) (w : World)
    (hval : ∀ i, i < l.length → (l.getD i nil).k = 1 → textB (l.getD i nil).s = true) (hsz : ∀ i, i < l.length → (l.getD i nil).s.size ≤ 1000000) (hnm : ∀ i, i < l.length → (l.getD i nil).k ≠ 1 → (l.getD i nil).s.size ≤ 16) (hN : (singleL l).length ≤ 90000)
    (hBx : w.heap[Bn]? = some (.cells #[.slice p l.length cap] 22 (0, 0))) (hBW : B ≤ w.heap.size) (hGB : 5 ≤ B) (hT : Lib.Utf8Tabs 2 3 w) (hv : SliceAt B w (.slice p l.length cap) l.length 3 (pcF l)) :
    SeqStopsK Fence.wide n Tryz.prog 72 #[.pointer (some ⟨Bn, 0, none⟩)] encS2 (KpS B) (fun ys => ys = placed 0 (singleL l)) (fun pre => pre <+: placed 0 (singleL l)) (placed 0 (singleL l)).length w := by
  intro lb J Jx W hW hJ hJx hY h0
  obtain ⟨q, cap', e, h1, h2, h3⟩ := hv.below (hW.mono hBW)
  injection e with e1 e2 e3
  subst e1 e3
  exact steps_in2 n hn lb B Bn l p cap J Jx hval hsz hnm hN hY W hJ ((hW.block _ (lt_of_block hBx)).trans hBx) (Nat.le_trans hBW hW.size) hGB (Utf8Tabs_below hT hW) h1 h2 h3 h0
set_option maxHeartbeats 16000000 in
theorem units_over2 (f : Nat → Int) (n : Nat) (hn : 5 ≤ n) (B Bn : Nat) (l : List Pc) (p : Option Addr) (cap : Nat) (w : World)
    (hval : ∀ i, i < l.length → (l.getD i nil).k = 1 → textB (l.getD i nil).s = true) (hsz : ∀ i, i < l.length → (l.getD i nil).s.size ≤ 1000000) (hnm : ∀ i, i < l.length → (l.getD i nil).k ≠ 1 → (l.getD i nil).s.size ≤ 16) (hN : (singleL l).length ≤ 90000)
    (hBx : w.heap[Bn]? = some (.cells #[.slice p l.length cap] 22 (0, 0))) (hBW : B ≤ w.heap.size) (hGB : 5 ≤ B) (hT : Lib.Utf8Tabs 2 3 w) (hC : ClsAt f w) (hv : SliceAt B w (.slice p l.length cap) l.length 3 (pcF l)) :
    SeqOver n Tryz.prog 85 #[.pointer (some ⟨Bn, 0, none⟩)] encU2 (KpS B) (fun ys => ys = unitsP f (placed 0 (singleL l))) (fun pre => pre <+: unitsP f (placed 0 (singleL l))) (placed 0 (singleL l)).length w := by
  intro lb J Jx W hW hJ hJx hY h0
  have hBx := (hW.block _ (lt_of_block hBx)).trans hBx
  have hBW := Nat.le_trans hBW hW.size
  have hT := Utf8Tabs_below hT hW
  have hC := hC.below hW (by omega)
  have hv := hv.below (hW.mono (by omega))
  have c0 : W.cell? ⟨Bn, 0, none⟩ = some (.slice p l.length cap) := (Lib.cell_of_heap hBx 0).trans rfl
  have hbn : Bn < W.heap.size := lt_of_block hBx
  have hn1 : 1 ≤ n := by omega
  have cS := fun w => steps_any p l.length cap w
  have ag := Tryz.isAgg52
  have zg := Tryz.sizeOf52
  refine callsIn_of_wp_marks Tryz.func85 rfl trivial ?_ rfl
  simp only [Tryz.ntmps85, List.size_toArray, List.length_cons, List.length_nil, Nat.reduceAdd, Nat.reduceSub, Array.replicate_succ, Array.replicate_zero, List.push_toArray, List.append_toArray, List.nil_append, List.cons_append]
  gi_wp2_with (refine ⟨trivial, ?_⟩; gi_at_call 35; (with_reducible refine (callsIn_wide.2 (cS _)).mono ?_); rintro e w3 ⟨rfl, rfl⟩)
  have hs0 : ((W.alloc (.cells #[.func (.yield lb) #[] #[]] 149)).alloc (.cells #[.slice p l.length cap] 22)).heap.size = W.heap.size + 2 := by simp
  have HF0 := Lib.hid (show ((W.alloc (.cells #[.func (.yield lb) #[] #[]] 149)).alloc (.cells #[.slice p l.length cap] 22)).heap[W.heap.size]? = some (.cells #[.func (.yield lb) #[] #[]] 149 (0, 0)) by rw [Below.heap_alloc _ _ _ (by simp)]; exact heap_alloc_new W _)
  have HX0 := Lib.hid (show ((W.alloc (.cells #[.func (.yield lb) #[] #[]] 149)).alloc (.cells #[.slice p l.length cap] 22)).heap[W.heap.size + 1]? = some (.cells #[.slice p l.length cap] 22 (0, 0)) by
    have := heap_alloc_new (W.alloc (.cells #[.func (.yield lb) #[] #[]] 149)) (.cells #[.slice p l.length cap] 22)
    rwa [show (W.alloc (.cells #[.func (.yield lb) #[] #[]] 149)).heap.size = W.heap.size + 1 by simp] at this)
  have HB0 := Lib.hid (below_next (below_box (w := W) (.cells #[.func (.yield lb) #[] #[]] 149)) (below_box (w := W.alloc (.cells #[.func (.yield lb) #[] #[]] 149)) (.cells #[.slice p l.length cap] 22)))
  have HJ0 := Lib.hid (own_step hJ h0 HB0.out)
  generalize (W.alloc (.cells #[.func (.yield lb) #[] #[]] 149)).alloc (.cells #[.slice p l.length cap] 22) = Wr at *
  have cT := steps_stops2 (n - 1) (by omega) B (W.heap.size + 1) l p cap Wr hval hsz hnm hN HX0.out (by omega) hGB (Utf8Tabs_below hT HB0.out) (hv.below (HB0.out.mono hBW))
  refine wpIn_rangeFunc_ownH rfl (by omega) (gf := 72) (lb := #[.pointer (some ⟨W.heap.size + 1, 0, none⟩)]) rfl trivial (enters_of Tryz.func72 (by kernel_rfl) rfl)
    cT KpS.t (KpS.b (by omega)) (Below.refl _ _) (fun _ => rfl)
    (fun pre W' => J (unitsP f pre) W' ∧ Below B W W' ∧ W'.heap[W.heap.size]? = some (.cells #[.func (.yield lb) #[] #[]] 149 (0, 0)))
    (fun c pre W' => c = .ret ∧ Jx (unitsP f pre) W')
    (fun pre X Y row ⟨h1, h2, h3⟩ hg hr => ⟨hJ _ X Y row h1 hg (fun r e => ⟨by have := (hr r e).1; omega, (hr r e).2⟩), h2.grown hg (Nat.le_trans hBW (by have := lt_of_block h3; omega)) (fun k e => by have := (hr k e).1; omega), (hg.block _ (lt_of_block h3) (fun e => by have := (hr _ e.symm).1; omega)).trans h3⟩)
    (fun c pre X Y row ⟨h1, h2⟩ hg hr => ⟨h1, hJx _ X Y row h2 hg (fun r e => ⟨by have := (hr r e).1; omega, (hr r e).2⟩)⟩)
    ⟨HJ0.out, HB0.out.mono hBW, HF0.out⟩
    (fun y a' W' => (∃ b4 : Nat, a' = { tmps := #[.func (.yield lb) #[] #[], .pointer (some ⟨Bn, 0, none⟩), .pointer (some ⟨W.heap.size, 0, none⟩), .int .i64 (clipN y.1 : Nat), .pointer (some ⟨b4, 0, none⟩), undef, undef, undef, .slice p l.length cap, .func (.func 72) #[] #[.pointer (some ⟨W.heap.size + 1, 0, none⟩)], .int .i64 (clipN y.1 : Nat), pcV (clip y.2), undef, undef, undef, undef, undef, undef, undef, undef, undef, undef, undef, undef, undef, undef, undef, undef, undef, undef, undef, undef, undef], defers := [] } ∧ W'.heap[b4]? = some (pcC (clip y.2))))
    (fun y a' _ X Y row ⟨b4, h1, h2⟩ hg hr => ⟨b4, h1, (hg.block _ (lt_of_block h2) (fun e => by obtain ⟨o, ho, hc⟩ := (hr _ e.symm).2; rw [h2] at ho; cases ho; cases hc)).trans h2⟩)
    ?assign ?body ?done ?stop
  case assign =>
    rintro l1 pre y W1 K ⟨h1, h2, h3⟩ hK
    have HK := Lib.hid hK
    have HB1 := Lib.hid (below_box (w := W1) (pcC (clip y.2)))
    have HN1 := Lib.hid (heap_alloc_new W1 (pcC (clip y.2)))
    have HI1 := Lib.hid (own_step hJ h1 HB1.out)
    have hs1 := h2.size
    have hl3 := lt_of_block h3
    have HF1 := Lib.hid ((HB1.out.block _ hl3).trans h3)
    have HL1 := Lib.hid (h2.trans (HB1.out.mono (by omega)))
    clear hK h1 h2 h3
    unfold encS2
    generalize clip y.2 = q at *
    obtain ⟨k, s, c⟩ := q
    unfold pcC at HB1 HN1 HI1 HF1 HL1
    unfold pcV
    gi_wp2
    exact HK.out _ _ (KeepsFrom.of_below HB1.out) (KpS.of_below (by omega) HB1.out) ⟨HI1.out, HL1.out, HF1.out⟩ ⟨_, rfl, HN1.out⟩
  case body =>
    rintro lp pre y a' W1 hlp ⟨r0, hr0⟩ ⟨h1, h2, h3⟩ ⟨b4, rfl, h4⟩ hlt
    have HY := Lib.hid hY
    have HC1 := Lib.hid (hC.below h2 (by omega))
    have HT1 := Lib.hid (Utf8Tabs_belowB hT (B := B) (by omega) (by omega) h2)
    have HJ1 := Lib.hid h1
    have HF1 := Lib.hid h3
    have hf1 : W1.cell? ⟨W.heap.size, 0, none⟩ = some (.func (.yield lb) #[] #[]) := (Lib.cell_of_heap h3 0).trans rfl
    have hl3 := lt_of_block h3
    have hsz1 := h2.size
    have HU := Lib.hid (unitsP_app f pre y)
    have HLT := Lib.hid (Nat.lt_of_le_of_lt (unitsP_len f pre) hlt)
    have HL1 := Lib.hid h2
    have HJW := Lib.hid hJ
    have cI := isTag_any (clip y.2) W1
    have hb4 := lt_of_block h4
    have hn2 : 1 ≤ n - 1 := by omega
    have hn3 : 1 ≤ n - 1 - 1 := by omega
    have hn4 : 1 ≤ n - 1 - 1 - 1 := by omega
    obtain ⟨z0, z1, z2⟩ := pc_box h4
    have H4 := Lib.hid h4
    clear hY hC hT h1 h2 h3 h0 hJ hJx cT hr0 HJ0 HB0 HF0 HX0 hlt h4
    unfold unitP at HU
    generalize clip y.2 = q at *
    by_cases ht : isTagB q = true
    · have HU1 := Lib.hid (show unitsP f (pre ++ [y]) = unitsP f pre by rw [HU.out, if_pos ht, List.append_nil])
      rw [ht] at cI
      clear HU
      obtain ⟨k, s, c⟩ := q
      unfold pcV at cI ⊢
      dsimp only at z0 z1 z2 cI
      gi_wp2_with (refine ⟨trivial, ?_⟩; gi_at_call 86; (with_reducible refine (CallsIn.inRound lp (callsIn_wide.2 cI)).mono ?_); rintro e w2 ⟨rfl, hb2⟩; have HB2 := Lib.hid hb2; clear hb2)
      exact ⟨KeepsFrom.of_below HB2.out, KpS.of_below (by omega) HB2.out, by rw [HU1.out]; exact own_step HJW.out HJ1.out HB2.out, HL1.out.trans (HB2.out.mono (by omega)), (HB2.out.block _ hl3).trans HF1.out⟩
    · have HU1 := Lib.hid (show unitsP f (pre ++ [y]) = unitsP f pre ++ [(y.1, uOf f q)] by rw [HU.out, if_neg ht])
      have htf : isTagB q = false := by simpa using ht
      rw [htf] at cI
      clear HU ht htf
      obtain ⟨k, s, c⟩ := q
      unfold pcV at cI ⊢
      dsimp only at z0 z1 z2 cI
      have au := Tryz.isAgg152
      have zu := Tryz.sizeOf152
      by_cases hk : k = 1
      · subst hk
        have cD := fun w' (hb : Below W1.heap.size W1 w') => utf8_DecodeRuneInString s w' (Utf8Tabs_below HT1.out hb)
        have HUO := Lib.hid (show uOf f ⟨1, s, c⟩ = (clsF f (Lib.decodeGo s).1, (Lib.decodeGo s).1) from if_pos rfl)
        rw [HUO.out] at HU1
        clear HUO
        generalize (Lib.decodeGo s).1 = r at *
        generalize (Lib.decodeGo s).2 = d at *
        gi_wp2_with (first
          | (refine ⟨trivial, ?_⟩; gi_at_call 86; (with_reducible refine (CallsIn.inRound lp (callsIn_wide.2 cI)).mono ?_); rintro e w2 ⟨rfl, hb2⟩; have HB2 := Lib.hid hb2; have y0 := (hb2.cell (p := ⟨b4, 0, none⟩) hb4).trans z0; have y1 := (hb2.cell (p := ⟨b4, 1, none⟩) hb4).trans z1; have hb42 := Nat.lt_of_lt_of_le hb4 hb2.size; have hl32 := Nat.lt_of_lt_of_le hl3 hb2.size; have hs2 := hb2.size; have HBX := Lib.hid (below_next hb2 (below_box (w := w2) (.cells #[.int .u8 5, .int .i32 0] 152))); have HNX := Lib.hid (heap_alloc_new w2 (.cells #[.int .u8 5, .int .i32 0] 152)); clear hb2)
          | (refine ⟨trivial, ?_⟩; gi_at_call 73; (with_reducible refine (CallsIn.inRound lp (callsIn_wide.2 (cD _ HBX.out))).mono ?_); rintro e w4 ⟨rfl, hb4'⟩; have hu4 := (hb4'.block _ (lt_of_block HNX.out)).trans HNX.out; have d0 := (Lib.cell_of_heap hu4 0).trans rfl; have d1 := (Lib.cell_of_heap hu4 1).trans rfl; have f0 := Lib.frozen_of_heap hu4 0; have f1 := Lib.frozen_of_heap hu4 1; have HB4 := Lib.hid (below_next HBX.out hb4'); have cK := classOfF_any f r w4 (HC1.out.below HB4.out (by omega)); have hf4 := (HB4.out.cell (p := ⟨W.heap.size, 0, none⟩) hl3).trans hf1; have hs4 := HB4.out.size; have HB5 := Lib.hid ((HB4.out.setCell (p := ⟨w2.heap.size, 0, none⟩) hs2 (.int .u8 (clsF f r))).setCell (p := ⟨w2.heap.size, 1, none⟩) hs2 (.int .i32 (r : Int))); have HJ5 := Lib.hid (own_step HJW.out HJ1.out HB5.out); obtain ⟨fn, tmps, assign, body, hy, hR⟩ := HY.out (unitsP f pre) (y.1, (clsF f r, r)) _ HJ5.out HLT.out; unfold encU2 unV at hy; dsimp only at hy; clear hb4')
          | (refine ⟨trivial, ?_⟩; gi_at_call 87; (with_reducible refine (CallsIn.inRound lp (callsIn_wide.2 cK)).mono ?_); rintro e w5 ⟨rfl, rfl⟩))
        refine (roundIn_any hR).mono ?_
        rintro e W3 (⟨rfl, hJ3, hk3, hf3⟩ | ⟨rfl, hJx3, hf3⟩)
        · have H3 := Lib.hid (And.intro hJ3 (And.intro hk3 hf3))
          clear hJ3 hk3 hf3 hR
          gi_wp2
          exact ⟨(KeepsFrom.of_below HB5.out).trans (keeps_mono H3.out.2.2 (by omega)), (KpS.of_below (by omega) HB5.out).t H3.out.2.1, by rw [HU1.out]; exact H3.out.1, HL1.out.trans ((HB5.out.mono (by omega)).trans H3.out.2.1.1), H3.out.2.1.2.2.same _ _ ((HB5.out.block _ hl3).trans HF1.out) (.inr rfl)⟩
        · have H3 := Lib.hid (And.intro hJx3 hf3)
          clear hJx3 hf3 hR
          gi_wp2
          exact ⟨(KeepsFrom.of_below HB5.out).trans (keeps_mono H3.out.2 (by omega)), rfl, by rw [HU1.out]; exact H3.out.1⟩
      · have hkb : (k == 1) = false := beq_eq_false_iff_ne.2 hk
        have HUO := Lib.hid (show uOf f ⟨k, s, c⟩ = (5, 0) from if_neg hk)
        rw [HUO.out] at HU1
        clear HUO
        gi_wp2_with (refine ⟨trivial, ?_⟩; gi_at_call 86; (with_reducible refine (CallsIn.inRound lp (callsIn_wide.2 cI)).mono ?_); rintro e w2 ⟨rfl, hb2⟩; have HB2 := Lib.hid hb2; have hf2 := (hb2.cell (p := ⟨W.heap.size, 0, none⟩) hl3).trans hf1; have y0 := (hb2.cell (p := ⟨b4, 0, none⟩) hb4).trans z0; have hb42 := Nat.lt_of_lt_of_le hb4 hb2.size; have hl32 := Nat.lt_of_lt_of_le hl3 hb2.size; have HBX := Lib.hid (below_next hb2 (below_box (w := w2) (.cells #[.int .u8 5, .int .i32 0] 152))); have HJX := Lib.hid (own_step HJW.out HJ1.out HBX.out); obtain ⟨fn, tmps, assign, body, hy, hR⟩ := HY.out (unitsP f pre) (y.1, (5, 0)) _ HJX.out HLT.out; unfold encU2 unV at hy; dsimp only at hy; rw [show ((0 : Nat) : Int) = 0 from rfl] at hy; clear hb2)
        refine (roundIn_any hR).mono ?_
        rintro e W3 (⟨rfl, hJ3, hk3, hf3⟩ | ⟨rfl, hJx3, hf3⟩)
        · have H3 := Lib.hid (And.intro hJ3 (And.intro hk3 hf3))
          clear hJ3 hk3 hf3 hR
          gi_wp2
          exact ⟨(KeepsFrom.of_below HBX.out).trans (keeps_mono H3.out.2.2 (by omega)), (KpS.of_below (by omega) HBX.out).t H3.out.2.1, by rw [HU1.out]; exact H3.out.1, HL1.out.trans ((HBX.out.mono (by omega)).trans H3.out.2.1.1), H3.out.2.1.2.2.same _ _ ((HBX.out.block _ hl3).trans HF1.out) (.inr rfl)⟩
        · have H3 := Lib.hid (And.intro hJx3 hf3)
          clear hJx3 hf3 hR
          gi_wp2
          exact ⟨(KeepsFrom.of_below HBX.out).trans (keeps_mono H3.out.2 (by omega)), rfl, by rw [HU1.out]; exact H3.out.1⟩
  case done =>
    rintro D ys Wd hD rfl ⟨h1, h2, h3⟩ hK
    have HK := Lib.hid hK
    have H1 := Lib.hid h1
    have HJ := Lib.hid hJ
    clear hK h1 hJ hJx hY
    gi_wp2
    exact leavesMarks (fun W' => J (unitsP f (placed 0 (singleL l))) W') Wr.heap.size (fun W1 D1 h hD1 hk1 => HJ.out.putObj _ h (by omega) hk1 rfl) (fun W1 h => ⟨_, results_none rfl _ _ _, ⟨_, rfl⟩, .inl ⟨_, rfl, h⟩⟩) [D] _ H1.out ((MarksAt.nil _ _).cons hD (by simp) HK.out)
  case stop =>
    rintro D c pre Wd hD hpre ⟨rfl, h1⟩ hK
    have HK := Lib.hid hK
    have H1 := Lib.hid h1
    have HJ := Lib.hid hJx
    clear hK h1 hJ hJx hY
    gi_wp2
    exact leavesMarks (fun W' => Jx (unitsP f pre) W') Wr.heap.size (fun W1 D1 h hD1 hk1 => HJ.out.putObj _ h (by omega) hk1 rfl) (fun W1 h => ⟨_, results_none rfl _ _ _, ⟨_, rfl⟩, .inr ⟨_, unitsP_pre f hpre, h⟩⟩) [D] _ H1.out ((MarksAt.nil _ _).cons hD (by simp) HK.out)
end Go.Proofs.YtnkpjkomokkhcaaGreatDoor
namespace Go.Proofs.YtnkpjkomokkhcaaGreatDoor
open Go Go.RowKit Go.Lib
set_option maxRecDepth 100000
attribute [local go_sem] Oper.semAt_some
/-- whether a rule fits a place, wherever that is; which rule says so first -/
def rlFitsC (x : Rl) (L : List Un) (q : Nat) : Bool := fitsB L ((q : Int) - (ftW (items x.b) : Nat)) (items x.b) && fitsB L (q : Int) (items x.a)
def rlBreakC : List Rl → List Un → Nat → Bool
  | [], _, _ => false
  | x :: R, L, q => if rlFitsC x L q = true then x.k else rlBreakC R L q
theorem breakC_of {L : List Un} {q : Nat} (hq : q ≤ L.length) : ∀ R, rlBreakC R L q = rlBreak R L q
  | [] => rfl
  | x :: R => by
    unfold rlBreakC rlBreak
    rw [breakC_of hq R]
    unfold rlFitsC
    rw [fits_rule x L q hq]
def outsC (R : List Rl) (L : List Un) (pre : List (Nat × (Int × Nat))) : List Nat := (pre.map fun x => clipN x.1).filter fun q => decide (0 < q) && rlBreakC R L q
theorem outsC_app (R : List Rl) (L : List Un) (pre : List (Nat × (Int × Nat))) (x : Nat × (Int × Nat)) : outsC R L (pre ++ [x]) = outsC R L pre ++ (if (decide (0 < clipN x.1) && rlBreakC R L (clipN x.1)) = true then [clipN x.1] else []) := by
  unfold outsC
  rw [List.map_append, List.filter_append]
  congr 1
  cases h : (decide (0 < clipN x.1) && rlBreakC R L (clipN x.1)) <;> simp [h]
theorem outsC_len (R : List Rl) (L : List Un) (pre : List (Nat × (Int × Nat))) : (outsC R L pre).length ≤ pre.length := by
  unfold outsC
  exact Nat.le_trans (List.length_filter_le _ _) (by rw [List.length_map]; exact Nat.le_refl _)
theorem outs_all {R : List Rl} {l : List Pc} (h : ∀ x ∈ l, pieceE x = 0) (hn : (unsL l).length ≤ 90000) : outsC R (unsL l) (unitsP clsR (placed 0 (singleL l))) = brksL R (unsL l) := by
  have h1 := units_fst clsR (singleL l) 0 (single_ok h)
  have hu := congrArg List.length (gather_units (f := clsR) (fun _ _ => rfl) h)
  rw [List.length_map, List.length_map] at hu
  unfold outsC brksL
  have e1 : (unitsP clsR (placed 0 (singleL l))).map (fun x => clipN x.1) = List.range (unsL l).length := by
    rw [show (fun x : Nat × (Int × Nat) => clipN x.1) = clipN ∘ Prod.fst from rfl, ← List.map_map, h1, hu, List.range_eq_range']
    have key : ∀ xs : List Nat, (∀ y ∈ xs, y ≤ 90000) → xs.map clipN = xs := fun xs hx => by
      induction xs with
      | nil => rfl
      | cons y xs ih => rw [List.map_cons, clipN_of (hx y (List.mem_cons_self ..)), ih (fun z hz => hx z (List.mem_cons_of_mem _ hz))]
    exact key _ fun y hy => by have := List.mem_range'_1.1 hy; omega
  rw [e1]
  refine List.filter_congr fun q hq => ?_
  rw [breakC_of (Nat.le_of_lt (List.mem_range.1 hq))]
def cellsI (us : List Nat) : List Value := us.map fun p : Nat => .int .i64 (p : Int)
theorem cellsI_app (us vs : List Nat) : cellsI (us ++ vs) = cellsI us ++ cellsI vs := by unfold cellsI; exact List.map_append
def OutAt (B b : Nat) (us : List Nat) (W : World) : Prop := ∃ v, W.heap[b]? = some (.cells #[v] 23 (0, 0)) ∧ W.ownsRow B 3 1 v us.length (cellsI us)
theorem OutAt.turned {B b base : Nat} {us : List Nat} {X Y : World} {row : Option Nat} (h : OutAt B b us X) (hg : X.grownBy Y row) (hr : ∀ r, row = some r → base ≤ r ∧ ∃ o : Obj, X.heap[r]? = some o ∧ o.isCells = false) : OutAt B b us Y := by
  obtain ⟨v, h1, h2⟩ := h
  have hk : Keeps (fun o => o.isCells = true) X Y := ⟨hg.size, fun k o hk ho => (hg.block k (lt_of_block hk) (fun e => by obtain ⟨_, q, hq, hqc⟩ := hr k e.symm; rw [hk] at hq; cases hq; rw [ho] at hqc; cases hqc)).trans hk⟩
  exact ⟨v, hk.same _ _ h1 rfl, hk.row h2 fun _ => rfl⟩
theorem OutAt.step {B b : Nat} {us : List Nat} {W W' : World} (h : OutAt B b us W) (hb : Below W.heap.size W W') : OutAt B b us W' := by
  obtain ⟨v, h1, h2⟩ := h
  have hk := Keeps.below (C := fun _ => True) hb
  exact ⟨v, hk.same _ _ h1 trivial, hk.row h2 fun _ => trivial⟩
theorem OutAt.put {B b : Nat} {us : List Nat} {W W2 : World} {v0 v' : Value} {u : Nat} {o : Obj} (hbx : W.heap[b]? = some (.cells #[v0] 23 (0, 0))) (hown : W.ownsRow B 3 1 v0 us.length (cellsI us)) (hB : B ≤ b) (hg : (W.alloc o).grownBy W2 v0.ownBlock) (hr : W2.ownsRow B 3 1 v' (us.length + 1) (cellsI us ++ [.int .i64 (u : Int)])) :
    OutAt B b (us ++ [u]) (W2.setCell ⟨b, 0, none⟩ v') ∧ Acc B W (W2.setCell ⟨b, 0, none⟩ v') := by
  have hBW : B ≤ W.heap.size := by have := lt_of_block hbx; omega
  have hl := lt_of_block hbx
  have hbx1 : (W.alloc o).heap[b]? = some (.cells #[v0] 23 (0, 0)) := (Below.heap_alloc _ _ _ hl).trans hbx
  have hown1 : (W.alloc o).ownsRow B 3 1 v0 us.length (cellsI us) := hown.alloc _
  have h2 : W2.heap[b]? = some (.cells #[v0] 23 (0, 0)) := (hg.block b (lt_of_block hbx1) (fun e => own_other hown1 hbx1 (by decide) e.symm)).trans hbx1
  have hk : Keeps calmI (W.alloc o) W2 := Keeps.grown hown1 hg (fun _ => not_calmI_of (by decide) (by decide))
  have hn : ∀ (k : Nat) (q : Obj), (W.alloc o).heap[k]? = some q → q.isCells = false → W2.heap[k]? = some q := fun k q hk hq => (hg.block k (lt_of_block hk) (fun e => by
    rcases hown1.2 with ⟨rfl, _⟩ | ⟨g, cap, cur, rfl, _, hgg, _⟩
    · simp [Value.ownBlock] at e
    · simp only [Value.ownBlock, Option.some.injEq] at e
      subst e
      rw [hgg] at hk; cases hk; cases hq)).trans hk
  have hb2 : Below B (W.alloc o) W2 := (Below.refl _ _).grown hg (by simp; omega) (fun k e => (hown1.lt k e).1)
  have hz : Keeps (fun q => match q with | .cells _ t _ => t ≠ 23 | _ => True) W2 (W2.setCell ⟨b, 0, none⟩ v') :=
    (Keeps.refl _ _).setCell h2 (fun h => h rfl) 0 _
  refine ⟨⟨v', by rw [heap_set h2]; rfl, ?_⟩, (Acc.step hBW (below_box o)).trans (Acc.trans ⟨hb2, hn, hk⟩ (Acc.set h2 hB (not_calmI_of (by decide) (by decide)) 0 _))⟩
  rw [List.length_append, List.length_singleton, cellsI_app]
  exact hz.row hr fun _ => (show 3 ≠ 23 by decide)
theorem bkFitsC_any {u : Bk} {L : List Un} {v : Value} {p : Nat} {w : World} (hE : rlE u.x = 0) (hu : OwnT w u.vb (items u.x.b) ∧ OwnT w u.va (items u.x.a)) (hU : UnsAt w v L) (hok : ∀ u ∈ L, okU u) (hm : L.length ≤ 50000) (hp : p ≤ 90000) :
    Calls Tryz.prog 57 #[.agg #[u.vb, .int .i64 (ftW (items u.x.b) : Nat), u.va, .int .i64 (ftW (items u.x.a) : Nat), .bool u.x.k], v, .int .i64 (p : Int)] w fun e w' => e = .returned (.bool (rlFitsC u.x L p)) ∧ Below w.heap.size w w' := by
  obtain ⟨h1, h2⟩ := rl_ok hE
  obtain ⟨l1, n1⟩ := items_ok h1
  obtain ⟨l2, n2⟩ := items_ok h2
  exact ruleFits_any (items u.x.b) (items u.x.a) u.x.k L v u.vb u.va p w hU hu.1.tests hu.2.tests hok n1 n2 hm (by omega) (by omega) hp
theorem breakC_drop {R : List Rl} {us : List Bk} (hm : us.map Bk.x = R) {k : Nat} (hk : k < us.length) (L : List Un) (q : Nat) : rlBreakC (R.drop k) L q = (if rlFitsC (us.getD k nilB).x L q = true then (us.getD k nilB).x.k else rlBreakC (R.drop (k + 1)) L q) := by
  subst hm
  rw [← List.map_drop, ← List.map_drop, List.drop_eq_getElem_cons hk, List.map_cons, List.getD_eq_getElem?_getD, List.getElem?_eq_getElem hk]
  rfl
theorem rlE_us {R : List Rl} {us : List Bk} (hm : us.map Bk.x = R) (h : ∀ i, i < R.length → rlE (R.getD i nilR) = 0) {k : Nat} (hk : k < us.length) : rlE (us.getD k nilB).x = 0 := by
  subst hm
  have := h k (by rw [List.length_map]; exact hk)
  rw [List.getD_eq_getElem?_getD, List.getElem?_map, List.getElem?_eq_getElem hk] at this
  rw [List.getD_eq_getElem?_getD, List.getElem?_eq_getElem hk]
  exact this
theorem box5_all {W : World} {Bn t : Nat} {a b c d e : Value} (h : W.heap[Bn]? = some (.cells #[a, b, c, d, e] t (0, 0))) : W.cell? ⟨Bn, 0, none⟩ = some a ∧ W.cell? ⟨Bn, 1, none⟩ = some b ∧ W.cell? ⟨Bn, 2, none⟩ = some c ∧ W.cell? ⟨Bn, 3, none⟩ = some d ∧ W.cell? ⟨Bn, 4, none⟩ = some e :=
  ⟨(Lib.cell_of_heap h 0).trans rfl, (Lib.cell_of_heap h 1).trans rfl, (Lib.cell_of_heap h 2).trans rfl, (Lib.cell_of_heap h 3).trans rfl, (Lib.cell_of_heap h 4).trans rfl⟩
theorem info_intI : (Tryz.prog.info? 3).map (fun i => (i.zero, i.size, i.bytes)) = some (some (.int .i64 0), 1, 8) := by kernel_rfl
theorem info_int_of : ∃ i, Tryz.prog.info? 3 = some i ∧ i.zero = some (.int .i64 0) ∧ i.size = 1 ∧ i.bytes = 8 := by
  have h := info_intI
  cases hq : Tryz.prog.info? 3 with
  | none => rw [hq] at h; cases h
  | some i => rw [hq] at h; simp only [Option.map_some, Option.some.injEq, Prod.mk.injEq] at h; exact ⟨i, rfl, h.1, h.2.1, h.2.2⟩
theorem Acc.low {B B' : Nat} {W W' : World} (h : Acc B' W W') (hB : B ≤ B') : Acc B W W' := ⟨h.bel.mono hB, h.non, h.calm⟩
theorem OwnT.form {w : World} {v : Value} {X : List Ft} (h : OwnT w v X) : ∃ q c, v = .slice q X.length c := by
  obtain ⟨us, h2, _, _⟩ := h
  exact own_slice h2
theorem rls_len {R : List Rl} (h : rlsE R = 0) : R.length ≤ 64 := by
  unfold rlsE at h
  split at h
  · cases h
  · omega
set_option maxHeartbeats 32000000 in
theorem breaks_main (R : List Rl) (l : List Pc) (vR v : Value) (w : World) (hr : RulesAt w vR R) (hz : SzR R) (hv : PcsAt w v l) (hb : bulk l ≤ 10000) (hT : Tabs w) (hC : ClsAt clsR w) (h1 : rlsE R = 0) (h2 : checkE l = 0) :
    Calls Tryz.prog 21 #[vR, v] w fun e w' => (∃ r, e = .returned (.tuple #[r, .int .u8 0]) ∧ w'.ownsRow w.heap.size 3 1 r (brksL R (unsL l)).length (cellsI (brksL R (unsL l)))) ∧ Below w.heap.size w w' := by
  have ab := Tryz.isAgg112
  have zb := Tryz.sizeOf112
  have HV := Lib.hid hv
  have HT := Lib.hid hT
  have HC := Lib.hid hC
  have hG := hT.2.2
  have cR := compileRules_any R vR w hr hz hT
  unfold RlsEnd at cR
  rw [h1] at cR
  have cP := fun w' hp ht => checkPieces_any l v w' hp (short_mem (by omega)) ht
  simp only [h2] at cP
  have cG := fun w' hp ht hc => gatherU_any clsR (fun _ _ => rfl) l v w' hp h2 hb ht hc
  obtain ⟨pR, capR, rfl, hlR, hcR, hrowR⟩ := hr
  obtain ⟨p, cap, rfl, hl, hc, hrow⟩ := hv
  clear hrow hrowR hT hC hz
  unfold maxLen at hc hcR
  have cU := fun w => unitsIt_any p l.length cap w
  have hnU : (unsL l).length ≤ 10000 := by have h := sum_un l; rw [uns_len]; unfold nUnits; omega
  have hval := all_valid h2
  have HUO := Lib.hid (uns_ok (valid_mem h2))
  have HOA := Lib.hid (outs_all (R := R) (valid_mem h2) (by omega))
  have HRL := Lib.hid (rls_ok h1)
  have hNs : (singleL l).length ≤ 10000 := Nat.le_trans (flat_len l) hb
  refine (callsIn_wide (n := 9)).1 ?_
  refine callsIn_of_wp_marks Tryz.func21 rfl trivial ?_ rfl
  simp only [Tryz.ntmps21, List.size_toArray, List.length_cons, List.length_nil, Nat.reduceAdd, Nat.reduceSub, Array.replicate_succ, Array.replicate_zero, List.push_toArray, List.append_toArray, List.nil_append, List.cons_append]
  gi_wp2
  refine (wpIn_wide (n := 9)).2 (wp_scope_straight ((wpIn_wide (n := 9)).1 ?_))
  gi_wp2_with (first
    | (refine ⟨trivial, ?_⟩; gi_at_call 53; (with_reducible refine (callsIn_wide.2 cR).mono ?_); rintro e w3 ⟨⟨vr, rfl, _, h3⟩, hb3⟩; obtain ⟨us, hm3, ho3⟩ := h3 (by first | trivial | rfl); obtain ⟨q3, c3, rfl⟩ := own_slice ho3.1; have HM3 := Lib.hid hm3; have HO3 := Lib.hid (ho3.step (below_box (.cells #[.slice q3 us.length c3] 98))); have H63 := Lib.hid (heap_alloc_new w3 (.cells #[.slice q3 us.length c3] 98)); have HB3 := Lib.hid (below_next hb3 (below_box (.cells #[.slice q3 us.length c3] 98))); clear h3 hb3 hm3 ho3)
    | (refine ⟨trivial, ?_⟩; gi_at_call 44; (with_reducible refine (callsIn_wide.2 (cP _ (PcsAt.step HB3.out HV.out) (HT.out.step HB3.out))).mono ?_); rintro e w4 ⟨rfl, hb4⟩; have HO4 := Lib.hid (HO3.out.step hb4); have H64 := Lib.hid ((hb4.block _ (lt_of_block H63.out)).trans H63.out); have HB4 := Lib.hid (below_next HB3.out hb4); clear hb4)
    | (refine ⟨trivial, ?_⟩; gi_at_call 56; (with_reducible refine (callsIn_wide.2 (cG _ (PcsAt.step HB4.out HV.out) (HT.out.step HB4.out) (HC.out.below HB4.out (by omega)))).mono ?_); rintro e w5 ⟨⟨r5, rfl, hu5⟩, hb5⟩; obtain ⟨qu, cu, rfl, hlu, hcu⟩ := hu5.form; have HU5 := Lib.hid hu5; have HO5 := Lib.hid (HO4.out.step hb5); have H65 := Lib.hid ((hb5.block _ (lt_of_block H64.out)).trans H64.out); have HB5 := Lib.hid (below_next HB4.out hb5); clear hb5 hu5)
    | (refine ⟨trivial, ?_⟩; gi_at_call 52; (with_reducible refine (callsIn_wide.2 (cU _)).mono ?_); rintro e w6 ⟨rfl, rfl⟩))
  refine wpIn_label ?_
  gi_wp2_with (refine ⟨trivial, ?_⟩; gi_at_call 52; (with_reducible refine (callsIn_wide.2 (cU _)).mono ?_); rintro e w6 ⟨rfl, rfl⟩)
  have h9a : (w5.alloc (.cells #[.slice qu (unsL l).length cu] 106)).heap.size = w5.heap.size + 1 := by simp
  have h10a : ((w5.alloc (.cells #[.slice qu (unsL l).length cu] 106)).alloc (.cells #[.slice none 0 0] 23)).heap.size = w5.heap.size + 2 := by simp
  have hw35 := lt_of_block H65.out
  have hws : w.heap.size ≤ w5.heap.size := HB5.out.size
  have hbA := below_box (w := w5) (.cells #[.slice qu (unsL l).length cu] 106)
  have hbB := below_box (w := w5.alloc (.cells #[.slice qu (unsL l).length cu] 106)) (.cells #[.slice none 0 0] 23)
  have hbC := below_box (w := (w5.alloc (.cells #[.slice qu (unsL l).length cu] 106)).alloc (.cells #[.slice none 0 0] 23)) (.cells #[.slice p l.length cap] 22)
  have HBR := Lib.hid (below_next (below_next hbA hbB) hbC)
  have H9 := Lib.hid (((below_next hbB hbC).block _ (by rw [h9a]; omega)).trans (heap_alloc_new w5 (.cells #[.slice qu (unsL l).length cu] 106)))
  have hn10 := heap_alloc_new (w5.alloc (.cells #[.slice qu (unsL l).length cu] 106)) (.cells #[.slice none 0 0] 23)
  rw [h9a] at hn10
  have H10 := Lib.hid ((hbC.block _ (by rw [h10a]; omega)).trans hn10)
  have hn11 := heap_alloc_new ((w5.alloc (.cells #[.slice qu (unsL l).length cu] 106)).alloc (.cells #[.slice none 0 0] 23)) (.cells #[.slice p l.length cap] 22)
  rw [h10a] at hn11
  have HX0 := Lib.hid hn11
  have hsr : (((w5.alloc (.cells #[.slice qu (unsL l).length cu] 106)).alloc (.cells #[.slice none 0 0] 23)).alloc (.cells #[.slice p l.length cap] 22)).heap.size = w5.heap.size + 3 := by simp
  clear hbA hbB hbC hn10 hn11 h9a h10a
  generalize ((w5.alloc (.cells #[.slice qu (unsL l).length cu] 106)).alloc (.cells #[.slice none 0 0] 23)).alloc (.cells #[.slice p l.length cap] 22) = Wr at *
  have HB6 := Lib.hid (below_next HB5.out HBR.out)
  have cT := units_over2 clsR (9 - 1) (by omega) w.heap.size (w5.heap.size + 2) l p cap Wr (fun i hi h => text_pc (hval i hi) h) (fun i hi => by have := bulk_getD hi; omega) (fun i hi h => small_pc (hval i hi) h) (by omega) HX0.out (by omega) hG (Utf8Tabs_below HT.out.2.1 HB6.out) (HC.out.below HB6.out (by omega)) (HV.out.below HB6.out)
  have hpl : (placed 0 (singleL l)).length ≤ 10000 := by rw [placed_len]; exact hNs
  refine range_over (gf := 85) (lb := #[.pointer (some ⟨w5.heap.size + 2, 0, none⟩)]) rfl (enters_of Tryz.func85 (by kernel_rfl) rfl)
    cT KpS.t (KpS.b (by omega)) (Below.refl _ _) (fun _ => rfl)
    (fun (pre : List (Nat × (Int × Nat))) W' => Below w5.heap.size w5 W' ∧ W'.heap[w5.heap.size]? = some (.cells #[.slice qu (unsL l).length cu] 106 (0, 0)) ∧ OutAt w5.heap.size (w5.heap.size + 1) (outsC R (unsL l) pre) W')
    (fun _ _ _ => False)
    (fun pre X Y row ⟨g1, g2, g3⟩ hg hr => ⟨g1.grown hg g1.size (fun k e => by have := (hr k e).1; omega), (hg.block _ (lt_of_block g2) (fun e => by have := (hr _ e.symm).1; omega)).trans g2, g3.turned hg hr⟩)
    (fun c pre X Y row h => h.elim)
    ⟨HBR.out, H9.out, ⟨_, H10.out, World.ownsRow_nil _ _ _ _⟩⟩
    (fun y => { tmps := #[.slice pR R.length capR, .slice p l.length cap, undef, undef, .slice none 0 0, .int .u8 0, .pointer (some ⟨w3.heap.size, 0, none⟩), .int .u8 0, .int .u8 0, .pointer (some ⟨w5.heap.size, 0, none⟩), .pointer (some ⟨w5.heap.size + 1, 0, none⟩), .int .i64 (clipN y.1 : Nat), undef, undef, .tuple #[.slice q3 us.length c3, .int .u8 0], .slice pR R.length capR, .tuple #[.slice q3 us.length c3, .int .u8 0], .slice q3 us.length c3, .int .u8 0, .int .u8 0, .bool false, undef, .slice p l.length cap, .int .u8 0, .int .u8 0, .bool false, undef, .slice p l.length cap, .slice qu (unsL l).length cu, .slice p l.length cap, .func (.func 85) #[] #[.pointer (some ⟨w5.heap.size + 2, 0, none⟩)], .int .i64 (clipN y.1 : Nat), unV y.2, undef, undef, undef, undef, undef, undef, undef, undef, undef, undef, undef, undef, undef, undef, undef, undef, undef, undef, undef, undef, undef], defers := [] }) ?assign ?body ?done ?stop
  case assign =>
    intro l1 y W K hK
    unfold encU2
    gi_wp2
    simpa using hK
  case body =>
    rintro lp pre y W' ⟨g1, g2, g3⟩ hlt
    obtain ⟨q, hq⟩ : ∃ q, clipN y.1 = q := ⟨_, rfl⟩
    have hq9 : q ≤ 90000 := hq ▸ clipN_le y.1
    have HOU := Lib.hid (hq ▸ outsC_app R (unsL l) pre y)
    rw [hq]
    have HO5' := Lib.hid (HO5.out.step g1)
    have HU5' := Lib.hid (HU5.out.step g1)
    have hs1 := g1.size
    have h6w := (g1.block _ hw35).trans H65.out
    have c6 : W'.cell? ⟨w3.heap.size, 0, none⟩ = some (.slice q3 us.length c3) := (Lib.cell_of_heap h6w 0).trans rfl
    have c9 : W'.cell? ⟨w5.heap.size, 0, none⟩ = some (.slice qu (unsL l).length cu) := (Lib.cell_of_heap g2 0).trans rfl
    have G1 := Lib.hid g1
    have G2 := Lib.hid g2
    have G3 := Lib.hid g3
    have hw9 := lt_of_block g2
    clear g1 g2 g3 h6w
    by_cases h0 : q = 0
    · subst h0
      have HE := Lib.hid (show outsC R (unsL l) (pre ++ [y]) = outsC R (unsL l) pre by rw [HOU.out]; simp)
      gi_wp2
      exact ⟨KeepsFrom.of_below (Below.refl _ _), (Acc.refl _ _).kp, G1.out, G2.out, HE.out ▸ G3.out⟩
    · have hqI : ¬ (q : Int) = 0 := by omega
      have h0q : 0 < q := by omega
      have hqb : ((q : Int) == 0) = false := by simpa using h0
      gi_wp2
      try rw [hqb]
      gi_loopw [37] (fun v37 wr => ∃ k : Nat, v37 = .int .i64 k ∧ k ≤ us.length ∧ Hid (Below W'.heap.size W' wr) ∧ Hid (rlBreakC R (unsL l) q = rlBreakC (R.drop k) (unsL l) q)) (fun v37 _ => us.length - (RowKit.intOf v37).toNat)
      case atStart => exact ⟨0, rfl, Nat.zero_le _, Below.refl _ _, rfl⟩
      case round =>
        obtain ⟨k, rfl, hk, HBk, HRk⟩ := hrel
        by_cases hlt2 : k < us.length
        · have hki : (k : Int) < (us.length : Int) := by omega
          have hk0 : (0 : Int) ≤ (k : Int) := by omega
          have HOk := Lib.hid (HO5'.out.step HBk.out)
          obtain ⟨A, cA, eA, hAb, x0, x1, x2, x3, x4⟩ := HOk.out.get hlt2
          injection eA with eA1 eA2 eA3
          subst eA1 eA3
          clear eA2
          have hD := breakC_drop HM3.out hlt2 (unsL l) q
          have hRL := rlE_us HM3.out HRL.out hlt2
          have hmem : us.getD k nilB ∈ us := by rw [List.getD_eq_getElem?_getD, List.getElem?_eq_getElem hlt2]; exact List.getElem_mem hlt2
          have hUM := HOk.out.2 _ hmem
          have c9k := ((HBk.out.block _ hw9).trans G2.out)
          have c9r : wr.cell? ⟨w5.heap.size, 0, none⟩ = some (.slice qu (unsL l).length cu) := (Lib.cell_of_heap c9k 0).trans rfl
          generalize us.getD k nilB = u at *
          obtain ⟨vb, va, x⟩ := u
          dsimp only at *
          obtain ⟨qb, cb, rfl⟩ := hUM.1.form
          obtain ⟨qa, ca, rfl⟩ := hUM.2.form
          have hk64 : k + 1 ≤ 64 := by have e1 := congrArg List.length HM3.out; rw [List.length_map] at e1; have e2 := rls_len h1; omega
          have hwk : IntKind.i64.wrap ((k : Int) + 1) = ((k + 1 : Nat) : Int) := by rw [IntKind.wrap_i64]; omega
          have h9lt : w5.heap.size < wr.heap.size := Nat.lt_of_lt_of_le hw9 HBk.out.size
          have hbx := below_box (w := wr) (.cells #[(.slice qb (items x.b).length cb), .int .i64 (ftW (items x.b) : Nat), (.slice qa (items x.a).length ca), .int .i64 (ftW (items x.a) : Nat), .bool x.k] 112)
          have HX := Lib.hid (heap_alloc_new wr (.cells #[(.slice qb (items x.b).length cb), .int .i64 (ftW (items x.b) : Nat), (.slice qa (items x.a).length ca), .int .i64 (ftW (items x.a) : Nat), .bool x.k] 112))
          have hkk := Keeps.below (C := fun _ => True) hbx
          have cF := bkFitsC_any (u := ⟨(.slice qb (items x.b).length cb), (.slice qa (items x.a).length ca), x⟩) (L := unsL l) (v := .slice qu (unsL l).length cu) (p := q) hRL ⟨hUM.1.keeps hkk (fun _ => trivial) (fun _ => trivial) (fun _ => trivial), hUM.2.keeps hkk (fun _ => trivial) (fun _ => trivial) (fun _ => trivial)⟩ ((HU5'.out.step HBk.out).step hbx) HUO.out (by omega) hq9
          have HRD := Lib.hid (HRk.out.trans hD)
          clear hkk hUM hmem hRL hD HRk c9k
          cases hz : rlFitsC x (unsL l) q
          · rw [hz] at cF
            have HRD2 := Lib.hid (HRD.out.trans (by simp [hz]) : rlBreakC R (unsL l) q = rlBreakC (R.drop (k + 1)) (unsL l) q)
            clear HRD
            gi_wp2_with (refine ⟨trivial, ?_⟩; gi_at_call 57; (with_reducible refine (CallsIn.inRound lp (callsIn_wide.2 cF)).mono ?_); rintro e w8 ⟨rfl, hb8⟩; have hbb := below_next hbx hb8; have HB8 := Lib.hid (below_next HBk.out hbb); clear hb8 hbb)
            go_roundw
            case rel => exact ⟨k + 1, by go_num, by omega, HB8.out, HRD2.out⟩
            case measure => simp [RowKit.intOf]; omega
          · rw [hz] at cF
            have HRD2 := Lib.hid (HRD.out.trans (show _ = x.k by rw [hz]; rfl))
            clear HRD
            cases hk2 : x.k
            · rw [hk2] at HRD2 cF HX hbx
              have HE := Lib.hid (show outsC R (unsL l) (pre ++ [y]) = outsC R (unsL l) pre by rw [HOU.out, HRD2.out]; simp)
              gi_wp2_with (refine ⟨trivial, ?_⟩; gi_at_call 57; (with_reducible refine (CallsIn.inRound lp (callsIn_wide.2 cF)).mono ?_); rintro e w8 ⟨rfl, hb8⟩; have hbb := below_next hbx hb8; have HB8 := Lib.hid (below_next HBk.out hbb); have z4 := (box5_all ((hb8.block _ (lt_of_block HX.out)).trans HX.out)).2.2.2.2; clear hb8 hbb)
              exact ⟨KeepsFrom.of_below HB8.out, (Acc.step (by omega) HB8.out).kp, G1.out.trans (HB8.out.mono hs1), (HB8.out.block _ hw9).trans G2.out, HE.out ▸ G3.out.step HB8.out⟩
            · rw [hk2] at HRD2 cF HX hbx
              have HE := Lib.hid (show outsC R (unsL l) (pre ++ [y]) = outsC R (unsL l) pre ++ [q] by rw [HOU.out, HRD2.out]; simp [h0q])
              obtain ⟨i0, hi0, hz0, hz1, hz2⟩ := info_int_of
              have hol : (outsC R (unsL l) pre).length ≤ 10000 := Nat.le_trans (outsC_len _ _ _) (by omega)
              generalize outsC R (unsL l) pre = O at *
              gi_wp2_with (first
                | (refine ⟨trivial, ?_⟩; gi_at_call 57; (with_reducible refine (CallsIn.inRound lp (callsIn_wide.2 cF)).mono ?_); rintro e w8 ⟨rfl, hb8⟩; have hbb := below_next hbx hb8; have HB8 := Lib.hid (below_next HBk.out hbb); have z4 := (box5_all ((hb8.block _ (lt_of_block HX.out)).trans HX.out)).2.2.2.2; obtain ⟨v0, hb0, hown0⟩ := G3.out.step HB8.out; have z5 : w8.cell? ⟨w5.heap.size + 1, 0, none⟩ = some v0 := (Lib.cell_of_heap hb0 0).trans rfl; have z6 := Lib.frozen_of_heap hb0 0; have HB0 := Lib.hid hb0; have HOWN := Lib.hid hown0; have H98 := Lib.hid ((HB8.out.block _ hw9).trans G2.out); have hs8 := HB8.out.size; clear hb0 hown0; clear hb8 hbb)
                | (gi_at_builtin; refine wpListIn_append_own _ rfl _ _ 23 rfl w5.heap.size 3 i0 _ 1 8 Tryz.underlying23 hi0 hz0 hz1 hz2 rfl (by decide) _ _ _ rfl (HOWN.out.alloc _) ⟨w8.heap.size, 0, none⟩ 1 1 [.int .i64 (q : Int)] rfl rfl (cell_one_new _ _ _) (fun u hu => by simp at hu; rcases hu with rfl; rfl) (by unfold maxLen; omega) (by omega) (by simp; omega) ?_; intro v9 w9 hown9 hgrow9 hnil9; obtain ⟨q9, c9', rfl⟩ := own_form hown9; have HP := Lib.hid (OutAt.put (u := q) HB0.out HOWN.out (by omega) hgrow9 hown9); have hb9 : w9.heap[w5.heap.size + 1]? = some (.cells #[v0] 23 (0, 0)) := (hgrow9.block _ (Nat.lt_of_lt_of_le (lt_of_block HB0.out) (below_box _).size) (fun e => own_other (HOWN.out) HB0.out (by decide) e.symm)).trans ((Below.heap_alloc _ _ _ (lt_of_block HB0.out)).trans HB0.out); have H99 := Lib.hid ((hgrow9.block w5.heap.size (Nat.lt_of_lt_of_le (lt_of_block H98.out) (below_box _).size) (fun e => own_other (HOWN.out) H98.out (by decide) e.symm)).trans ((Below.heap_alloc _ _ _ (lt_of_block H98.out)).trans H98.out)); have l9 : w9.cell? ⟨w5.heap.size + 1, 0, none⟩ = some v0 := (Lib.cell_of_heap hb9 0).trans rfl; have m9 := Lib.frozen_of_heap hb9 0; clear hown9 hgrow9 hnil9 hb9))
              exact ⟨(KeepsFrom.of_below HB8.out).trans (HP.out.2.from), (KpS.t (Acc.step (by omega) HB8.out).kp ((HP.out.2.low hws).kp)), (G1.out.trans (HB8.out.mono hs1)).trans HP.out.2.bel, (Below.heap_setCell _ _ _ _ (show w5.heap.size ≠ w5.heap.size + 1 by omega)).trans H99.out, HE.out ▸ HP.out.1⟩
        · have hki : ¬ (k : Int) < (us.length : Int) := by omega
          have HE := Lib.hid (show outsC R (unsL l) (pre ++ [y]) = outsC R (unsL l) pre by
            rw [HOU.out, HRk.out, List.drop_of_length_le (by rw [← HM3.out, List.length_map]; omega)]
            simp [rlBreakC])
          gi_wp2
          exact ⟨KeepsFrom.of_below HBk.out, (Acc.step (by omega) HBk.out).kp, G1.out.trans (HBk.out.mono hs1), (HBk.out.block _ hw9).trans G2.out, HE.out ▸ G3.out.step HBk.out⟩
  case done =>
    rintro D ys Wd hD rfl ⟨g1, g2, v0, hb0, hown⟩ hK
    have HK := Lib.hid hK
    have G1 := Lib.hid g1
    have hc0 : Wd.cell? ⟨w5.heap.size + 1, 0, none⟩ = some v0 := (Lib.cell_of_heap hb0 0).trans rfl
    have hown := hown
    rw [HOA.out] at hown
    have HO := Lib.hid (own_lower hown hws)
    clear hK g1 g2 hb0 hown
    gi_wp2
    exact leavesMarks (fun W' => Below w.heap.size w W' ∧ W'.ownsRow w.heap.size 3 1 v0 (brksL R (unsL l)).length (cellsI (brksL R (unsL l)))) Wr.heap.size (fun W1 D1 h hD1 hk1 => ⟨h.1.trans (belowK_b (w := w) (Nat.le_refl _) W1 D1 _ _ (by omega) hk1 rfl rfl), (Keeps.putObj (C := fun o => o.isCells = true) hk1 (by simp [Obj.isCells])).row h.2 (fun _ => rfl)⟩) (fun W1 h => ⟨_, results_tmp2 rfl _ _ _, ⟨_, rfl, h.2⟩, h.1⟩) [D] _ ⟨below_next HB5.out G1.out, HO.out⟩ ((MarksAt.nil _ _).cons hD (by simp) HK.out)
  case stop =>
    rintro D c pre Wd hD hpre h
    exact h.elim
end Go.Proofs.YtnkpjkomokkhcaaGreatDoor
namespace Go.Proofs.YtnkpjkomokkhcaaGreatDoor
open Go Go.RowKit Go.Lib
set_option maxRecDepth 100000
theorem ints_own {B : Nat} {v : Value} {us : List Nat} {w : World} (h : w.ownsRow B 3 1 v us.length (cellsI us)) : IntsAt w v (us.map fun p : Nat => (p : Int)) := by
  have hc := h
  unfold IntsAt
  rw [List.length_map]
  rcases h.2 with ⟨rfl, h0⟩ | ⟨g, cap, cur, rfl, hg, hh, hn, hm, _⟩
  · exact ⟨none, 0, by rw [h0], by omega, by unfold maxLen; omega, fun h => by omega⟩
  · refine ⟨some ⟨g, 0, none⟩, cap, rfl, hn, hm, fun _ => ⟨_, rfl, lt_of_block hh, fun i j hi hj => ?_⟩⟩
    obtain rfl : j = 0 := by omega
    refine World.ownsRow.cells hc (g := g) rfl _ _ ?_
    unfold cellsI
    dsimp only
    rw [Nat.mul_one, Nat.add_zero, List.getElem?_map, List.getElem?_eq_getElem hi, List.getD_eq_getElem?_getD, List.getElem?_map, List.getElem?_eq_getElem hi]
    rfl
set_option maxHeartbeats 16000000 in
theorem breaks_any (R : List Rl) (l : List Pc) (vR v : Value) (w : World) (hr : RulesAt w vR R) (hz : SzR R) (hv : PcsAt w v l) (hb : bulk l ≤ 10000) (hT : Tabs w) (hC : ClsAt clsR w) :
    Calls Tryz.prog 21 #[vR, v] w fun e w' => (∃ r, e = .returned (.tuple #[r, .int .u8 (brE R l)]) ∧ IntsAt w' r ((brR R l).map fun p : Nat => (p : Int))) ∧ Below w.heap.size w w' := by
  by_cases h1 : rlsE R = 0
  · by_cases h2 : checkE l = 0
    · have hE : brE R l = 0 := by unfold brE; rw [if_neg (by simp [h1])]; exact h2
      refine (breaks_main R l vR v w hr hz hv hb hT hC h1 h2).mono ?_
      rintro e w' ⟨⟨r, rfl, h⟩, hb⟩
      refine ⟨⟨r, by rw [hE], ?_⟩, hb⟩
      unfold brR
      rw [if_pos hE]
      exact ints_own h
    · have HE := Lib.hid (show brE R l = checkE l by unfold brE; rw [if_neg (by simp [h1])])
      have HR := Lib.hid (show brR R l = [] by unfold brR; rw [HE.out, if_neg h2])
      have cR := compileRules_any R vR w hr hz hT
      unfold RlsEnd at cR
      rw [h1] at cR
      have cP := fun w' hp ht => checkPieces_any l v w' hp (short_mem (by omega)) ht
      have HV := Lib.hid hv
      have HT := Lib.hid hT
      obtain ⟨pR, capR, rfl, hlR, hcR, hrowR⟩ := hr
      obtain ⟨p, cap, rfl, hl, hc, hrow⟩ := hv
      clear hrow hrowR hT hC hz
      generalize checkE l = Z at *
      have h2' : (Z != 0) = true := by simpa using h2
      go_enter Tryz.func21, Tryz.ntmps21
      go_wp2
      refine wp_scope_straight ?_
      go_wp2_with (first
        | (go_at_call 53; (with_reducible refine cR.mono ?_); rintro e w3 ⟨⟨vr, rfl, ⟨q3, m3, c3, rfl⟩, h3⟩, hb3⟩; have HB3 := Lib.hid (below_next hb3 (below_box (.cells #[.slice q3 m3 c3] 98))); clear h3 hb3)
        | (go_at_call 44; (with_reducible refine (cP _ (PcsAt.step HB3.out HV.out) (HT.out.step HB3.out)).mono ?_); rintro e w4 ⟨rfl, hb4⟩; have HB4 := Lib.hid (below_next HB3.out hb4); clear hb4))
      try dsimp only [Exit.noGoto]
      go_ret2
      exact ⟨⟨_, by rw [HE.out]; rfl, by rw [HR.out]; exact ints_own (B := 0) (us := []) (World.ownsRow_nil _ _ _ _)⟩, HB4.out⟩
  · have HE := Lib.hid (show brE R l = rlsE R by unfold brE; rw [if_pos h1])
    have HR := Lib.hid (show brR R l = [] by unfold brR; rw [HE.out, if_neg h1])
    have cR := compileRules_any R vR w hr hz hT
    unfold RlsEnd at cR
    obtain ⟨pR, capR, rfl, hlR, hcR, hrowR⟩ := hr
    obtain ⟨p, cap, rfl, hl, hc, hrow⟩ := hv
    clear hrow hrowR hT hC hz
    generalize rlsE R = Z at *
    have h1' : (Z != 0) = true := by simpa using h1
    go_enter Tryz.func21, Tryz.ntmps21
    go_wp2
    refine wp_scope_straight ?_
    go_wp2_with (go_at_call 53; (with_reducible refine cR.mono ?_); rintro e w3 ⟨⟨vr, rfl, ⟨q3, m3, c3, rfl⟩, h3⟩, hb3⟩; have HB3 := Lib.hid (below_next hb3 (below_box (.cells #[.slice q3 m3 c3] 98))); clear h3 hb3)
    try dsimp only [Exit.noGoto]
    go_ret2
    exact ⟨⟨_, by rw [HE.out]; rfl, by rw [HR.out]; exact ints_own (B := 0) (us := []) (World.ownsRow_nil _ _ _ _)⟩, HB3.out⟩
end Go.Proofs.YtnkpjkomokkhcaaGreatDoor
