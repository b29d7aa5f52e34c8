/- The steps of a list: each unit and each tag with its place, as data; the program's iterator over them. The program's iterator over the steps of a list. -/
import Derived.RangeFuncNested
import Derived.RangeFuncBound
import Derived.RangeFuncCalls
import Derived.RangeFuncLeaves
import Derived.RangeFuncBox
import Derived.Shelf.Abstract
import Derived.Shelf.RegionOpen
import Derived.WalkKit
import Derived.OwnWalkIn
import Derived.TacticsInMore
import Derived.LoopNIn
import Derived.LoopIn
import Derived.Lib.BufferOwn
import Derived.Test.YtnkpjkomokkhcaaGreatDoorCuA
import Derived.Test.YtnkpjkomokkhcaaGreatDoorSk
import Derived.Test.YtnkpjkomokkhcaaGreatDoorGlD
namespace Go.Proofs.YtnkpjkomokkhcaaGreatDoor
open Go Go.RowKit Go.Lib
set_option maxRecDepth 100000
/-- pieces with the places ahead of them -/
def placed : Nat → List Pc → List (Nat × Pc)
  | _, [] => []
  | p, x :: S => (p, x) :: placed (cutUn p x) S
theorem placed_len : ∀ (p : Nat) (S : List Pc), (placed p S).length = S.length
  | _, [] => rfl
  | p, x :: S => by simp [placed, placed_len (cutUn p x) S]
theorem enc_ext0 {s : ByteArray} (hp : 0 < s.size) (ht : textL s.data.toList = true) :
    Utf8.encode ((Utf8.decode s 0).1 : Int) = s.extract 0 (Utf8.decode s 0).2 ∧ textL (s.data.toList.drop (Utf8.decode s 0).2) = true ∧ ctl (Utf8.decode s 0).1 = false ∧ (Utf8.decode s 0).2 ≤ s.size := by
  have hne : s.data.toList ≠ [] := by
    intro h
    have h2 := bytes_len s
    rw [h, List.length_nil] at h2
    omega
  have hd : decodeL s.data.toList = Utf8.decode s 0 := by have := decodeL_drop s 0; rwa [List.drop_zero] at this
  rw [textL_step _ hne] at ht
  simp only [Bool.and_eq_true, Bool.not_eq_true', decide_eq_false_iff_not] at ht
  obtain ⟨⟨h1, h2⟩, h3⟩ := ht
  have hle := decodeL_le _ hne
  have hr := roundtrip _ hne h1
  rw [hd] at h2 h3 hle hr
  rw [bytes_len] at hle
  refine ⟨?_, h3, h2, by omega⟩
  apply ByteArray.ext
  apply Array.ext'
  rw [hr, ByteArray.data_extract, Array.toList_extract, List.extract_eq_take_drop, List.drop_zero, Nat.sub_zero]
theorem runes_end {s : ByteArray} (h : ¬ 0 < s.size) : runesOf s = [] := by
  unfold runesOf
  have : s.data.toList.length = 0 := by rw [bytes_len]; omega
  rw [this]; rfl
theorem runes_step {s : ByteArray} (hp : 0 < s.size) : runesOf s = (Utf8.decode s 0).1 :: runesOf (s.extract (Utf8.decode s 0).2 s.size) := by
  have hd : decodeL s.data.toList = Utf8.decode s 0 := by have := decodeL_drop s 0; rwa [List.drop_zero] at this
  have hne : s.data.toList ≠ [] := by
    intro h
    have h2 := bytes_len s
    rw [h, List.length_nil] at h2
    omega
  have hw := width_pos s 0
  unfold runesOf
  obtain ⟨n, hn⟩ : ∃ n, s.data.toList.length = n + 1 := ⟨s.data.toList.length - 1, by rw [bytes_len]; omega⟩
  rw [hn]
  simp only [runesG, if_neg hne, hd]
  have e : (s.extract (Utf8.decode s 0).2 s.size).data.toList = s.data.toList.drop (Utf8.decode s 0).2 := by
    rw [ByteArray.data_extract, Array.toList_extract, List.extract_eq_take_drop]
    apply List.take_of_length_le
    rw [List.length_drop, bytes_len]
    exact Nat.le_refl _
  rw [e]
  congr 1
  exact runesG_fuel _ _ _ (by rw [List.length_drop]; omega) (Nat.le_refl _)
theorem text_rest {s : ByteArray} (hp : 0 < s.size) (ht : textB s = true) : textB (s.extract (Utf8.decode s 0).2 s.size) = true := by
  rw [textB_L] at ht ⊢
  have e : (s.extract (Utf8.decode s 0).2 s.size).data.toList = s.data.toList.drop (Utf8.decode s 0).2 := by
    rw [ByteArray.data_extract, Array.toList_extract, List.extract_eq_take_drop]
    apply List.take_of_length_le
    rw [List.length_drop, bytes_len]
    exact Nat.le_refl _
  rw [e]
  exact (enc_ext0 hp ht).2.1
/-- what an iterator asks to be kept: boxes of one piece, boxes of a function -/
def calmI : Obj → Prop
  | .cells cs t _ => (t = 52 ∧ cs.size ≤ 3) ∨ t = 149
  | _ => False
theorem calmI_J {o : Obj} (h : calmI o) : calmJ o := by
  unfold calmI at h
  split at h
  · rcases h with ⟨rfl, h⟩ | rfl
    · exact ⟨by decide, by decide, fun _ => h⟩
    · exact ⟨by decide, by decide, fun e => absurd e (by decide)⟩
  · exact h.elim
theorem calmI_S {o : Obj} (h : calmI o) : calmS o := by
  unfold calmI at h
  split at h
  · rcases h with ⟨rfl, _⟩ | rfl
    · exact ⟨by decide, by decide⟩
    · exact ⟨by decide, by decide⟩
  · exact h.elim
theorem calmI_pc (x : Pc) : calmI (pcC x) := .inl ⟨rfl, Nat.le_refl 3⟩
/-- what a round keeps -/
def KpS (B : Nat) (W W' : World) : Prop := Below B W W' ∧ KeepsWalks W W' ∧ Keeps calmI W W'
theorem KpS.t {B : Nat} {X Y Z : World} (h : KpS B X Y) (k : KpS B Y Z) : KpS B X Z := ⟨h.1.trans k.1, h.2.1.trans k.2.1, h.2.2.trans k.2.2⟩
theorem Keeps.putObj {C : Obj → Prop} {W : World} {l : Nat} {o o' : Obj} (h : W.heap[l]? = some o) (hC : ¬ C o) : Keeps C W (W.putObj l o') :=
  ⟨by simp, fun k q hk hq => (World.putObj_heap_other (by rintro rfl; rw [hk] at h; cases h; exact hC hq)).trans hk⟩
theorem not_calmI {o : Obj} (hc : o.isCells = false) : ¬ calmI o := by
  unfold calmI
  split
  · cases hc
  · exact id
theorem KpS.b {B : Nat} {w : World} (hB : B ≤ w.heap.size) (W : World) (l : Nat) (o o' : Obj) (hl : w.heap.size ≤ l) (h : W.heap[l]? = some o) (hc : o.isCells = false) (hw : o.isWalk = false) : KpS B W (W.putObj l o') :=
  ⟨belowK_b hB W l o o' hl h hc hw, KeepsWalks.putObj _ h hw, Keeps.putObj h (not_calmI hc)⟩
theorem KpS.of_below {B : Nat} {W W' : World} (hB : B ≤ W.heap.size) (hb : Below W.heap.size W W') : KpS B W W' :=
  ⟨hb.mono hB, ⟨hb.size, fun _ _ hk _ => (hb.block _ (lt_of_block hk)).trans hk⟩, Keeps.below hb⟩
theorem abide_step {α : Type} {J : List α → World → Prop} {base : Nat} (hJ : AbidesFrom base J) {pre : List α} {X Y : World} (h : J pre X) (hb : Below X.heap.size X Y) : J pre Y :=
  hJ pre X Y none h (grownBy_below (show X.grownBy X none from ⟨rfl, rfl, rfl, Nat.le_refl _, fun _ _ _ => rfl⟩) hb) (fun r e => by cases e)
theorem pre_lt {α : Type} {xs pre ys : List α} {y : α} (h : xs = pre ++ y :: ys) : pre.length < xs.length := by rw [h]; simp
theorem pre_of {α : Type} {xs pre ys : List α} {y : α} (h : xs = pre ++ y :: ys) : pre ++ [y] <+: xs := ⟨ys, by rw [h]; simp⟩
/-- a small piece; no other one is ever handed on -/
def clip (x : Pc) : Pc := if x.s.size ≤ 16 then x else nil
theorem clip_of {x : Pc} (h : x.s.size ≤ 16) : clip x = x := if_pos h
theorem clip_small (x : Pc) : (clip x).s.size ≤ 16 := by
  unfold clip
  split
  · assumption
  · decide
def encS (y : Nat × Pc) : Array Value := #[.int .i64 (y.1 : Int), pcV (clip y.2)]
theorem encS_of {p : Nat} {k : Int} {s : ByteArray} {c : Bool} (h : s.size ≤ 16) : encS (p, ⟨k, s, c⟩) = #[.int .i64 (p : Int), .agg #[.int .u8 k, .string s, .bool c]] := by
  unfold encS
  dsimp only
  rw [clip_of h]
  rfl
def strN : Value → Nat
  | .string s => s.size
  | _ => 0
set_option maxHeartbeats 1000000 in
theorem steps_any (p : Option Addr) (n c : Nat) (w : World) : Calls Tryz.prog 35 #[.slice p n c] w fun e w' => e = .returned (.func (.func 72) #[] #[.pointer (some ⟨w.heap.size, 0, none⟩)]) ∧ w' = w.alloc (.cells #[.slice p n c] 22) := by
  go_enter Tryz.func35, Tryz.ntmps35
  go_wp2
  go_ret
  exact ⟨rfl, rfl⟩
end Go.Proofs.YtnkpjkomokkhcaaGreatDoor
namespace Go.Proofs.YtnkpjkomokkhcaaGreatDoor
open Go Go.RowKit Go.Lib
set_option maxRecDepth 100000
attribute [local go_sem] Oper.semAt_some
theorem Utf8Tabs_belowB {B g3 g4 : Nat} {w w' : World} (h : Lib.Utf8Tabs g3 g4 w) (h3 : g3 < B) (h4 : g4 < B) (hb : Below B w w') : Lib.Utf8Tabs g3 g4 w' :=
  ⟨fun c hc => (hb.cell (p := ⟨g3, c, none⟩) h3).trans (h.1 c hc), fun i hi => ⟨(hb.cell (p := ⟨g4, 2 * i, none⟩) h4).trans (h.2 i hi).1, (hb.cell (p := ⟨g4, 2 * i + 1, none⟩) h4).trans (h.2 i hi).2⟩⟩
theorem single_drop {l : List Pc} {i : Nat} (h : i < l.length) : singleL (l.drop i) = unP (l.getD i nil) ++ singleL (l.drop (i + 1)) := by
  unfold singleL
  rw [List.drop_eq_getElem_cons h, List.flatMap_cons]
  rw [List.getD_eq_getElem?_getD, List.getElem?_eq_getElem h]
  rfl
theorem pc_box {W : World} {Bn : Nat} {x : Pc} (h : W.heap[Bn]? = some (pcC x)) : W.cell? ⟨Bn, 0, none⟩ = some (.int .u8 x.k) ∧ W.cell? ⟨Bn, 1, none⟩ = some (.string x.s) ∧ W.cell? ⟨Bn, 2, none⟩ = some (.bool x.c) :=
  ⟨(Lib.cell_of_heap h 0).trans rfl, (Lib.cell_of_heap h 1).trans rfl, (Lib.cell_of_heap h 2).trans rfl⟩
theorem placed_runs {t : ByteArray} {place : Nat} {R : List Pc} (hp : 0 < t.size) (ht : textB t = true) :
    placed place ((runesOf t).map runP ++ R) = (place, ⟨1, t.extract 0 (Utf8.decode t 0).2, false⟩) :: placed (place + 1) ((runesOf (t.extract (Utf8.decode t 0).2 t.size)).map runP ++ R) := by
  rw [runes_step hp, List.map_cons, List.cons_append]
  have e : runP (Utf8.decode t 0).1 = ⟨1, t.extract 0 (Utf8.decode t 0).2, false⟩ := by
    unfold runP
    rw [(enc_ext0 hp (by rw [← textB_L]; exact ht)).1]
  rw [e]
  rfl
set_option maxHeartbeats 16000000 in
theorem steps_in (n : Nat) (hn : 1 ≤ n) (lb B Bn : Nat) (l : List Pc) (p : Option Addr) (cap : Nat) (J Jx : List (Nat × Pc) → World → Prop)
    (hval : ∀ i, i < l.length → (l.getD i nil).k = 1 → textB (l.getD i nil).s = true) (hsz : ∀ i, i < l.length → (l.getD i nil).s.size ≤ 1000000) (hnm : ∀ i, i < l.length → (l.getD i nil).k ≠ 1 → (l.getD i nil).s.size ≤ 16) (hN : (singleL l).length ≤ 1000000)
    (hY : ∀ pre y W1, J pre W1 → pre.length < (placed 0 (singleL l)).length → YieldAt Fence.wide (n - 1) Tryz.prog lb (encS y) W1 fun e W' =>
      (e = .returned (.bool true) ∧ J (pre ++ [y]) W' ∧ KpS B W1 W') ∨ (e = .returned (.bool false) ∧ Jx (pre ++ [y]) W'))
    (W : World) (hJ : AbidesFrom W.heap.size J) (hBx : W.heap[Bn]? = some (.cells #[.slice p l.length cap] 22 (0, 0))) (hBW : B ≤ W.heap.size) (hGB : 5 ≤ B) (hT : Lib.Utf8Tabs 2 3 W)
    (hl : l.length ≤ cap) (hc : cap ≤ maxLen) (hrow : 0 < l.length → ∃ A, p = some A ∧ A.block < B ∧ ∀ i j, i < l.length → j < 3 → W.cell? (A.add (i * 3 + j)) = some (pcF l i j)) (h0 : J [] W) :
    CallsIn Fence.wide n Tryz.prog 72 #[.func (.yield lb) #[] #[], .pointer (some ⟨Bn, 0, none⟩)] W fun e W' => (∃ v, e = .returned v) ∧
      ((∃ ys, ys = placed 0 (singleL l) ∧ J ys W') ∨ (∃ pre, pre <+: placed 0 (singleL l) ∧ Jx pre W')) := by
  unfold maxLen at hc
  have ag := Tryz.isAgg52
  have zg := Tryz.sizeOf52
  have c0 : W.cell? ⟨Bn, 0, none⟩ = some (.slice p l.length cap) := (Lib.cell_of_heap hBx 0).trans rfl
  have HJ := Lib.hid hJ
  have HY := Lib.hid hY
  have HV := Lib.hid hval
  have HT := Lib.hid hT
  have HR := Lib.hid hrow
  have HZ := Lib.hid hsz
  have HNM := Lib.hid hnm
  have HS0 := Lib.hid (show placed 0 (singleL l) = [] ++ placed 0 (singleL (l.drop 0)) by rw [List.drop_zero]; rfl)
  have H0 := Lib.hid h0
  have HN := Lib.hid (show (placed 0 (singleL l)).length ≤ 1000000 by rw [placed_len]; exact hN)
  clear hJ hY hval hT hrow hBx h0 hsz hN hnm
  generalize hS : placed 0 (singleL l) = S at *
  clear hS
  refine callsIn_of_wp Tryz.func72 rfl trivial ?_ rfl
  simp only [Tryz.ntmps72, List.size_toArray, List.length_cons, List.length_nil, Nat.reduceAdd, Nat.reduceSub, Array.replicate_succ, Array.replicate_zero, List.push_toArray, List.append_toArray, List.nil_append, List.cons_append]
  gi_wp2
  gi_loopw [3, 11] (fun v3 v11 wr => ∃ (i place : Nat) (pre : List (Nat × Pc)), v3 = .int .i64 place ∧ v11 = .int .i64 i ∧ i ≤ l.length ∧ place ≤ pre.length ∧ Hid (S = pre ++ placed place (singleL (l.drop i))) ∧ Hid (J pre wr) ∧ Hid (Below B W wr)) (fun _ v11 _ => l.length - (RowKit.intOf v11).toNat)
  case atStart => exact ⟨0, 0, [], rfl, rfl, Nat.zero_le _, Nat.le_refl _, HS0.out, H0.out, Below.refl _ _⟩
  case round =>
    obtain ⟨i, place, pre, rfl, rfl, hi, hpl, HS, HJP, HST⟩ := hrel
    obtain ⟨wo, hwo⟩ : ∃ wo, wo = wr := ⟨_, rfl⟩
    subst hwo
    have hprl := Lib.hid (show pre.length ≤ 1000000 by have h1 := HN.out; rw [HS.out, List.length_append] at h1; omega)
    by_cases hlt : i < l.length
    · obtain ⟨A, rfl, hA, hcell⟩ := HR.out (by omega)
      obtain ⟨x0, x1, x2⟩ := pcs_cells hA hcell hlt HST.out
      have hszo := HST.out.size
      have HSD := Lib.hid (HS.out.trans (congrArg (fun q => pre ++ placed place q) (single_drop hlt)))
      have hv := HV.out i hlt
      have hzz := HZ.out i hlt
      have hnn := HNM.out i hlt
      clear hcell HS
      generalize l.getD i nil = x at x0 x1 x2 HSD hv hzz hnn
      have HR1 := Lib.hid (rfl : singleL (l.drop (i + 1)) = singleL (l.drop (i + 1)))
      generalize hRR : singleL (l.drop (i + 1)) = R at HSD
      have HRR := Lib.hid hRR
      clear hRR HR1
      have HX1 := Lib.hid (show (wo.alloc (pcC x)).heap[wo.heap.size]? = some (pcC x) from heap_alloc_new wo (pcC x))
      have HB1 := Lib.hid (show Below B W (wo.alloc (pcC x)) from HST.out.trans ((below_box (w := wo) (pcC x)).mono (by omega)))
      have HJ1 := Lib.hid (abide_step HJ.out HJP.out (below_box (w := wo) (pcC x)))
      have hs1 : (wo.alloc (pcC x)).heap.size = wo.heap.size + 1 := by simp
      obtain ⟨k, s, c⟩ := x
      dsimp only at x0 x1 x2 hv hzz hnn
      unfold pcC at hs1
      by_cases hk : k = 1
      · subst hk
        have ht := Lib.hid (hv rfl)
        obtain ⟨y0, y1, y2⟩ := pc_box HX1.out
        dsimp only at y0 y1 y2
        unfold pcC at HX1 HB1 HJ1 y0 y1 y2
        have HSD2 := Lib.hid (show S = pre ++ placed place ((runesOf s).map runP ++ R) by rw [HSD.out]; unfold unP; rw [if_pos rfl])
        clear hv HSD
        gi_wp2
        generalize wo.alloc (.cells #[.int .u8 1, .string s, .bool c] 52) = W1 at *
        gi_loopw [3, 6] (fun v3 v6 wr => ∃ (place : Nat) (pre : List (Nat × Pc)) (t : ByteArray), v3 = .int .i64 place ∧ v6 = .string t ∧ place ≤ pre.length ∧ t.size ≤ 1000000 ∧ Hid (wr.heap[wo.heap.size]? = some (pcC ⟨1, s, c⟩)) ∧ Hid (textB t = true) ∧ Hid (S = pre ++ placed place ((runesOf t).map runP ++ R)) ∧ Hid (J pre wr) ∧ Hid (Below B W wr)) (fun _ v6 _ => strN v6)
        case atStart => exact ⟨place, pre, s, rfl, rfl, hpl, hzz, HX1.out, ht.out, HSD2.out, HJ1.out, HB1.out⟩
        case round =>
          clear HX1 HB1 HJ1 y0 y1 y2 HSD2 ht hpl hprl
          obtain ⟨place, pre, t, rfl, rfl, hpl, htz, HX, ht, HS, HJP, HST⟩ := hrel
          have hprl : pre.length ≤ 1000000 := by have h1 := HN.out; rw [HS.out, List.length_append] at h1; omega
          obtain ⟨y0, y1, y2⟩ := pc_box HX.out
          dsimp only at y0 y1 y2
          have hszr := HST.out.size
          by_cases hp : 0 < t.size
          · have hne : t.toList.isEmpty = false := by
              rw [Lib.toList_data]
              cases h : t.data.toList with
              | nil => exact absurd (by rw [Lib.size_eq, h]; rfl) (Nat.pos_iff_ne_zero.1 hp)
              | cons _ _ => rfl
            have cD := utf8_DecodeRuneInString t wr (Utf8Tabs_belowB HT.out (by omega) (by omega) HST.out)
            have hdg : Lib.decodeGo t = Utf8.decode t 0 := by unfold Lib.decodeGo; rw [if_neg (by omega)]
            rw [hdg] at cD
            obtain ⟨he1, _, _, hdl⟩ := enc_ext0 hp (by rw [← textB_L]; exact ht.out)
            have hd4 : (t.extract 0 (Utf8.decode t 0).2).size ≤ 16 := by rw [← he1]; exact Nat.le_trans (enc_small _) (by decide)
            have HY1 := Lib.hid (fun W1 h1 h2 => encS_of (p := place) (k := 1) (c := false) hd4 ▸ HY.out pre (place, ⟨1, t.extract 0 (Utf8.decode t 0).2, false⟩) W1 h1 h2)
            have HS1 := Lib.hid (HS.out.trans (congrArg (pre ++ ·) (placed_runs (place := place) (R := R) hp ht.out)))
            have HT1 := Lib.hid (text_rest hp ht.out)
            have hwd := width_pos t 0
            have hq : IntKind.i64.wrap ((place : Int) + 1) = ((place + 1 : Nat) : Int) := by rw [IntKind.wrap_i64]; omega
            clear HS hdg he1 hd4
            generalize (Utf8.decode t 0).1 = r at *
            generalize (Utf8.decode t 0).2 = d at *
            have hdI : (d : Int) ≤ (t.size : Int) := by omega
            have hd0 : (0 : Int) ≤ (d : Int) := by omega
            gi_wp2_with (refine ⟨trivial, ?_⟩; gi_at_call 73; (with_reducible refine (callsIn_wide.2 cD).mono ?_); rintro e w2 ⟨rfl, hb2⟩; have HJ2 := Lib.hid (abide_step HJ.out HJP.out hb2); have HX2 := Lib.hid ((hb2.block _ (lt_of_block HX.out)).trans HX.out); have HST2 := Lib.hid (HST.out.trans (hb2.mono (by omega))); obtain ⟨fn, tmps, assign, body, hy, hR⟩ := HY1.out w2 HJ2.out (pre_lt HS1.out); clear hb2)
            refine hR.mono ?_
            rintro e W3 (⟨rfl, hJ3, hk3⟩ | ⟨rfl, hJx3⟩)
            · have HJ3 := Lib.hid hJ3
              have HX3 := Lib.hid (hk3.2.2.same _ _ HX2.out (calmI_pc _))
              have HST3 := Lib.hid (HST2.out.trans hk3.1)
              clear hJ3 hk3
              gi_wp2
              go_roundw
              case rel => exact ⟨place + 1, pre ++ [(place, (⟨1, t.extract 0 d, false⟩ : Pc))], t.extract d t.size, by go_num, rfl, by simp; omega, by rw [ByteArray.size_extract]; omega, HX3.out, HT1.out, by rw [List.append_assoc]; exact HS1.out, HJ3.out, HST3.out⟩
              case measure => simp [strN]; omega
            · gi_wp2
              refine bodyPost_ret (results_none rfl _ _ _) rfl ?_
              exact ⟨⟨_, rfl⟩, .inr ⟨_, pre_of HS1.out, hJx3⟩⟩
          · have hne : t.toList.isEmpty = true := by
              rw [Lib.toList_data]
              have : t.data.toList = [] := List.eq_nil_of_length_eq_zero (by rw [← Lib.size_eq]; omega)
              rw [this]; rfl
            have HS1 := Lib.hid (show S = pre ++ placed place (singleL (l.drop (i + 1))) by rw [HS.out, runes_end hp, HRR.out]; rfl)
            clear HS
            gi_wp2
            refine ⟨fun _ h => (by cases h), ?_⟩
            gi_wp2
            go_roundw
            case rel => exact ⟨i + 1, place, pre, rfl, by go_num, by omega, hpl, HS1.out, HJP.out, HST.out⟩
            case measure => simp [RowKit.intOf]; omega
      · have HSD2 := Lib.hid (show S = pre ++ (place, (⟨k, s, c⟩ : Pc)) :: placed (cutUn place ⟨k, s, c⟩) R by rw [HSD.out]; unfold unP; rw [if_neg hk]; rfl)
        obtain ⟨y0, y1, y2⟩ := pc_box HX1.out
        dsimp only at y0 y1 y2
        unfold pcC at HX1 HB1 HJ1 y0 y1 y2
        have hkb : (k == 1) = false := beq_eq_false_iff_ne.2 hk
        have hkn : (k != 1) = true := by simp [hk]
        have hq : IntKind.i64.wrap ((place : Int) + 1) = ((place + 1 : Nat) : Int) := by have := hprl.out; rw [IntKind.wrap_i64]; omega
        clear hv HSD
        gi_wp2
        generalize wo.alloc (.cells #[.int .u8 k, .string s, .bool c] 52) = W1 at *
        gi_loopw [3] (fun v3 wr => v3 = .int .i64 place ∧ wr = W1) (fun _ _ => 0)
        case atStart => exact ⟨rfl, rfl⟩
        case round =>
          obtain ⟨rfl, rfl⟩ := hrel
          obtain ⟨fn, tmps, assign, body, hy, hR⟩ := (encS_of (p := place) (k := k) (c := c) (hnn hk) ▸ HY.out pre (place, ⟨k, s, c⟩) wr HJ1.out (pre_lt HSD2.out))
          have HX1p := Lib.hid (show wr.heap[wo.heap.size]? = some (pcC ⟨k, s, c⟩) from HX1.out)
          gi_wp2
          refine hR.mono ?_
          rintro e W3 (⟨rfl, hJ3, hk3⟩ | ⟨rfl, hJx3⟩)
          · have HJ3 := Lib.hid hJ3
            have HX3 := hk3.2.2.same _ _ HX1p.out (calmI_pc _)
            have HST3 := Lib.hid (HB1.out.trans hk3.1)
            obtain ⟨z0, z1, z2⟩ := pc_box HX3
            dsimp only at z0 z1 z2
            clear hJ3 hk3 HX3
            by_cases h5 : k = 5
            · have h5b : (k == 5) = true := by simp [h5]
              have HS3 := Lib.hid (show S = (pre ++ [(place, (⟨k, s, c⟩ : Pc))]) ++ placed (place + 1) (singleL (l.drop (i + 1))) by rw [HSD2.out, HRR.out, List.append_assoc]; unfold cutUn; rw [if_pos (.inr h5)]; rfl)
              gi_wp2
              go_roundw
              case rel => exact ⟨i + 1, place + 1, pre ++ [(place, (⟨k, s, c⟩ : Pc))], by go_num, by go_num, by omega, by simp; omega, HS3.out, HJ3.out, HST3.out⟩
              case measure => simp [RowKit.intOf]; omega
            · have h5b : (k == 5) = false := by simp [h5]
              have HS3 := Lib.hid (show S = (pre ++ [(place, (⟨k, s, c⟩ : Pc))]) ++ placed place (singleL (l.drop (i + 1))) by rw [HSD2.out, HRR.out, List.append_assoc]; unfold cutUn; rw [if_neg (by rintro (h | h); exact hk h; exact h5 h)]; rfl)
              gi_wp2
              go_roundw
              case rel => exact ⟨i + 1, place, pre ++ [(place, (⟨k, s, c⟩ : Pc))], rfl, by go_num, by omega, by simp; omega, HS3.out, HJ3.out, HST3.out⟩
              case measure => simp [RowKit.intOf]; omega
          · gi_wp2
            refine bodyPost_ret (results_none rfl _ _ _) rfl ?_
            exact ⟨⟨_, rfl⟩, .inr ⟨_, pre_of HSD2.out, hJx3⟩⟩
    · have HE := Lib.hid (show pre = S by rw [HS.out, List.drop_of_length_le (by omega)]; simp [singleL, placed])
      gi_wp2
      go_end0
      exact ⟨⟨_, rfl⟩, .inl ⟨pre, HE.out, HJP.out⟩⟩
/-- the iterator that steps hands back tells the steps of a list -/
theorem steps_stops (n : Nat) (hn : 1 ≤ n) (B Bn : Nat) (l : List Pc) (p : Option Addr) (cap : Nat) (w : World)
    (hval : ∀ i, i < l.length → (l.getD i nil).k = 1 → textB (l.getD i nil).s = true) (hsz : ∀ i, i < l.length → (l.getD i nil).s.size ≤ 1000000) (hnm : ∀ i, i < l.length → (l.getD i nil).k ≠ 1 → (l.getD i nil).s.size ≤ 16) (hN : (singleL l).length ≤ 1000000)
    (hBx : w.heap[Bn]? = some (.cells #[.slice p l.length cap] 22 (0, 0))) (hBW : B ≤ w.heap.size) (hGB : 5 ≤ B) (hT : Lib.Utf8Tabs 2 3 w) (hv : SliceAt B w (.slice p l.length cap) l.length 3 (pcF l)) :
    SeqStopsK Fence.wide n Tryz.prog 72 #[.pointer (some ⟨Bn, 0, none⟩)] encS (KpS B) (fun ys => ys = placed 0 (singleL l)) (fun pre => pre <+: placed 0 (singleL l)) (placed 0 (singleL l)).length w := by
  intro lb J Jx W hW hJ hJx hY h0
  obtain ⟨q, cap', e, h1, h2, h3⟩ := hv.below (hW.mono hBW)
  injection e with e1 e2 e3
  subst e1 e3
  exact steps_in n hn lb B Bn l p cap J Jx hval hsz hnm hN hY W hJ ((hW.block _ (lt_of_block hBx)).trans hBx) (Nat.le_trans hBW hW.size) hGB (Utf8Tabs_below hT hW) h1 h2 h3 h0
end Go.Proofs.YtnkpjkomokkhcaaGreatDoor
