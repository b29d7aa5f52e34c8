/- Words: the iterator over the words of a piece, by the program. Words: Words of the program. Words: a word is a row or a mark just if it is the first word of itself. No run of any program here. Words: the piece that a word stands for, by the program. -/
import Derived.RangeFuncNested
import Derived.RangeFuncBound
import Derived.RangeFuncCalls
import Derived.RangeFuncLeaves
import Derived.RangeFuncBox
import Derived.Shelf.Abstract
import Derived.Shelf.RegionOpen
import Derived.WalkKit
import Derived.OwnWalkIn
import Derived.TacticsInMore
import Derived.LoopNIn
import Derived.LoopIn
import Derived.Lib.BufferOwn
import Derived.Test.YtnbeomclmggbiaaGreatDoorWoC
import Derived.Sort.LoopGhostIn
import Derived.Maps.AppendAt
import Derived.Scope
namespace Go.Proofs.YtnbeomclmggbiaaGreatDoor
open Go Go.RowKit Go.Lib
set_option maxRecDepth 100000
attribute [local go_sem] Oper.semAt_some
/-- the classes of runes -/
def clsN (r : Nat) : Int := if letN r = true then 1 else if digN r = true then 2 else if r = 32 then 3 else if ctl r = true then 0 else 4
def Cls2 (w : World) : Prop := ∀ c, c < 128 → w.cell? ⟨2, c, none⟩ = some (.int .u8 (clsN c))
theorem Cls2.below {B : Nat} {w w' : World} (h : Cls2 w) (hb : Below B w w') (hB : 2 < B) : Cls2 w' := fun c hc => by
  rw [hb.cell (p := ⟨2, c, none⟩) hB]; exact h c hc
theorem clsN_in {r : Nat} (h : inN r = true) : clsN r = 1 ∨ clsN r = 2 := by
  unfold inN at h
  unfold clsN
  cases hl : letN r
  · rw [hl] at h
    simp at h
    simp [h]
  · simp
theorem clsN_out {r : Nat} (h : inN r = false) (hc : ctl r = false) : clsN r = if r = 32 then 3 else 4 := by
  unfold inN at h
  simp at h
  unfold clsN
  simp [h, hc]
set_option maxHeartbeats 1000000 in
theorem classOf2 (r : Nat) (w : World) (hC : Cls2 w) :
    Calls Tryz.prog 98 #[.int .i32 (r : Int)] w fun e w' => e = .returned (.int .u8 (clsN r)) ∧ w' = w := by
  by_cases h : 127 < r
  · have hI : (127 : Int) < (r : Int) := by omega
    have hc : clsN r = 1 := by unfold clsN letN; rw [if_pos (by simp [h])]
    have HC := Lib.hid hc; clear hc
    go_enter Tryz.func98, Tryz.ntmps98
    go_wp2
    go_ret
    exact ⟨ret_u8 HC.out.symm, rfl⟩
  · have hI : ¬ (127 : Int) < (r : Int) := by omega
    have h1 := hC r (by omega)
    generalize clsN r = z at h1
    clear hC
    go_enter Tryz.func98, Tryz.ntmps98
    go_wp2
    go_ret
    exact ⟨rfl, rfl⟩
set_option maxHeartbeats 1000000 in
theorem wordsOf_any (x : Pc) (w : World) : Calls Tryz.prog 52 #[pcV x] w fun e w' => e = .returned (.func (.func 97) #[] #[.pointer (some ⟨w.heap.size, 0, none⟩)]) ∧ w' = w.alloc (pcC x) := by
  obtain ⟨k, s, c⟩ := x
  unfold pcV pcC
  have ag := Tryz.isAgg56
  have zg := Tryz.sizeOf56
  go_enter Tryz.func52, Tryz.ntmps52
  go_wp2
  go_ret
  exact ⟨rfl, rfl⟩
/-- what a round keeps: what lies below a bound, walks, and the block of the piece -/
def KpW (B Bn : Nat) (W W' : World) : Prop := Below B W W' ∧ KeepsWalks W W' ∧ W'.heap[Bn]? = W.heap[Bn]?
theorem KpW.t {B Bn : Nat} {X Y Z : World} (h : KpW B Bn X Y) (k : KpW B Bn Y Z) : KpW B Bn X Z := ⟨h.1.trans k.1, h.2.1.trans k.2.1, k.2.2.trans h.2.2⟩
theorem KpW.b {B Bn : Nat} {w : World} (hB : B ≤ w.heap.size) (hn : Bn < w.heap.size) (W : World) (l : Nat) (o o' : Obj) (hl : w.heap.size ≤ l) (h : W.heap[l]? = some o) (hc : o.isCells = false) (hw : o.isWalk = false) : KpW B Bn W (W.putObj l o') :=
  ⟨belowK_b hB W l o o' hl h hc hw, KeepsWalks.putObj _ h hw, World.putObj_heap_other (by omega)⟩
/-- what the iterator holds of a world -/
def StB (B Bn : Nat) (W wr : World) : Prop := Below B W wr ∧ wr.heap[Bn]? = W.heap[Bn]?
theorem StB.kp {B Bn : Nat} {W X Y : World} (h : StB B Bn W X) (k : KpW B Bn X Y) : StB B Bn W Y := ⟨h.1.trans k.1, k.2.2.trans h.2⟩
theorem StB.step {B Bn : Nat} {W X Y : World} (h : StB B Bn W X) (hB : B ≤ X.heap.size) (hn : Bn < X.heap.size) (k : Below X.heap.size X Y) : StB B Bn W Y := ⟨h.1.trans (k.mono hB), (k.block _ hn).trans h.2⟩
theorem StB.iter {B Bn k : Nat} {W X : World} (h : StB B Bn W X) (hB : B ≤ k) (hn : Bn ≠ k) (s : ByteArray) (p : Nat) : StB B Bn W (X.iterAt k s p) := ⟨below_iterAt h.1 hB s p, (iterAt_other X k Bn s p hn).trans h.2⟩
theorem abide_step {J : List ByteArray → World → Prop} {base : Nat} (hJ : AbidesFrom base J) {pre : List ByteArray} {X Y : World} (h : J pre X) (hb : Below X.heap.size X Y) : J pre Y :=
  hJ pre X Y none h (grownBy_below (show X.grownBy X none from ⟨rfl, rfl, rfl, Nat.le_refl _, fun _ _ _ => rfl⟩) hb) (fun r e => by cases e)
theorem abide_iter {J : List ByteArray → World → Prop} {base k : Nat} (hJ : AbidesFrom base J) {pre : List ByteArray} {X : World} {s : ByteArray} {p : Nat} (h : J pre X) (hk : base ≤ k) (hit : X.heap[k]? = some (.stringIter s p)) (p' : Nat) : J pre (X.iterAt k s p') :=
  hJ pre X _ (some k) h ⟨rfl, rfl, rfl, by rw [iterAt_size]; exact Nat.le_refl _, fun j _ hj => iterAt_other X k j s p' (fun e => hj (by rw [e]))⟩ (fun r e => by cases e; exact ⟨hk, _, hit, rfl⟩)
theorem box_cells {W : World} {Bn : Nat} {x : Pc} (h : W.heap[Bn]? = some (pcC x)) : W.cell? ⟨Bn, 0, none⟩ = some (.int .u8 x.k) ∧ W.cell? ⟨Bn, 1, none⟩ = some (.string x.s) ∧ W.cell? ⟨Bn, 2, none⟩ = some (.bool x.c) :=
  ⟨(Lib.cell_of_heap h 0).trans rfl, (Lib.cell_of_heap h 1).trans rfl, (Lib.cell_of_heap h 2).trans rfl⟩
theorem pre_lt {xs pre ys : List ByteArray} {y : ByteArray} (h : xs = pre ++ y :: ys) : pre.length < xs.length := by rw [h]; simp
theorem pre_of {xs pre ys : List ByteArray} {y : ByteArray} (h : xs = pre ++ y :: ys) : pre ++ [y] <+: xs := ⟨ys, by rw [h]; simp⟩
set_option maxHeartbeats 16000000 in
theorem wordsText_in (n : Nat) (hn : 1 ≤ n) (l B Bn : Nat) (s : ByteArray) (c : Bool) (ht : textB s = true) (hs : s.size ≤ maxLen) (J Jx : List ByteArray → World → Prop)
    (hY : ∀ pre y W, J pre W → pre.length < (restW s s.size 0 0).length → YieldAt Fence.wide (n - 1) Tryz.prog l #[.string y] W fun e W' =>
      (e = .returned (.bool true) ∧ J (pre ++ [y]) W' ∧ KpW B Bn W W') ∨ (e = .returned (.bool false) ∧ Jx (pre ++ [y]) W'))
    (W : World) (hJ : AbidesFrom W.heap.size J) (hBn : W.heap[Bn]? = some (pcC ⟨1, s, c⟩)) (hB : 6 ≤ B) (hBW : B ≤ W.heap.size) (hC : Cls2 W) (h0 : J [] W) :
    CallsIn Fence.wide n Tryz.prog 97 #[.func (.yield l) #[] #[], .pointer (some ⟨Bn, 0, none⟩)] W fun e W' => (∃ v, e = .returned v) ∧
      ((∃ ys, ys = restW s s.size 0 0 ∧ J ys W') ∨ (∃ pre, pre <+: restW s s.size 0 0 ∧ Jx pre W')) := by
  unfold maxLen at hs
  have hbn : Bn < W.heap.size := lt_of_block hBn
  obtain ⟨c0, c1, c2⟩ := box_cells hBn
  have HJ := Lib.hid hJ
  have HY := Lib.hid hY
  have HC := Lib.hid hC
  have HBN := Lib.hid hBn
  have HS0 := Lib.hid (show StB B Bn W (W.alloc (.stringIter s 0)) from (StB.step ⟨Below.refl _ _, rfl⟩ hBW hbn (below_box _)))
  have HJ0 := Lib.hid (abide_step hJ h0 (below_box (.stringIter s 0)))
  have HT0 := Lib.hid (show textL (s.data.toList.drop 0) = true by rw [List.drop_zero, ← textB_L]; exact ht)
  clear hJ hY hC hBn h0 ht
  dsimp only at c0 c1 c2
  refine callsIn_of_wp Tryz.func97 rfl trivial ?_ rfl
  simp only [Tryz.ntmps97, List.size_toArray, List.length_cons, List.length_nil, Nat.reduceAdd, Nat.reduceSub, Array.replicate_succ, Array.replicate_zero, List.push_toArray, List.append_toArray, List.nil_append, List.cons_append]
  gi_wp2
  gi_loopw [3] (fun v wr => ∃ (pos fuel row : Nat) (pre : List ByteArray), v = .int .i64 row ∧ wr.heap[W.heap.size]? = some (.stringIter s pos) ∧ row ≤ pos ∧ pos ≤ s.size ∧ s.size ≤ pos + fuel ∧ Hid (textL (s.data.toList.drop pos) = true) ∧ Hid (restW s s.size 0 0 = pre ++ restW s fuel row pos) ∧ Hid (J pre wr) ∧ Hid (StB B Bn W wr)) (fun _ wr => s.size - wr.iterPos W.heap.size)
  case atStart => exact ⟨0, s.size, 0, [], rfl, World.iter_heap W s 0, Nat.le_refl _, Nat.zero_le _, by omega, HT0.out, rfl, HJ0.out, HS0.out⟩
  case round =>
    obtain ⟨pos, fuel, row, pre, rfl, hit, hrp, hps, hfu, HT, HS, HJP, HST⟩ := hrel
    have hpos0 := iterPos_of hit
    have hszr := HST.out.1.size
    by_cases hp : pos < s.size
    · have hnx : ∀ ty, (Instr.next (.pointer (some ⟨W.heap.size, 0, none⟩)) true ty).run Tryz.prog wr = _ := fun ty => Lib.run_next_any_at wr W.heap.size s pos ty hit hp
      have hwd := width_pos s pos
      obtain ⟨fuel, rfl⟩ : ∃ f', fuel = f' + 1 := ⟨fuel - 1, by omega⟩
      obtain ⟨e1, e2, e3, e4⟩ := enc_ext hp HT.out
      have hit2 := Lib.iterAt_heap wr W.heap.size s pos (pos + (Utf8.decode s pos).2) hit
      have HST2 := Lib.hid (HST.out.iter hBW (by omega) s (pos + (Utf8.decode s pos).2))
      have HJ2 := Lib.hid (abide_iter HJ.out HJP.out (Nat.le_refl _) hit (pos + (Utf8.decode s pos).2))
      obtain ⟨W1, hW1⟩ : ∃ W1, W1 = wr.iterAt W.heap.size s (pos + (Utf8.decode s pos).2) := ⟨_, rfl⟩
      rw [← hW1] at hnx hit2 HST2 HJ2
      clear hW1 hit HST HJP e1
      have cC := classOf2 (Utf8.decode s pos).1 W1 (HC.out.below HST2.out.1 (by omega))
      have hnar := fun h => @narrow s pos (inN_small h)
      have RI := Lib.hid (fun h => HS.out.trans (congrArg (pre ++ ·) (restW_in (f := fuel) (row := row) hp h)))
      have RO := Lib.hid (fun h => HS.out.trans (congrArg (pre ++ ·) (restW_out (f := fuel) (row := row) hp h)))
      have HC2 := Lib.hid (fun h => @clsN_out (Utf8.decode s pos).1 h e3)
      have HC1 := Lib.hid (@clsN_in (Utf8.decode s pos).1)
      have E2 := Lib.hid e2
      obtain ⟨d0, d1, d2⟩ := box_cells (HST2.out.2.trans HBN.out)
      dsimp only at d0 d1 d2
      clear HS e2 e3 HT
      generalize (Utf8.decode s pos).1 = r at *
      generalize (Utf8.decode s pos).2 = d at *
      cases hi : inN r
      · have hd := hnar hi
        subst hd
        have hz := HC2.out hi
        have HR := Lib.hid (RO.out hi)
        have hq : IntKind.i64.wrap ((pos : Int) + 1) = ((pos + 1 : Nat) : Int) := by rw [IntKind.wrap_i64]; omega
        clear RO RI HC1 HC2 hnar hi
        by_cases hrow : row < pos
        · have hrowI : (row : Int) < (pos : Int) := by omega
          have HR1 := Lib.hid (show restW s s.size 0 0 = pre ++ s.extract row pos :: ((if r = 32 then [] else [s.extract pos (pos + 1)]) ++ restW s fuel (pos + 1) (pos + 1)) by rw [HR.out]; show pre ++ (_ ++ _) = _; rw [rowEnd_some hps hrow]; rfl)
          clear HR
          obtain ⟨fn, tmps, assign, body, hy, hR⟩ := HY.out pre (s.extract row pos) W1 HJ2.out (pre_lt HR1.out)
          have HP := Lib.hid (pre_of HR1.out)
          by_cases h32 : r = 32
          · rw [if_pos h32] at hz
            rw [hz] at cC
            have HR2 := Lib.hid (show restW s s.size 0 0 = (pre ++ [s.extract row pos]) ++ restW s fuel (pos + 1) (pos + 1) by rw [HR1.out, if_pos h32]; simp)
            clear HR1 hz h32
            gi_wp2_with (refine ⟨trivial, ?_⟩; gi_at_call 98; refine (callsIn_wide.2 cC).mono ?_; rintro e w2 ⟨rfl, rfl⟩)
            refine hR.mono ?_
            rintro e W3 (⟨rfl, hJ3, hk3⟩ | ⟨rfl, hJx3⟩)
            · have hit3 := hk3.2.1.same _ _ hit2 rfl
              have HST3 := Lib.hid (HST2.out.kp hk3)
              have HJ3 := Lib.hid hJ3
              clear hJ3 hk3
              gi_wp2
              refine ⟨fun _ h => (by cases h), ?_⟩
              gi_wp2
              go_roundw
              case rel => exact ⟨pos + 1, fuel, pos + 1, _, by go_num, hit3, Nat.le_refl _, e4, by omega, E2.out, HR2.out, HJ3.out, HST3.out⟩
              case measure => rw [iterPos_of hit3, hpos0]; omega
            · gi_wp2
              refine bodyPost_ret (results_none rfl _ _ _) rfl ?_
              exact ⟨⟨_, rfl⟩, .inr ⟨_, HP.out, hJx3⟩⟩
          · rw [if_neg h32] at hz
            rw [hz] at cC
            have HR2 := Lib.hid (show restW s s.size 0 0 = (pre ++ [s.extract row pos]) ++ s.extract pos (pos + 1) :: restW s fuel (pos + 1) (pos + 1) by rw [HR1.out, if_neg h32]; simp)
            have HR3 := Lib.hid (show restW s s.size 0 0 = ((pre ++ [s.extract row pos]) ++ [s.extract pos (pos + 1)]) ++ restW s fuel (pos + 1) (pos + 1) by rw [HR2.out]; simp)
            clear HR1 hz h32
            gi_wp2_with (refine ⟨trivial, ?_⟩; gi_at_call 98; refine (callsIn_wide.2 cC).mono ?_; rintro e w2 ⟨rfl, rfl⟩)
            refine hR.mono ?_
            rintro e W3 (⟨rfl, hJ3, hk3⟩ | ⟨rfl, hJx3⟩)
            · have hit3 := hk3.2.1.same _ _ hit2 rfl
              have HST3 := Lib.hid (HST2.out.kp hk3)
              have HJ3 := Lib.hid hJ3
              obtain ⟨x0, x1, x2⟩ := box_cells (HST3.out.2.trans HBN.out)
              dsimp only at x0 x1 x2
              obtain ⟨fn2, tmps2, assign2, body2, hy2, hR2⟩ := HY.out (pre ++ [s.extract row pos]) (s.extract pos (pos + 1)) W3 HJ3.out (pre_lt HR2.out)
              have HP2 := Lib.hid (pre_of HR2.out)
              clear hJ3 hk3
              gi_wp2
              refine hR2.mono ?_
              rintro e W4 (⟨rfl, hJ4, hk4⟩ | ⟨rfl, hJx4⟩)
              · have hit4 := hk4.2.1.same _ _ hit3 rfl
                have HST4 := Lib.hid (HST3.out.kp hk4)
                have HJ4 := Lib.hid hJ4
                clear hJ4 hk4
                gi_wp2
                go_roundw
                case rel => exact ⟨pos + 1, fuel, pos + 1, _, by go_num, hit4, Nat.le_refl _, e4, by omega, E2.out, HR3.out, HJ4.out, HST4.out⟩
                case measure => rw [iterPos_of hit4, hpos0]; omega
              · gi_wp2
                refine bodyPost_ret (results_none rfl _ _ _) rfl ?_
                exact ⟨⟨_, rfl⟩, .inr ⟨_, HP2.out, hJx4⟩⟩
            · gi_wp2
              refine bodyPost_ret (results_none rfl _ _ _) rfl ?_
              exact ⟨⟨_, rfl⟩, .inr ⟨_, HP.out, hJx3⟩⟩
        · have hrowI : ¬ (row : Int) < (pos : Int) := by omega
          have HR1 := Lib.hid (show restW s s.size 0 0 = pre ++ ((if r = 32 then [] else [s.extract pos (pos + 1)]) ++ restW s fuel (pos + 1) (pos + 1)) by rw [HR.out]; show pre ++ (_ ++ _) = _; rw [rowEnd_none hps hrow]; rfl)
          clear HR
          by_cases h32 : r = 32
          · rw [if_pos h32] at hz
            rw [hz] at cC
            have HR2 := Lib.hid (show restW s s.size 0 0 = pre ++ restW s fuel (pos + 1) (pos + 1) by rw [HR1.out, if_pos h32]; simp)
            clear HR1 hz h32
            gi_wp2_with (refine ⟨trivial, ?_⟩; gi_at_call 98; refine (callsIn_wide.2 cC).mono ?_; rintro e w2 ⟨rfl, rfl⟩)
            refine ⟨fun _ h => (by cases h), ?_⟩
            gi_wp2
            go_roundw
            case rel => exact ⟨pos + 1, fuel, pos + 1, _, by go_num, hit2, Nat.le_refl _, e4, by omega, E2.out, HR2.out, HJ2.out, HST2.out⟩
            case measure => rw [iterPos_of hit2, hpos0]; omega
          · rw [if_neg h32] at hz
            rw [hz] at cC
            have HR2 := Lib.hid (show restW s s.size 0 0 = pre ++ s.extract pos (pos + 1) :: restW s fuel (pos + 1) (pos + 1) by rw [HR1.out, if_neg h32]; simp)
            have HR3 := Lib.hid (show restW s s.size 0 0 = (pre ++ [s.extract pos (pos + 1)]) ++ restW s fuel (pos + 1) (pos + 1) by rw [HR2.out]; simp)
            clear HR1 hz h32
            obtain ⟨fn, tmps, assign, body, hy, hR⟩ := HY.out pre (s.extract pos (pos + 1)) W1 HJ2.out (pre_lt HR2.out)
            have HP := Lib.hid (pre_of HR2.out)
            gi_wp2_with (refine ⟨trivial, ?_⟩; gi_at_call 98; refine (callsIn_wide.2 cC).mono ?_; rintro e w2 ⟨rfl, rfl⟩)
            refine ⟨fun _ h => (by cases h), ?_⟩
            gi_wp2
            refine hR.mono ?_
            rintro e W3 (⟨rfl, hJ3, hk3⟩ | ⟨rfl, hJx3⟩)
            · have hit3 := hk3.2.1.same _ _ hit2 rfl
              have HST3 := Lib.hid (HST2.out.kp hk3)
              have HJ3 := Lib.hid hJ3
              clear hJ3 hk3
              gi_wp2
              go_roundw
              case rel => exact ⟨pos + 1, fuel, pos + 1, _, by go_num, hit3, Nat.le_refl _, e4, by omega, E2.out, HR3.out, HJ3.out, HST3.out⟩
              case measure => rw [iterPos_of hit3, hpos0]; omega
            · gi_wp2
              refine bodyPost_ret (results_none rfl _ _ _) rfl ?_
              exact ⟨⟨_, rfl⟩, .inr ⟨_, HP.out, hJx3⟩⟩
      · have HR := Lib.hid (RI.out hi)
        have hz := HC1.out hi
        clear RO RI HC2 HC1 hnar hi
        rcases hz with hz | hz
        all_goals
          rw [hz] at cC
          gi_wp2_with (refine ⟨trivial, ?_⟩; gi_at_call 98; refine (callsIn_wide.2 cC).mono ?_; rintro e w2 ⟨rfl, rfl⟩)
          go_roundw
          case rel => exact ⟨pos + d, fuel, row, pre, rfl, hit2, by omega, e4, by omega, E2.out, HR.out, HJ2.out, HST2.out⟩
          case measure => rw [iterPos_of hit2, hpos0]; omega
    · have hnx : ∀ ty, (Instr.next (.pointer (some ⟨W.heap.size, 0, none⟩)) true ty).run Tryz.prog wr = _ := fun ty => Lib.run_next_end_at wr W.heap.size s pos ty hit hp
      have HE := Lib.hid (HS.out.trans (congrArg (pre ++ ·) (restW_end (f := fuel) (row := row) hp)))
      obtain ⟨d0, d1, d2⟩ := box_cells (HST.out.2.trans HBN.out)
      dsimp only at d0 d1 d2
      clear HS
      by_cases hrow : row < s.size
      · have hrowI : (row : Int) < (s.size : Int) := by omega
        have HR1 := Lib.hid (show restW s s.size 0 0 = pre ++ s.extract row s.size :: [] by rw [HE.out]; show pre ++ rowEnd _ = _; rw [rowEnd_some (Nat.le_refl _) hrow])
        clear HE
        obtain ⟨fn, tmps, assign, body, hy, hR⟩ := HY.out pre (s.extract row s.size) wr HJP.out (pre_lt HR1.out)
        have HP := Lib.hid (pre_of HR1.out)
        gi_wp2
        refine hR.mono ?_
        rintro e W3 (⟨rfl, hJ3, hk3⟩ | ⟨rfl, hJx3⟩)
        · clear hk3
          gi_wp2
          go_end0
          exact ⟨⟨_, rfl⟩, .inl ⟨_, HR1.out.symm, hJ3⟩⟩
        · gi_wp2
          go_end0
          exact ⟨⟨_, rfl⟩, .inr ⟨_, HP.out, hJx3⟩⟩
      · have hrowI : ¬ (row : Int) < (s.size : Int) := by omega
        have HR1 := Lib.hid (show pre = restW s s.size 0 0 by rw [HE.out]; show pre = pre ++ rowEnd _; rw [rowEnd_none (Nat.le_refl _) hrow, List.append_nil])
        clear HE
        gi_wp2
        go_end0
        exact ⟨⟨_, rfl⟩, .inl (by rw [← HR1.out]; exact HJP.out)⟩
theorem mark_small {x : Pc} (hk : x.k ≠ 1) (hp : pieceE x = 0) : x.s.size ≤ 16 := by
  unfold pieceE at hp
  rw [if_neg hk] at hp
  split at hp
  · cases hp
  · split at hp
    · cases hp
    · split at hp
      · rename_i h
        unfold nameB at h
        simp only [Bool.and_eq_true, decide_eq_true_eq] at h
        exact h.1.1.2
      · cases hp
set_option maxHeartbeats 8000000 in
theorem wordsMark_in (n : Nat) (hn : 1 ≤ n) (l B Bn : Nat) (x : Pc) (hk : x.k ≠ 1) (hp : pieceE x = 0) (J Jx : List ByteArray → World → Prop)
    (hY : ∀ pre y W, J pre W → pre.length < 1 → YieldAt Fence.wide (n - 1) Tryz.prog l #[.string y] W fun e W' =>
      (e = .returned (.bool true) ∧ J (pre ++ [y]) W' ∧ KpW B Bn W W') ∨ (e = .returned (.bool false) ∧ Jx (pre ++ [y]) W'))
    (W : World) (hJ : AbidesFrom W.heap.size J) (hBn : W.heap[Bn]? = some (pcC x)) (hN : Nts W) (h0 : J [] W) :
    CallsIn Fence.wide n Tryz.prog 97 #[.func (.yield l) #[] #[], .pointer (some ⟨Bn, 0, none⟩)] W fun e W' => (∃ v, e = .returned v) ∧
      ((∃ ys, ys = [bytes (wB x)] ∧ J ys W') ∨ (∃ pre, pre <+: [bytes (wB x)] ∧ Jx pre W')) := by
  have ag := Tryz.isAgg56
  have zg := Tryz.sizeOf56
  obtain ⟨c0, c1, c2⟩ := box_cells hBn
  have cM := writeMark_any x W (by have := mark_small hk hp; omega) hN hp hk
  have HJ := Lib.hid hJ
  have HY := Lib.hid hY
  have H0 := Lib.hid h0
  have hkb : (x.k != 1) = true := by simpa using hk
  unfold pcV at cM
  clear hJ hY hBn h0 hN hp
  obtain ⟨k, s, c⟩ := x
  dsimp only at c0 c1 c2 hkb hk
  generalize bytes (wB ⟨k, s, c⟩) = y at *
  refine callsIn_of_wp Tryz.func97 rfl trivial ?_ rfl
  simp only [Tryz.ntmps97, List.size_toArray, List.length_cons, List.length_nil, Nat.reduceAdd, Nat.reduceSub, Array.replicate_succ, Array.replicate_zero, List.push_toArray, List.append_toArray, List.nil_append, List.cons_append]
  gi_wp2_with (refine ⟨trivial, ?_⟩; gi_at_call 62; (with_reducible refine (callsIn_wide.2 cM).mono ?_); rintro e w2 ⟨rfl, hb2⟩; have HJ2 := Lib.hid (abide_step HJ.out H0.out hb2); clear hb2; obtain ⟨fn, tmps, assign, body, hy, hR⟩ := HY.out [] y w2 HJ2.out (by simp))
  refine hR.mono ?_
  rintro e W3 (⟨rfl, hJ3, hk3⟩ | ⟨rfl, hJx3⟩)
  · clear hk3
    gi_wp2
    refine bodyPost_ret (results_none rfl _ _ _) rfl ?_
    exact ⟨⟨_, rfl⟩, .inl ⟨_, rfl, hJ3⟩⟩
  · gi_wp2
    refine bodyPost_ret (results_none rfl _ _ _) rfl ?_
    exact ⟨⟨_, rfl⟩, .inr ⟨_, List.prefix_refl _, hJx3⟩⟩
/-- the iterator that wordsOf hands back tells the words of a piece -/
theorem wordsOf_stops (n : Nat) (hn : 1 ≤ n) (B Bn : Nat) (x : Pc) (w : World) (hx : x.k = 1 → textB x.s = true) (hx2 : x.k ≠ 1 → pieceE x = 0) (hs : x.s.size ≤ maxLen) (hBn : w.heap[Bn]? = some (pcC x)) (hB : 6 ≤ B) (hBw : B ≤ w.heap.size) (hC : Cls2 w) (hN : Nts w) :
    SeqStopsK Fence.wide n Tryz.prog 97 #[.pointer (some ⟨Bn, 0, none⟩)] (fun y : ByteArray => #[Value.string y]) (KpW B Bn) (fun ys => ys = wordsP x) (fun pre => pre <+: wordsP x) (wordsP x).length w := by
  intro l J Jx W hW hJ hJx hY h0
  have hb : W.heap[Bn]? = some (pcC x) := (hW.block _ (lt_of_block hBn)).trans hBn
  have hsz := hW.size
  by_cases hk : x.k = 1
  · obtain ⟨k, s, c⟩ := x
    dsimp only at hk
    subst hk
    have e : wordsP ⟨1, s, c⟩ = restW s s.size 0 0 := by unfold wordsP; rw [if_pos rfl]
    rw [e] at hY ⊢
    exact wordsText_in n hn l B Bn s c (hx rfl) hs J Jx hY W hJ hb hB (by omega) (hC.below hW (by omega)) h0
  · have e : wordsP x = [bytes (wB x)] := by unfold wordsP; rw [if_neg hk]
    rw [e] at hY ⊢
    exact wordsMark_in n hn l B Bn x hk (hx2 hk) J Jx hY W hJ hb (hN.step hW) h0
end Go.Proofs.YtnbeomclmggbiaaGreatDoor
namespace Go.Proofs.YtnbeomclmggbiaaGreatDoor
open Go Go.RowKit Go.Lib
set_option maxRecDepth 100000
attribute [local go_sem] Oper.semAt_some
/-- a mark among the deferred calls: a range over a function was there -/
def rfMark (D : Nat) : Deferred := { target := .collected D, args := #[] }
/-- the blocks of the marks -/
def MarksAt (B : Nat) (Ds : List Nat) (W : World) : Prop := Ds.Nodup ∧ ∀ D ∈ Ds, B ≤ D ∧ W.heap[D]? = some (.deferred (some []))
theorem MarksAt.nil (B : Nat) (W : World) : MarksAt B [] W := ⟨List.nodup_nil, fun _ h => by cases h⟩
theorem MarksAt.cons {B D : Nat} {Ds : List Nat} {W : World} (h : MarksAt B Ds W) (hD : B ≤ D) (hn : D ∉ Ds) (hW : W.heap[D]? = some (.deferred (some []))) : MarksAt B (D :: Ds) W :=
  ⟨List.nodup_cons.2 ⟨hn, h.1⟩, fun E hE => (List.mem_cons.1 hE).elim (fun e => e ▸ ⟨hD, hW⟩) (h.2 E)⟩
theorem MarksAt.step {B : Nat} {Ds : List Nat} {W W' : World} (h : MarksAt B Ds W) (hb : Below W.heap.size W W') : MarksAt B Ds W' :=
  ⟨h.1, fun D hD => ⟨(h.2 D hD).1, (hb.block D (lt_of_block (h.2 D hD).2)).trans (h.2 D hD).2⟩⟩
theorem MarksAt.others {B : Nat} {Ds : List Nat} {W W' : World} (h : MarksAt B Ds W) (hb : KeepsOthers W W') : MarksAt B Ds W' :=
  ⟨h.1, fun D hD => ⟨(h.2 D hD).1, hb.same D _ (h.2 D hD).2 rfl⟩⟩
theorem MarksAt.lt {B : Nat} {Ds : List Nat} {W : World} (h : MarksAt B Ds W) : ∀ D ∈ Ds, D < W.heap.size := fun D hD => lt_of_block (h.2 D hD).2
theorem leavesMarks {P : Program} {n : Nat} {fn : Func} {tmps : Array Value} {R : Ending → World → Prop} (I : World → Prop) (B : Nat) (hI : ∀ W D, I W → B ≤ D → W.heap[D]? = some (.deferred (some [])) → I (W.putObj D (.deferred none)))
    (hR : ∀ W, I W → LeavesIn Fence.wide n P fn tmps R [] .returning W) : ∀ (Ds : List Nat) (W : World), I W → MarksAt B Ds W → LeavesInM Fence.wide n P fn tmps R (Ds.map rfMark) .returning W
  | [], W, hi, _ => hR W hi
  | D :: Ds, W, hi, hm => by
    obtain ⟨h1, h2⟩ := hm.2 D (List.mem_cons_self ..)
    refine ⟨by simp, .inl ⟨D, W.putObj D (.deferred none), rfl, run_takeDeferred h2, ?_⟩⟩
    refine leavesMarks I B hI hR Ds _ (hI W D hi h1 h2) ⟨(List.nodup_cons.1 hm.1).2, fun E hE => ?_⟩
    obtain ⟨k1, k2⟩ := hm.2 E (List.mem_cons_of_mem _ hE)
    refine ⟨k1, (World.putObj_heap_other ?_).trans k2⟩
    rintro rfl
    exact (List.nodup_cons.1 hm.1).1 hE
theorem cutTo_step {l : List Pc} {k : Nat} (h : k < l.length) (ht : ∀ i, i < l.length → (l.getD i nil).k = 1 → textB (l.getD i nil).s = true) : cutTo l (k + 1) = cutTo l k ++ wordsP (l.getD k nil) := by
  rw [cutTo_succ h, cutPc_app _ _ (ht k h)]
theorem cutTo_pre {l : List Pc} (ht : ∀ i, i < l.length → (l.getD i nil).k = 1 → textB (l.getD i nil).s = true) : ∀ d k, k + d = l.length → cutTo l k <+: cutL l
  | 0, k, h => by obtain rfl : k = l.length := h; exact List.prefix_refl _
  | d + 1, k, h => by
    have ih := cutTo_pre ht d (k + 1) (by omega)
    rw [cutTo_step (by omega) ht] at ih
    exact List.IsPrefix.trans (List.prefix_append _ _) ih
theorem textPc {x : Pc} (h : pieceE x = 0) (hk : x.k = 1) : textB x.s = true := by
  unfold pieceE at h
  rw [if_pos hk] at h
  split at h
  · cases h
  · split at h
    · cases h
    · split at h
      · cases h
      · rename_i h3
        simp only [not_or] at h3
        simpa using h3.2
/-- what holds between two rounds over the pieces: the words so far, in the box's slice -/
def OutAt (B Bo : Nat) (o : List ByteArray) (W : World) : Prop := ∃ u, Go.Boxed W Bo 36 u ∧ W.ownsRow B 9 1 u o.length (o.map Value.string)
theorem OutAt.step {B Bo : Nat} {o : List ByteArray} {W W' : World} (h : OutAt B Bo o W) (hb : Below W.heap.size W W') : OutAt B Bo o W' := by
  obtain ⟨u, h1, h2⟩ := h
  exact ⟨u, (hb.block Bo h1.lt).trans h1, ownsRow_step hb h2⟩
theorem OutAt.lt {B Bo : Nat} {o : List ByteArray} {W : World} (h : OutAt B Bo o W) : Bo < W.heap.size := by
  obtain ⟨u, h1, _⟩ := h
  exact h1.lt
theorem pc_not_row {W : World} {Bn B k : Nat} {x : Pc} {v : Value} {xs : List Value} (h : W.heap[Bn]? = some (pcC x)) (hr : W.ownsRow B 9 1 v k xs) : some Bn ≠ v.ownBlock := by
  rcases hr.2 with ⟨rfl, _⟩ | ⟨g, cap, cur, rfl, _, hgb, _⟩
  · simp [Value.ownBlock]
  · intro e'
    obtain rfl : Bn = g := by simpa [Value.ownBlock] using e'
    have := h.symm.trans hgb
    simp [pcC] at this
/-- between two rounds over the words of a piece -/
def InAt (w : World) (Bo Bn : Nat) (x : Pc) (Ds : List Nat) (o : List ByteArray) (W : World) : Prop :=
  OutAt w.heap.size Bo o W ∧ MarksAt w.heap.size Ds W ∧ Below w.heap.size w W ∧ W.heap[Bn]? = some (pcC x)
theorem InAt.own {w : World} {Bo Bn base : Nat} {x : Pc} {Ds : List Nat} {o : List ByteArray} (hbase : w.heap.size ≤ base) (hn : Bn < base) (hD : ∀ D ∈ Ds, D < base) (G : List ByteArray → Prop) : OwnFrom base (fun (pre : List ByteArray) W => G pre ∧ InAt w Bo Bn x Ds (o ++ pre) W) := by
  rintro pre X Y row ⟨hG, ⟨u, h1, h2⟩, h3, h4, h5⟩ hg hr
  obtain ⟨u', k1, k2, _⟩ := holdsRow_own w.heap.size Bo 36 9 1 (fun (p : List ByteArray) => (o ++ p).length) (fun p => (o ++ p).map Value.string) (fun _ _ => True) pre X Y row ⟨u, h1, h2, trivial⟩ hg (fun r e => (hr r e).2)
  refine ⟨hG, ⟨u', k1, k2⟩, ⟨h3.1, fun D hDm => ⟨(h3.2 D hDm).1, ?_⟩⟩, ?_, ?_⟩
  · exact (hg.block D (lt_of_block (h3.2 D hDm).2) (fun e => by have := (hr D e.symm).1; have := hD D hDm; omega)).trans (h3.2 D hDm).2
  · exact h4.grown hg (h4.size) (fun k e => by have := (hr k e).1; omega)
  · exact (hg.block Bn (lt_of_block h5) (fun e => by have := (hr Bn e.symm).1; omega)).trans h5
def Few5 (o pre : List ByteArray) : Prop := (o ++ pre).length ≤ 512
def Many5 (o pre : List ByteArray) : Prop := 512 < (o ++ pre).length
set_option maxHeartbeats 16000000 in
theorem words_any (l : List Pc) (v : Value) (w : World) (hv : PcsAt w v l) (hb : bulk l ≤ 10000) (hT : Tabs w) (hC : Cls2 w) (hN : Nts w) :
    Calls Tryz.prog 19 #[v] w fun e w' => WordsEnd w.heap.size l e w' ∧ Below w.heap.size w w' := by
  have cC := checkPieces_any l v w hv (short_mem (by omega)) hT
  obtain ⟨p, cap, rfl, hl, hc, hrow⟩ := hv
  unfold maxLen at hc
  have ag := Tryz.isAgg56
  have zg := Tryz.sizeOf56
  obtain ⟨i0, hi, hz0, hz1, hz2⟩ := info_parts info_str
  have HR := Lib.hid hrow
  have HN := Lib.hid hN
  have HCl := Lib.hid hC
  clear hrow hN hC hT
  by_cases hE : checkE l = 0
  · have hval := Lib.hid (all_valid hE)
    have HE := Lib.hid hE
    rw [hE] at cC
    clear hE
    refine (callsIn_wide (n := 3)).1 ?_
    refine callsIn_of_wp_marks Tryz.func19 rfl trivial ?_ rfl
    simp only [Tryz.ntmps19, List.size_toArray, List.length_cons, List.length_nil, Nat.reduceAdd, Nat.reduceSub, Array.replicate_succ, Array.replicate_zero, List.push_toArray, List.append_toArray, List.nil_append, List.cons_append]
    gi_wp2
    refine wpIn_wide.2 (wp_scope_straight ((wpIn_wide (n := 3)).1 ?_))
    gi_wp2_with (refine ⟨trivial, ?_⟩; gi_at_call 51; (with_reducible refine (callsIn_wide.2 cC).mono ?_); rintro e w1 ⟨rfl, hb1⟩; have HB1 := Lib.hid hb1; clear hb1)
    refine wpIn_label ?_
    gi_wp2
    have hs1 := HB1.out.size
    have HO1 := Lib.hid (show OutAt w.heap.size w1.heap.size [] (w1.alloc (.cells #[.slice none 0 0] 36)) from ⟨_, Go.Boxed.new w1 _ _, World.ownsRow_nil _ _ _ _⟩)
    have HB2 := Lib.hid (below_next HB1.out (below_box (w := w1) (.cells #[.slice none 0 0] 36)))
    have HLL := Lib.hid (show w1.heap.size < (w1.alloc (.cells #[.slice none 0 0] 36)).heap.size by simp)
    generalize w1.alloc (.cells #[.slice none 0 0] 36) = w2 at *
    obtain ⟨Bo, hBo⟩ : ∃ Bo, w1.heap.size = Bo := ⟨_, rfl⟩
    rw [hBo] at HO1 HLL hs1 ⊢
    clear HB1 hBo
    refine wpIn_loop_ghost (fun m a W => ∃ (k : Nat) (Ds : List Nat) (u7 u17 u18 u19 u20 u21 u30 : Value), m = l.length - k ∧ k ≤ l.length ∧ a = { tmps := #[.slice p l.length cap, undef, .slice none 0 0, .int .u8 0, .int .u8 0, .pointer (some ⟨Bo, 0, none⟩), undef, u7, undef, .slice p l.length cap, .int .u8 0, .int .u8 0, .bool false, undef, .slice p l.length cap, .int .i64 l.length, .int .i64 k, u17, u18, u19, u20, u21, undef, undef, undef, undef, undef, undef, undef, undef, u30, undef, undef, undef, undef], defers := Ds.map rfMark } ∧
      Hid (OutAt w.heap.size Bo (cutTo l k) W) ∧ (cutTo l k).length ≤ 512 ∧ Hid (MarksAt w.heap.size Ds W) ∧ Hid (Below w.heap.size w W)) l.length ⟨0, [], undef, undef, undef, undef, undef, undef, undef, rfl, Nat.zero_le _, rfl, HO1.out, by simp [cutTo], MarksAt.nil _ _, HB2.out⟩ ?_
    rintro m a W ⟨k, Ds, u7, u17, u18, u19, u20, u21, u30, rfl, hk, rfl, HO, hlen, HM, HB⟩
    by_cases hlt : k < l.length
    · obtain ⟨A, rfl, hA, hcell⟩ := HR.out (by omega)
      obtain ⟨x0, x1, x2⟩ := pcs_cells hA hcell hlt HB.out
      have HST := Lib.hid (cutTo_step hlt (fun i hi h => textPc (hval.out i hi) h))
      have hsz := bulk_getD hlt
      have hvx := hval.out k hlt
      clear hcell
      generalize l.getD k nil = x at x0 x1 x2 HST hsz hvx
      have HW0 := Lib.hid (show Below W.heap.size W ((W.alloc (pcC x)).alloc (pcC x)) from below_next (below_box _) (below_box _))
      have HX0 := Lib.hid (show ((W.alloc (pcC x)).alloc (pcC x)).heap[W.heap.size + 1]? = some (pcC x) by have := heap_alloc_new (W.alloc (pcC x)) (pcC x); rwa [show (W.alloc (pcC x)).heap.size = W.heap.size + 1 by simp] at this)
      have HS0 := Lib.hid (show ((W.alloc (pcC x)).alloc (pcC x)).heap.size = W.heap.size + 2 by simp)
      have cW := fun w => wordsOf_any x w
      unfold pcV at cW
      have hpc : pcC x = .cells #[.int .u8 x.k, .string x.s, .bool x.c] 56 := rfl
      rw [hpc] at cW HW0 HX0 HS0
      gi_wp2_with (refine ⟨trivial, ?_⟩; gi_at_call 52; (with_reducible refine (callsIn_wide.2 (cW _)).mono ?_); rintro e w3 ⟨rfl, rfl⟩)
      have hk1 := HW0.out.size
      have hB0 := HB.out.size
      have hMl := HM.out.lt
      have hBoW : Bo < W.heap.size := HO.out.lt
      have HIN := Lib.hid (show (Few5 (cutTo l k) [] ∧ InAt w Bo (W.heap.size + 1) x Ds (cutTo l k ++ []) _) from ⟨by unfold Few5; rw [List.append_nil]; exact hlen, by rw [List.append_nil]; exact HO.out.step HW0.out, HM.out.step HW0.out, below_next HB.out HW0.out, HX0.out⟩)
      have cS := wordsOf_stops (3 - 1) (by omega) w.heap.size (W.heap.size + 1) x _ (fun h => textPc hvx h) (fun _ => hvx) (by unfold maxLen; omega) HX0.out HN.out.1 (by omega) ((HCl.out.below HB.out (by have := HN.out.1; omega)).below HW0.out (by have := HN.out.1; omega)) ((HN.out.step HB.out).step HW0.out)
      have HPRE := Lib.hid (show cutTo l (k + 1) <+: cutL l from cutTo_pre (fun i hi h => textPc (hval.out i hi) h) (l.length - (k + 1)) (k + 1) (by omega))
      clear hvx hsz HW0 cW x0 x1 x2 hpc
      generalize (W.alloc (.cells #[.int .u8 x.k, .string x.s, .bool x.c] 56)).alloc (.cells #[.int .u8 x.k, .string x.s, .bool x.c] 56) = W0 at *
      have hs0 := HS0.out
      refine wpIn_rangeFunc_ownG rfl (by omega) (gf := 97) (lb := #[.pointer (some ⟨W.heap.size + 1, 0, none⟩)]) rfl trivial (enters_of Tryz.func97 (by kernel_rfl) rfl)
        cS KpW.t (KpW.b (by omega) (by omega)) (Below.refl _ _) (fun _ => rfl)
        (fun pre W' => Few5 (cutTo l k) pre ∧ InAt w Bo (W.heap.size + 1) x Ds (cutTo l k ++ pre) W')
        (fun c pre W' => (c = .exit 0 ∧ Many5 (cutTo l k) pre) ∧ InAt w Bo (W.heap.size + 1) x Ds (cutTo l k ++ pre) W')
        (InAt.own (by omega) (by omega) (fun D hD => by have := hMl D hD; omega) (fun pre => Few5 (cutTo l k) pre))
        (fun c => InAt.own (by omega) (by omega) (fun D hD => by have := hMl D hD; omega) (fun pre => c = .exit 0 ∧ Many5 (cutTo l k) pre))
        HIN.out
        (fun y => { tmps := #[.slice (some A) l.length cap, undef, .slice none 0 0, .int .u8 0, .int .u8 0, .pointer (some ⟨Bo, 0, none⟩), undef, .pointer (some ⟨W.heap.size, 0, none⟩), .string y, .slice (some A) l.length cap, .int .u8 0, .int .u8 0, .bool false, undef, .slice (some A) l.length cap, .int .i64 l.length, .int .i64 k, .bool true, .pointer (some (A.add (k * 3))), .agg #[.int .u8 x.k, .string x.s, .bool x.c], .agg #[.int .u8 x.k, .string x.s, .bool x.c], .func (.func 97) #[] #[.pointer (some ⟨W.heap.size + 1, 0, none⟩)], .string y, undef, undef, undef, undef, undef, undef, undef, u30, undef, undef, undef, undef], defers := [] }) ?assign ?body ?done ?stop
      case assign =>
        intro l x W K hK
        gi_wp2
        exact hK
      case body =>
        rintro lp pre y W' ⟨hl5, ⟨u, hbx, hrow⟩, hM', hB', hbn'⟩ hlt'
        have hcu := hbx.cell
        have hsW := hB'.size
        have HF := Lib.hid (show Few5 (cutTo l k) (pre ++ [y]) ↔ ((cutTo l k ++ pre) ++ [y]).length ≤ 512 by unfold Few5; rw [List.append_assoc])
        have HF2 := Lib.hid (show Many5 (cutTo l k) (pre ++ [y]) ↔ 512 < ((cutTo l k ++ pre) ++ [y]).length by unfold Many5; rw [List.append_assoc])
        unfold Few5 at hl5
        clear hs0
        have hl6 : ((cutTo l k ++ pre).length + 1) * 16 ≤ 140737488355328 := by omega
        have hl7 : (cutTo l k ++ pre).length + 1 ≤ maxLen := by unfold maxLen; omega
        have hassoc : cutTo l k ++ (pre ++ [y]) = (cutTo l k ++ pre) ++ [y] := (List.append_assoc _ _ _).symm
        have HAS := Lib.hid hassoc
        clear hassoc
        generalize cutTo l k ++ pre = o at *
        have HMK := Lib.hid hM'
        have HBK := Lib.hid hB'
        have HNR := Lib.hid (pc_not_row hbn' hrow)
        have HBN := Lib.hid hbn'
        have hbl := lt_of_block hbn'
        clear hM' hB' hbn'
        have HG : Hid (∀ (w1' : World) (g' cap' : Nat), w1'.ownsRow w.heap.size 9 1 (.slice (some ⟨g', 0, none⟩) (o.length + 1) cap') (o.length + 1) (o.map Value.string ++ [.string y]) → (W'.alloc (.cells #[.string y] 9)).grownBy w1' u.ownBlock →
            KeepsFrom W0.heap.size W' (w1'.setCell ⟨Bo, 0, none⟩ (.slice (some ⟨g', 0, none⟩) (o.length + 1) cap')) ∧ KpW w.heap.size (W.heap.size + 1) W' (w1'.setCell ⟨Bo, 0, none⟩ (.slice (some ⟨g', 0, none⟩) (o.length + 1) cap')) ∧ InAt w Bo (W.heap.size + 1) x Ds (o ++ [y]) (w1'.setCell ⟨Bo, 0, none⟩ (.slice (some ⟨g', 0, none⟩) (o.length + 1) cap'))) := by
          intro w1' g' cap' hown' hgrow
          obtain ⟨hv1, hv2, hr2, hk2, hb2⟩ := hbx.appended (by decide) hrow hsW hs1 hown' hgrow
          have eB : (w1'.setCell ⟨Bo, 0, none⟩ (.slice (some ⟨g', 0, none⟩) (o.length + 1) cap')).heap[W.heap.size + 1]? = W'.heap[W.heap.size + 1]? :=
            (Below.heap_setCell _ _ _ _ (by show W.heap.size + 1 ≠ Bo; omega)).trans ((hgrow.block _ (by simp; omega) HNR.out).trans (Below.heap_alloc W' _ _ hbl))
          exact ⟨hk2.from _, ⟨hb2, hk2.walks, eB⟩, ⟨_, hv2, by rw [List.length_append, List.map_append]; exact hr2⟩, HMK.out.others hk2, HBK.out.trans hb2, eB.trans HBN.out⟩
        by_cases h512 : (512 : Int) < (o.length : Int) + 1
        · have HEX := Lib.hid (show 512 < (o ++ [y]).length by simp; omega)
          gi_wp2_with (gi_at_builtin; refine wpListIn_append_own _ rfl _ _ 36 rfl w.heap.size 9 i0 (.string ⟨#[]⟩) 1 16 Tryz.underlying36 hi hz0 hz1 hz2 rfl (by decide) _ _ _ rfl (hrow.alloc _) ⟨W'.heap.size, 0, none⟩ 1 1 [.string y] rfl rfl (cell_one_new _ _ _) (by simp [Value.oneCell']) hl7 hl6 (by simp; omega) ?_; intro v' w1' hown' hgrow _; obtain ⟨g', cap', rfl⟩ := ownsRow_succ hown'; have HGG := Lib.hid (HG.out _ _ _ hown' hgrow); obtain ⟨hv1, hv2, _, _, _⟩ := hbx.appended (by decide) hrow hsW hs1 hown' hgrow; have hc1 := hv1.cell; have hf1 := hv1.frozen; have hc2 := hv2.cell; clear hv1 hv2 hown' hgrow)
          exact ⟨HGG.out.1, ⟨rfl, HF2.out.2 HEX.out⟩, by rw [HAS.out]; exact HGG.out.2.2⟩
        · have HEX := Lib.hid (show (o ++ [y]).length ≤ 512 by simp; omega)
          gi_wp2_with (gi_at_builtin; refine wpListIn_append_own _ rfl _ _ 36 rfl w.heap.size 9 i0 (.string ⟨#[]⟩) 1 16 Tryz.underlying36 hi hz0 hz1 hz2 rfl (by decide) _ _ _ rfl (hrow.alloc _) ⟨W'.heap.size, 0, none⟩ 1 1 [.string y] rfl rfl (cell_one_new _ _ _) (by simp [Value.oneCell']) hl7 hl6 (by simp; omega) ?_; intro v' w1' hown' hgrow _; obtain ⟨g', cap', rfl⟩ := ownsRow_succ hown'; have HGG := Lib.hid (HG.out _ _ _ hown' hgrow); obtain ⟨hv1, hv2, _, _, _⟩ := hbx.appended (by decide) hrow hsW hs1 hown' hgrow; have hc1 := hv1.cell; have hf1 := hv1.frozen; have hc2 := hv2.cell; clear hv1 hv2 hown' hgrow)
          exact ⟨HGG.out.1, HGG.out.2.1, HF.out.2 HEX.out, by rw [HAS.out]; exact HGG.out.2.2⟩
      case done =>
        rintro D ys Wd hD rfl ⟨hl5, hin⟩ hK
        have HD := Lib.hid hD
        have HK := Lib.hid hK
        unfold Few5 at hl5
        have HIN2 := Lib.hid hin
        clear hD hK hin
        gi_wp2
        exact ⟨l.length - (k + 1), by omega, k + 1, D :: Ds, _, _, _, _, _, _, _, rfl, hlt, rfl, (by show OutAt _ _ _ _; rw [HST.out]; exact HIN2.out.1), by rw [HST.out]; exact hl5, HIN2.out.2.1.cons (by have := HD.out; omega) (fun h => by have := hMl D h; have := HD.out; omega) HK.out, HIN2.out.2.2.1⟩
      case stop =>
        rintro D c pre Wd hD hpre ⟨⟨rfl, hl5⟩, hin⟩ hK
        have hlong : 512 < (cutL l).length := by
          unfold Many5 at hl5
          have h1 := hpre.length_le
          have h2 := HPRE.out.length_le
          rw [HST.out, List.length_append] at h2
          rw [List.length_append] at hl5
          omega
        have HX := Lib.hid (cutE_long HE.out hlong)
        have HMM := Lib.hid (hin.2.1.cons (D := D) (by omega) (fun h => by have := hMl D h; omega) hK)
        obtain ⟨⟨u, hbx, hrow⟩, _, hB2, _⟩ := hin
        have HB2' := Lib.hid hB2
        have hcu := hbx.cell
        obtain ⟨ao, ca, rfl⟩ := (show OwnS w.heap.size u (cutTo l k ++ pre) Wd from hrow).form
        have hlI : (512 : Int) < ((cutTo l k ++ pre).length : Int) := by unfold Many5 at hl5; omega
        clear hlong hpre hl5 hB2 hbx hrow hK hD
        generalize (cutTo l k ++ pre).length = q at *
        gi_wp2
        exact leavesMarks (fun W' => Below w.heap.size w W') w.heap.size (fun W1 D1 h hD1 hk1 => h.trans (belowK_b (w := w) (Nat.le_refl _) W1 D1 _ _ hD1 hk1 rfl rfl)) (fun W1 h => ⟨_, results_tmp2 rfl _ _ _, ⟨.slice none 0 0, by rw [HX.out.1]; rfl, by rw [HX.out.2]; exact World.ownsRow_nil _ _ _ _⟩, h⟩) (D :: Ds) _ HB2'.out HMM.out
    · have hkl : k = l.length := by omega
      obtain ⟨u, hbx, hrow⟩ := HO.out
      have hcu := hbx.cell
      obtain ⟨ao, ca, rfl⟩ := (show OwnS w.heap.size u (cutTo l k) W from hrow).form
      have hlI : ¬ (512 : Int) < ((cutTo l k).length : Int) := by omega
      have HX := Lib.hid (cutE_fine HE.out (show ¬ 512 < (cutL l).length by unfold cutL; rw [← hkl]; omega))
      have HROW := Lib.hid (show OwnS w.heap.size _ (cutL l) W by unfold cutL; rw [← hkl]; exact hrow)
      clear hkl hbx hrow HO hlen
      generalize (cutTo l k).length = q at *
      gi_wp2
      exact leavesMarks (fun W' => OwnS w.heap.size (.slice ao q ca) (cutL l) W' ∧ Below w.heap.size w W') w.heap.size (fun W1 D1 h hD1 hk1 => ⟨ownsRow_putObj h.1 _ hk1 rfl, h.2.trans (belowK_b (w := w) (Nat.le_refl _) W1 D1 _ _ hD1 hk1 rfl rfl)⟩) (fun W1 h => ⟨_, results_tmp2 rfl _ _ _, ⟨_, by rw [HX.out.1]; rfl, by rw [HX.out.2]; exact h.1⟩, h.2⟩) Ds _ ⟨HROW.out, HB.out⟩ HM.out
  · obtain ⟨Z, hZ⟩ : ∃ Z, checkE l = Z := ⟨_, rfl⟩
    have HX := Lib.hid (cutE_bad hE)
    rw [hZ] at cC hE
    have HZ := Lib.hid hZ
    have hz : (Z == 0) = false := by simpa using hE
    have hz2 : (Z != 0) = true := by simpa using hE
    clear hZ hE
    refine (callsIn_wide (n := 3)).1 ?_
    refine callsIn_of_wp_marks Tryz.func19 rfl trivial ?_ rfl
    simp only [Tryz.ntmps19, List.size_toArray, List.length_cons, List.length_nil, Nat.reduceAdd, Nat.reduceSub, Array.replicate_succ, Array.replicate_zero, List.push_toArray, List.append_toArray, List.nil_append, List.cons_append]
    gi_wp2
    refine wpIn_wide.2 (wp_scope_straight ((wpIn_wide (n := 3)).1 ?_))
    gi_wp2_with (refine ⟨trivial, ?_⟩; gi_at_call 51; (with_reducible refine (callsIn_wide.2 cC).mono ?_); rintro e w1 ⟨rfl, hb1⟩; have HB1 := Lib.hid hb1; clear hb1)
    exact ⟨_, results_tmp2 rfl _ _ _, ⟨.slice none 0 0, by rw [HX.out.1, HZ.out]; rfl, by rw [HX.out.2]; exact World.ownsRow_nil _ _ _ _⟩, HB1.out⟩
end Go.Proofs.YtnbeomclmggbiaaGreatDoor
namespace Go.Proofs.YtnbeomclmggbiaaGreatDoor
open Go Go.RowKit Go.Lib
set_option maxRecDepth 100000
theorem runes_step {s : ByteArray} {f pos : Nat} (hp : pos < s.size) : runesG (f + 1) (s.data.toList.drop pos) = (Utf8.decode s pos).1 :: runesG f (s.data.toList.drop (pos + (Utf8.decode s pos).2)) := by
  have hne : s.data.toList.drop pos ≠ [] := by
    intro h
    have := congrArg List.length h
    rw [List.length_drop, bytes_len] at this
    simp at this; omega
  simp only [runesG, if_neg hne, decodeL_drop, List.drop_drop]
theorem runes_end {s : ByteArray} {f pos : Nat} (hp : ¬ pos < s.size) : runesG f (s.data.toList.drop pos) = [] := by
  have hz : s.data.toList.drop pos = [] := by
    apply List.drop_eq_nil_of_le
    rw [bytes_len]; omega
  rw [hz]
  cases f <;> simp [runesG]
theorem decode_fit {s : ByteArray} {pos : Nat} (hp : pos < s.size) : pos + (Utf8.decode s pos).2 ≤ s.size := by
  have hne : s.data.toList.drop pos ≠ [] := by
    intro h
    have := congrArg List.length h
    rw [List.length_drop, bytes_len] at this
    simp at this; omega
  have := decodeL_le _ hne
  rw [decodeL_drop, List.length_drop, bytes_len] at this
  omega
/-- where all runes are letters or digits, one row is told -/
theorem rest_all (s : ByteArray) : ∀ (f row pos : Nat), s.size ≤ pos + f → (runesG f (s.data.toList.drop pos)).all inN = true → restW s f row pos = rowEnd (s.extract row s.size)
  | 0, _, _, _, _ => rfl
  | f + 1, row, pos, h, ha => by
    by_cases hp : pos < s.size
    · have hw := width_pos s pos
      rw [runes_step hp, List.all_cons, Bool.and_eq_true] at ha
      rw [restW_in hp ha.1]
      exact rest_all s f row _ (by omega) ha.2
    · exact restW_end hp
theorem ext_size {s : ByteArray} {a b : Nat} (hb : b ≤ s.size) : (s.extract a b).size = b - a := by rw [ByteArray.size_extract, Nat.min_eq_left hb]
theorem rowEnd_size {s : ByteArray} {a b : Nat} (hb : b ≤ s.size) {y : ByteArray} (h : y ∈ rowEnd (s.extract a b)) : y.size = b - a := by
  unfold rowEnd at h
  split at h
  · cases h
  · rw [List.mem_singleton.1 h, ext_size hb]
/-- no word is longer than what is left -/
theorem rest_size (s : ByteArray) : ∀ (f row pos : Nat), row ≤ pos → ∀ y ∈ restW s f row pos, y.size ≤ s.size - row
  | 0, row, pos, _, y, hy => Nat.le_of_eq (rowEnd_size (Nat.le_refl _) hy)
  | f + 1, row, pos, h, y, hy => by
    by_cases hp : pos < s.size
    · have hw := width_pos s pos
      cases hi : inN (Utf8.decode s pos).1
      · rw [restW_out hp hi] at hy
        rcases List.mem_append.1 hy with h1 | h1
        · have := rowEnd_size (by omega) h1; omega
        · rcases List.mem_append.1 h1 with h2 | h2
          · split at h2
            · cases h2
            · rw [List.mem_singleton.1 h2, ext_size (by omega)]; omega
          · have := rest_size s f (pos + 1) (pos + 1) (Nat.le_refl _) y h2
            omega
      · rw [restW_in hp hi] at hy
        exact rest_size s f row _ (by omega) y hy
    · rw [restW_end hp] at hy
      exact Nat.le_of_eq (rowEnd_size (Nat.le_refl _) hy)
/-- where one rune is neither, the first word is shorter than what is left, or it is that rune -/
theorem rest_head (s : ByteArray) : ∀ (f row pos : Nat), row ≤ pos → row < s.size → s.size ≤ pos + f → (runesG f (s.data.toList.drop pos)).all inN = false → ∀ y ys, restW s f row pos = y :: ys →
    y.size < s.size - row ∨ (row = pos ∧ inN (Utf8.decode s pos).1 = false ∧ (Utf8.decode s pos).1 ≠ 32 ∧ y = s.extract pos (pos + 1))
  | 0, row, pos, _, _, _, ha, _, _, _ => by simp [runesG] at ha
  | f + 1, row, pos, h, hs, hf, ha, y, ys, he => by
    by_cases hp : pos < s.size
    · have hw := width_pos s pos
      cases hi : inN (Utf8.decode s pos).1
      · rw [restW_out hp hi] at he
        by_cases hr : row < pos
        · rw [rowEnd_some (by omega) hr] at he
          left
          rw [← (List.cons.inj he).1, ext_size (by omega)]
          omega
        · obtain rfl : row = pos := by omega
          rw [rowEnd_none (by omega) (by omega), List.nil_append] at he
          by_cases h32 : (Utf8.decode s row).1 = 32
          · rw [if_pos h32, List.nil_append] at he
            left
            have := rest_size s f (row + 1) (row + 1) (Nat.le_refl _) y (by rw [he]; exact List.mem_cons_self ..)
            omega
          · rw [if_neg h32] at he
            right
            exact ⟨rfl, rfl, h32, (List.cons.inj he).1.symm⟩
      · rw [restW_in hp hi] at he
        rw [runes_step hp, List.all_cons, hi, Bool.true_and] at ha
        rcases rest_head s f row _ (by omega) hs (by omega) ha y ys he with h1 | ⟨h1, _⟩
        · exact .inl h1
        · omega
    · rw [runes_end hp] at ha
      simp at ha
/-- the first word is the whole just if it is a row, or a mark -/
theorem rowB_head {s : ByteArray} (ht : textB s = true) : rowB s = true ↔ ∃ ys, restW s s.size 0 0 = s :: ys := by
  have hx : s.extract 0 s.size = s := ByteArray.extract_zero_size
  have hr : runesOf s = runesG s.size (s.data.toList.drop 0) := by rw [List.drop_zero]; rfl
  by_cases hz : s.size = 0
  · have h0 : restW s s.size 0 0 = [] := by
      rw [restW_end (by omega), rowEnd_none (Nat.le_refl _) (by omega)]
    have h1 : (runesOf s).length = 0 := by rw [hr, runes_end (by omega)]; rfl
    rw [rowB_nil h1, h0]
    simp
  · have hp : 0 < s.size := by omega
    obtain ⟨f, hf⟩ : ∃ f, s.size = f + 1 := ⟨s.size - 1, by omega⟩
    have hl : 0 < (runesOf s).length := by rw [hr, hf, runes_step hp]; simp
    cases ha : (runesOf s).all inN
    · rw [hr] at ha
      constructor
      · intro h
        unfold rowB at h
        rw [ht, Bool.true_and, Bool.and_eq_true, Bool.or_eq_true, hr, ha] at h
        have hq := h.2
        simp only [Bool.false_eq_true, or_false, Bool.and_eq_true, decide_eq_true_eq] at hq
        obtain ⟨h1, h2⟩ := hq
        rw [hf, runes_step hp] at h1 h2
        simp only [List.getD_cons_zero, List.length_cons, Nat.zero_add] at h1 h2
        have hm : inN (Utf8.decode s 0).1 = false := by
          unfold markN at h2
          unfold inN
          simp only [Bool.and_eq_true, Bool.not_eq_true'] at h2
          rw [h2.1.2, h2.2]; rfl
        have h32 : (Utf8.decode s 0).1 ≠ 32 := by
          unfold markN at h2
          simp only [Bool.and_eq_true, decide_eq_true_eq] at h2
          exact h2.1.1
        have hn := narrow (inN_small hm)
        rw [hn] at h1
        have hs1 : s.size = 1 := by
          by_cases h3 : 1 < s.size
          · obtain ⟨g, rfl⟩ : ∃ g, f = g + 1 := ⟨f - 1, by omega⟩
            rw [runes_step h3] at h1
            simp at h1
          · omega
        refine ⟨restW s f 1 1, ?_⟩
        rw [hf, restW_out hp hm, rowEnd_none (by omega) (by omega), if_neg h32]
        show s.extract 0 (0 + 1) :: restW s f (0 + 1) (0 + 1) = _
        rw [show 0 + 1 = s.size by omega, hx]
        rw [hs1]
      · rintro ⟨ys, h⟩
        rcases rest_head s s.size 0 0 (Nat.le_refl _) hp (by omega) ha s ys h with h1 | ⟨_, h1, h2, h3⟩
        · omega
        · have hs1 : s.size = 1 := by rw [h3, ext_size (by omega)]
          have hn := narrow (inN_small h1)
          have hlen : (runesOf s).length = 1 := by
            rw [hr, hf, runes_step hp, hn, runes_end (by omega)]; rfl
          refine rowB_mark ht hlen ?_
          rw [hr, hf, runes_step hp]
          unfold inN at h1
          simp only [Bool.or_eq_false_iff] at h1
          unfold markN
          simp only [List.getD_cons_zero]
          simp [h1.1, h1.2, h2]
    · have e : restW s s.size 0 0 = [s] := by
        rw [rest_all s s.size 0 0 (by omega) (by rw [← hr]; exact ha), rowEnd_some (Nat.le_refl _) hp, hx]
      rw [e]
      refine ⟨fun _ => ⟨[], rfl⟩, fun _ => ?_⟩
      unfold rowB
      rw [ht, ha]
      simp [hl]
end Go.Proofs.YtnbeomclmggbiaaGreatDoor
namespace Go.Proofs.YtnbeomclmggbiaaGreatDoor
open Go Go.RowKit Go.Lib
set_option maxRecDepth 100000
attribute [local go_sem] Oper.semAt_some
theorem results_cc0 {fn : Func} {p q : Tmp} {ty tz : TypeId} (h : fn.results = #[.cell p ty, .cell q tz]) (tmps : Array Value) (P : Program) (w : World) :
    (results fn tmps).run P w = ((asAddr (tmps.getD p undef)).run P w).andThen fun a w1 => ((loadVar ty a).run P w1).andThen fun v w2 => ((asAddr (tmps.getD q undef)).run P w2).andThen fun b w3 => ((loadVar tz b).run P w3).andThen fun v' w4 => .ok (.tuple #[v, v']) w4 := by
  simp only [results, h]
  simp [Sem.run_bind, Result.andThen]
theorem results_cc {fn : Func} {p q : Tmp} {ty tz : TypeId} (h : fn.results = #[.cell p ty, .cell q tz]) {tmps : Array Value} {P : Program} {w : World} {a b : Addr} {xs : List Value} {y : Value}
    (ha : tmps.getD p undef = .pointer (some a)) (hb : tmps.getD q undef = .pointer (some b))
    (iy : ∀ w, (isAgg ty).run P w = .ok true w) (iz : ∀ w, (isAgg tz).run P w = .ok false w) (sy : ∀ w, (sizeOf ty).run P w = .ok xs.length w)
    (cx : ∀ j v, xs[j]? = some v → w.cell? (a.add j) = some v) (cy : w.cell? b = some y) :
    (results fn tmps).run P w = .ok (.tuple #[.agg xs.toArray, y]) w := by
  have hx := run_loadCells_list (P := P) w a xs cx
  rw [results_cc0 h, ha, hb]
  simp [Sem.run_bind, Result.andThen, asAddr, loadVar, iy, iz, sy, hx, cy]
/-- what reading a word returns -/
def WrdEnd (s : ByteArray) (e : Ending) : Prop := e = .returned (.tuple #[pcV (if (pieceW s).2 = true then (pieceW s).1 else nil), .bool (pieceW s).2])
/-- the blocks of a call of readWord: the word, both results, and one more piece; what lies below -/
def WrAt (w : World) (s : ByteArray) (r : Pc) (b : Bool) (W : World) : Prop :=
  W.heap[w.heap.size]? = some (.cells #[.string s] 9 (0, 0)) ∧ W.heap[w.heap.size + 1]? = some (pcC r) ∧ W.heap[w.heap.size + 2]? = some (.cells #[.bool b] 4 (0, 0)) ∧ Below w.heap.size w W
theorem WrAt.step {w : World} {s : ByteArray} {r : Pc} {b : Bool} {W W' : World} (h : WrAt w s r b W) (hb : Below W.heap.size W W') : WrAt w s r b W' :=
  ⟨(hb.block _ (lt_of_block h.1)).trans h.1, (hb.block _ (lt_of_block h.2.1)).trans h.2.1, (hb.block _ (lt_of_block h.2.2.1)).trans h.2.2.1, below_next h.2.2.2 hb⟩
theorem WrAt.kept {w : World} {s : ByteArray} {r : Pc} {b : Bool} {W W' : World} {row : Option Nat} (h : WrAt w s r b W) (hg : W.grownBy W' row) (hr : ∀ k, row = some k → w.heap.size + 3 ≤ k) : WrAt w s r b W' :=
  ⟨(hg.block _ (lt_of_block h.1) (fun e => by have := hr _ e.symm; omega)).trans h.1, (hg.block _ (lt_of_block h.2.1) (fun e => by have := hr _ e.symm; omega)).trans h.2.1, (hg.block _ (lt_of_block h.2.2.1) (fun e => by have := hr _ e.symm; omega)).trans h.2.2.1,
   h.2.2.2.grown hg h.2.2.2.size (fun k e => by have := hr k e; omega)⟩
theorem WrAt.cells {w : World} {s : ByteArray} {r : Pc} {b : Bool} {W : World} (h : WrAt w s r b W) : W.cell? ⟨w.heap.size, 0, none⟩ = some (.string s) ∧ W.cell? ⟨w.heap.size + 1, 0, none⟩ = some (.int .u8 r.k) ∧ W.cell? ⟨w.heap.size + 1, 1, none⟩ = some (.string r.s) ∧ W.cell? ⟨w.heap.size + 1, 2, none⟩ = some (.bool r.c) ∧ W.cell? ⟨w.heap.size + 2, 0, none⟩ = some (.bool b) ∧
    W.frozen? ⟨w.heap.size + 1, 0, none⟩ = false ∧ W.frozen? ⟨w.heap.size + 1, 1, none⟩ = false ∧ W.frozen? ⟨w.heap.size + 1, 2, none⟩ = false ∧ W.frozen? ⟨w.heap.size + 2, 0, none⟩ = false :=
  ⟨(Lib.cell_of_heap h.1 0).trans rfl, (Lib.cell_of_heap h.2.1 0).trans rfl, (Lib.cell_of_heap h.2.1 1).trans rfl, (Lib.cell_of_heap h.2.1 2).trans rfl, (Lib.cell_of_heap h.2.2.1 0).trans rfl, Lib.frozen_of_heap h.2.1 0, Lib.frozen_of_heap h.2.1 1, Lib.frozen_of_heap h.2.1 2, Lib.frozen_of_heap h.2.2.1 0⟩
/-- both results written -/
def wrSet (w W : World) (r : Pc) (b : Bool) : World := (((W.setCell ⟨w.heap.size + 1, 0, none⟩ (.int .u8 r.k)).setCell ⟨w.heap.size + 1, 1, none⟩ (.string r.s)).setCell ⟨w.heap.size + 1, 2, none⟩ (.bool r.c)).setCell ⟨w.heap.size + 2, 0, none⟩ (.bool b)
theorem WrAt.set {w : World} {s : ByteArray} {r : Pc} {b : Bool} {W : World} (h : WrAt w s r b W) (r' : Pc) (b' : Bool) : WrAt w s r' b' (wrSet w W r' b') ∧ KeepsOthers W (wrSet w W r' b') := by
  obtain ⟨h1, h2, h3, h4⟩ := h
  unfold wrSet
  refine ⟨⟨?_, ?_, ?_, ?_⟩, ?_⟩
  · simp [World.setCell, Array.getElem?_modify, h1]
  · simp [World.setCell, Array.getElem?_modify, h2, pcC]
  · simp [World.setCell, Array.getElem?_modify, h3]
  · exact (((h4.setCell (p := ⟨w.heap.size + 1, 0, none⟩) (by simp) _).setCell (p := ⟨w.heap.size + 1, 1, none⟩) (by simp) _).setCell (p := ⟨w.heap.size + 1, 2, none⟩) (by simp) _).setCell (p := ⟨w.heap.size + 2, 0, none⟩) (by simp) _
  · exact ((((KeepsOthers.setCell _ _ _).trans (KeepsOthers.setCell _ _ _)).trans (KeepsOthers.setCell _ _ _)).trans (KeepsOthers.setCell _ _ _))
theorem WrAt.results {w : World} {s : ByteArray} {r : Pc} {b : Bool} {W : World} (h : WrAt w s r b W) {tmps : Array Value} (h2 : tmps.getD 2 undef = .pointer (some ⟨w.heap.size + 1, 0, none⟩)) (h3 : tmps.getD 3 undef = .pointer (some ⟨w.heap.size + 2, 0, none⟩)) :
    (results Tryz.f100 tmps).run Tryz.prog W = .ok (.tuple #[pcV r, .bool b]) W := by
  obtain ⟨_, c0, c1, c2, c3, _⟩ := h.cells
  exact results_cc (xs := [.int .u8 r.k, .string r.s, .bool r.c]) rfl h2 h3 Tryz.isAgg56 Tryz.isAgg4 Tryz.sizeOf56 (three_cells c0 c1 c2) c3
/-- how a round of readWord leaves -/
def WrX (w : World) (s : ByteArray) (c : Code) (pre : List ByteArray) (W : World) : Prop :=
  (c = .ret ∧ pre = [s] ∧ WrAt w s ⟨1, s, false⟩ true W) ∨ (c = .exit 0 ∧ (∃ y, pre = [y] ∧ y ≠ s) ∧ WrAt w s nil false W)
def WrI (w : World) (s : ByteArray) (Bp : Nat) (pre : List ByteArray) (W : World) : Prop := pre = [] ∧ WrAt w s nil false W ∧ W.heap[Bp]? = some (pcC ⟨1, s, false⟩)
theorem WrI.own {w : World} {s : ByteArray} {Bp base : Nat} (hb : w.heap.size + 3 ≤ base) (hp : Bp < base) : OwnFrom base (WrI w s Bp) := by
  rintro pre X Y row ⟨h1, h2, h3⟩ hg hr
  exact ⟨h1, h2.kept hg (fun k e => by have := (hr k e).1; omega), (hg.block Bp (lt_of_block h3) (fun e => by have := (hr Bp e.symm).1; omega)).trans h3⟩
theorem WrX.own {w : World} {s : ByteArray} {base : Nat} (hb : w.heap.size + 3 ≤ base) (c : Code) : OwnFrom base (WrX w s c) := by
  rintro pre X Y row (⟨h1, h2, h3⟩ | ⟨h1, h2, h3⟩) hg hr
  · exact .inl ⟨h1, h2, h3.kept hg (fun k e => by have := (hr k e).1; omega)⟩
  · exact .inr ⟨h1, h2, h3.kept hg (fun k e => by have := (hr k e).1; omega)⟩
theorem WrAt.leaves {w : World} {s : ByteArray} {r : Pc} {b : Bool} {W : World} {D : Nat} (h : WrAt w s r b W) (hD : w.heap.size + 3 ≤ D) (hK : W.heap[D]? = some (.deferred (some []))) (he : WrdEnd s (.returned (.tuple #[pcV r, .bool b]))) {tmps : Array Value}
    (h2 : tmps.getD 2 undef = .pointer (some ⟨w.heap.size + 1, 0, none⟩)) (h3 : tmps.getD 3 undef = .pointer (some ⟨w.heap.size + 2, 0, none⟩)) :
    LeavesInM Fence.wide 3 Tryz.prog Tryz.f100 tmps (fun e w' => WrdEnd s e ∧ Below w.heap.size w w') [{ target := .collected D, args := #[] }] .returning W :=
  leavesMarks (fun W' => WrAt w s r b W') (w.heap.size + 3) (fun W1 D1 h hD1 hk1 => h.kept (grownBy_putObj' W1 D1 _) (fun k e => by cases e; exact hD1)) (fun W1 h => ⟨_, h.results h2 h3, he, h.2.2.2⟩) [D] W h ((MarksAt.nil _ _).cons hD (by simp) hK)
set_option maxHeartbeats 16000000 in
theorem readWord_any (s : ByteArray) (w : World) (hs : s.size ≤ 140737488355328) (hT : Tabs w) (hC : Cls2 w) (hN : Nts w) :
    Calls Tryz.prog 100 #[.string s] w fun e w' => WrdEnd s e ∧ Below w.heap.size w w' := by
  have ag := Tryz.isAgg56
  have zg := Tryz.sizeOf56
  have HT := Lib.hid hT
  have HN := Lib.hid hN
  have HCl := Lib.hid hC
  clear hT hC hN
  have HR0 := Lib.hid (show WrAt w s nil false (((w.alloc (.cells #[.string s] 9)).alloc pcZ).alloc (.cells #[.bool false] 4)) by
    refine ⟨?_, ?_, ?_, below_next (below_next (below_box _) (below_box _)) (below_box _)⟩
    · exact ((below_next (below_box (w := w.alloc (.cells #[.string s] 9)) pcZ) (below_box _)).block _ (by simp)).trans (heap_alloc_new w _)
    · exact ((below_box (w := (w.alloc (.cells #[.string s] 9)).alloc pcZ) _).block _ (by simp)).trans (by have := heap_alloc_new (w.alloc (.cells #[.string s] 9)) pcZ; rw [show (w.alloc (.cells #[.string s] 9)).heap.size = w.heap.size + 1 by simp] at this; exact this)
    · have := heap_alloc_new ((w.alloc (.cells #[.string s] 9)).alloc pcZ) (.cells #[.bool false] 4)
      rw [show ((w.alloc (.cells #[.string s] 9)).alloc pcZ).heap.size = w.heap.size + 2 by simp] at this
      exact this)
  have cM := fun w2 (h : Below w.heap.size w w2) => readMark_any s w2 hs (HN.out.step h)
  have cT := fun w2 (h : Below w.heap.size w w2) => isText_any s w2 (by unfold maxLen; omega) (HT.out.step h)
  unfold pcZ at HR0
  have HB0 := Lib.hid HR0.out.2.2.2
  refine (callsIn_wide (n := 3)).1 ?_
  refine callsIn_of_wp_marks Tryz.func100 rfl trivial ?_ rfl
  simp only [Tryz.ntmps100, List.size_toArray, List.length_cons, List.length_nil, Nat.reduceAdd, Nat.reduceSub, Array.replicate_succ, Array.replicate_zero, List.push_toArray, List.append_toArray, List.nil_append, List.cons_append]
  gi_wp2_with (refine ⟨trivial, ?_⟩; gi_at_call 103; (with_reducible refine (callsIn_wide.2 (cM _ HB0.out)).mono ?_); rintro e w2 ⟨he2, hb2⟩; obtain ⟨x, ok, rfl, ht⟩ := he2.pieceW; have HW := Lib.hid ht; have HR2 := Lib.hid (HR0.out.step hb2); have HRX := Lib.hid (HR2.out.step (below_box (.cells #[.int .u8 x.k, .string x.s, .bool x.c] 56))); obtain ⟨c0, c1, c2, c3, c4, f1, f2, f3, f4⟩ := HR2.out.cells; obtain ⟨d0, d1, d2, d3, d4, g1, g2, g3, g4⟩ := HRX.out.cells; have hl3 := lt_of_block HR2.out.2.2.1; clear ht hb2 he2; dsimp only [nil] at c1 c2 c3 d1 d2 d3; cases ok)
  · have HBX := Lib.hid HRX.out.2.2.2
    have hp : pieceW s = (⟨1, s, false⟩, rowB s) := HW.out
    have HP := Lib.hid hp
    clear hp HW
    generalize w2.alloc (.cells #[.int .u8 x.k, .string x.s, .bool x.c] 56) = wX at *
    have cT1 := cT wX HBX.out
    clear cT cM HR2 c0 c1 c2 c3 c4 f1 f2 f3 f4 hl3
    cases ht : textB s
    · rw [ht] at cT1
      have HX := Lib.hid (rowB_text ht)
      clear ht
      gi_wp2_with (refine ⟨trivial, ?_⟩; gi_at_call 112; (with_reducible refine (callsIn_wide.2 cT1).mono ?_); rintro e w4 ⟨rfl, hb4⟩; have HR4 := Lib.hid (HRX.out.step hb4); obtain ⟨c0, c1, c2, c3, c4, f1, f2, f3, f4⟩ := HR4.out.cells; dsimp only [nil] at c1 c2 c3; clear hb4)
      exact ⟨_, (HR4.out.set nil false).1.results rfl rfl, by unfold WrdEnd; rw [HP.out, HX.out]; rfl, (HR4.out.set nil false).1.2.2.2⟩
    · rw [ht] at cT1
      have HTX := Lib.hid ht
      have HX := Lib.hid (rowB_head ht)
      clear ht
      have cW := fun w => wordsOf_any ⟨1, s, false⟩ w
      have hpc : pcC ⟨1, s, false⟩ = .cells #[.int .u8 1, .string s, .bool false] 56 := rfl
      unfold pcV at cW
      rw [hpc] at cW
      gi_wp2_with (first
        | (refine ⟨trivial, ?_⟩; gi_at_call 112; (with_reducible refine (callsIn_wide.2 cT1).mono ?_); rintro e w4 ⟨rfl, hb4⟩; have HR4 := Lib.hid (HRX.out.step hb4); obtain ⟨c0, c1, c2, c3, c4, f1, f2, f3, f4⟩ := HR4.out.cells; dsimp only [nil] at c1 c2 c3; have hl4 := lt_of_block HR4.out.2.2.1; clear hb4)
        | (refine ⟨trivial, ?_⟩; gi_at_call 52; (with_reducible refine (callsIn_wide.2 (cW _)).mono ?_); rintro e w5 ⟨rfl, rfl⟩))
      have HX0 := Lib.hid (show ((w4.alloc (.cells #[.int .u8 1, .string s, .bool false] 56)).alloc (.cells #[.int .u8 1, .string s, .bool false] 56)).heap[w4.heap.size + 1]? = some (pcC ⟨1, s, false⟩) by have := heap_alloc_new (w4.alloc (pcC ⟨1, s, false⟩)) (pcC ⟨1, s, false⟩); rwa [show (w4.alloc (pcC ⟨1, s, false⟩)).heap.size = w4.heap.size + 1 by simp] at this)
      have HX6 := Lib.hid (show ((w4.alloc (.cells #[.int .u8 1, .string s, .bool false] 56)).alloc (.cells #[.int .u8 1, .string s, .bool false] 56)).heap[w4.heap.size]? = some (pcC ⟨1, s, false⟩) from ((below_box (w := w4.alloc (.cells #[.int .u8 1, .string s, .bool false] 56)) _).block _ (by simp)).trans (heap_alloc_new w4 _))
      have HS0 := Lib.hid (show ((w4.alloc (.cells #[.int .u8 1, .string s, .bool false] 56)).alloc (.cells #[.int .u8 1, .string s, .bool false] 56)).heap.size = w4.heap.size + 2 by simp)
      have HRW := Lib.hid (HR4.out.step (below_next (below_box (.cells #[.int .u8 1, .string s, .bool false] 56)) (below_box (.cells #[.int .u8 1, .string s, .bool false] 56))))
      have cS := wordsOf_stops (3 - 1) (by omega) w.heap.size (w4.heap.size + 1) ⟨1, s, false⟩ _ (fun _ => HTX.out) (fun h => absurd rfl h) (by unfold maxLen; show s.size ≤ _; omega) HX0.out HN.out.1 (by have := HRW.out.2.2.2.size; omega) (HCl.out.below HRW.out.2.2.2 (by have := HN.out.1; omega)) (HN.out.step HRW.out.2.2.2)
      have ew : wordsP ⟨1, s, false⟩ = restW s s.size 0 0 := by unfold wordsP; rw [if_pos rfl]
      rw [ew] at cS
      clear cW hpc c0 c1 c2 c3 c4 f1 f2 f3 f4 cT1 ew
      generalize (w4.alloc (.cells #[.int .u8 1, .string s, .bool false] 56)).alloc (.cells #[.int .u8 1, .string s, .bool false] 56) = W0 at *
      have hs0 := HS0.out
      generalize w4.heap.size = Bp at *
      refine wpIn_rangeFunc_ownG rfl (by omega) (gf := 97) (lb := #[.pointer (some ⟨Bp + 1, 0, none⟩)]) rfl trivial (enters_of Tryz.func97 (by kernel_rfl) rfl)
        cS KpW.t (KpW.b (by omega) (by omega)) (Below.refl _ _) (fun _ => rfl)
        (WrI w s Bp) (WrX w s) (WrI.own (by omega) (by omega)) (fun c => WrX.own (by omega) c)
        ⟨rfl, HRW.out, HX6.out⟩
        (fun y => { tmps := #[.string s, .pointer (some ⟨w.heap.size, 0, none⟩), .pointer (some ⟨w.heap.size + 1, 0, none⟩), .pointer (some ⟨w.heap.size + 1 + 1, 0, none⟩), .pointer (some ⟨w2.heap.size, 0, none⟩), .bool false, .pointer (some ⟨Bp, 0, none⟩), .string y, .tuple #[.agg #[.int .u8 x.k, .string x.s, .bool x.c], .bool false], .string s, .tuple #[.agg #[.int .u8 x.k, .string x.s, .bool x.c], .bool false], .agg #[.int .u8 x.k, .string x.s, .bool x.c], .bool false, .bool false, undef, .string s, .bool true, .bool false, undef, .string s, .agg #[.int .u8 1, .string s, .bool false], .agg #[.int .u8 1, .string s, .bool false], .func (.func 97) #[] #[.pointer (some ⟨Bp + 1, 0, none⟩)], .string y, undef, undef, undef, undef, undef], defers := [] }) ?assign ?body ?done ?stop
      case assign =>
        intro l x W K hK
        gi_wp2
        exact hK
      case body =>
        rintro lp pre y W' ⟨rfl, hrd, h6⟩ _
        have HRD := Lib.hid hrd
        obtain ⟨c0, c1, c2, c3, c4, f1, f2, f3, f4⟩ := hrd.cells
        obtain ⟨d0, d1, d2⟩ := box_cells h6
        dsimp only [nil] at c1 c2 c3 d0 d1 d2
        clear hrd h6
        by_cases hy : y = s
        · subst hy
          gi_wp2
          exact ⟨(HRD.out.set ⟨1, y, false⟩ true).2.from _, .inl ⟨rfl, rfl, (HRD.out.set ⟨1, y, false⟩ true).1⟩⟩
        · have HY := Lib.hid hy
          have hy2 : ¬ y.toList = s.toList := by intro h; apply hy; apply ByteArray.ext; apply Array.ext'; rw [← ByteArray.toList_eq, ← ByteArray.toList_eq]; exact h
          have hy3 : (y.toList == s.toList) = false := by simpa using hy2
          gi_wp2
          exact ⟨KeepsFrom.refl _ _, .inr ⟨rfl, ⟨y, rfl, HY.out⟩, HRD.out⟩⟩
      case done =>
        rintro D ys Wd hD rfl ⟨hnil, hrd, _⟩ hK
        have HRD := Lib.hid hrd
        have HK := Lib.hid hK
        have HD := Lib.hid (show w.heap.size + 3 ≤ D by omega)
        have HZ := Lib.hid (show rowB s = false by
          cases h : rowB s
          · rfl
          · obtain ⟨ys, he⟩ := HX.out.1 h
            rw [he] at hnil; cases hnil)
        obtain ⟨c0, c1, c2, c3, c4, f1, f2, f3, f4⟩ := hrd.cells
        dsimp only [nil] at c1 c2 c3
        clear hrd hK hnil hD
        gi_wp2
        exact (HRD.out.set nil false).1.leaves HD.out ((HRD.out.set nil false).2.same _ _ HK.out rfl) (by unfold WrdEnd; rw [HP.out, HZ.out]; rfl) rfl rfl
      case stop =>
        rintro D c pre Wd hD ⟨zs, hpre⟩ hrx hK
        have HK := Lib.hid hK
        have HD := Lib.hid (show w.heap.size + 3 ≤ D by omega)
        rcases hrx with ⟨rfl, rfl, hrd⟩ | ⟨rfl, ⟨y, rfl, hy⟩, hrd⟩
        · have HRD := Lib.hid hrd
          have HZ := Lib.hid (show rowB s = true from HX.out.2 ⟨zs, hpre.symm⟩)
          clear hrd hpre hK hD
          gi_wp2
          exact HRD.out.leaves HD.out HK.out (by unfold WrdEnd; rw [HP.out, HZ.out]; rfl) rfl rfl
        · have HRD := Lib.hid hrd
          have HZ := Lib.hid (show rowB s = false by
            cases h : rowB s
            · rfl
            · obtain ⟨ys, he⟩ := HX.out.1 h
              rw [he] at hpre
              exact absurd (List.cons.inj hpre).1 hy)
          obtain ⟨c0, c1, c2, c3, c4, f1, f2, f3, f4⟩ := hrd.cells
          dsimp only [nil] at c1 c2 c3
          clear hrd hpre hK hy hD
          gi_wp2
          exact (HRD.out.set nil false).1.leaves HD.out ((HRD.out.set nil false).2.same _ _ HK.out rfl) (by unfold WrdEnd; rw [HP.out, HZ.out]; rfl) rfl rfl
  · exact ⟨_, (HRX.out.set x true).1.results rfl rfl, by unfold WrdEnd; rw [HW.out]; rfl, (HRX.out.set x true).1.2.2.2⟩
end Go.Proofs.YtnbeomclmggbiaaGreatDoor
