/- Models: the cost of a step, and the score of words, by the specification. -/
import Derived.Test.YtgcglaagjplbfaaDm7
namespace Go.Proofs.Ytgcglaagjplbfaa
open Go Go.RowKit Go.Lib
set_option maxRecDepth 100000
def isP (a b : ByteArray) (x : Br) : Bool := eqB x.x a && eqB x.y b
def firstB (l : List Br) (a b : ByteArray) : Option Br := l.find? (isP a b)
theorem find_hit {p : Br → Bool} : ∀ {l : List Br} {k : Nat}, (∀ i, i < k → p (l.getD i brNil) = false) → k < l.length → p (l.getD k brNil) = true → l.find? p = some (l.getD k brNil)
  | [], _, _, hk, _ => by simp at hk
  | y :: l, 0, _, _, h => by
    simp at h
    simp [h]
  | y :: l, k + 1, h0, hk, h => by
    have hy : p y = false := by simpa using h0 0 (by omega)
    have ih := find_hit (p := p) (l := l) (k := k) (fun i hi => by simpa using h0 (i + 1) (by omega)) (by simpa using hk) (by simpa using h)
    rw [List.find?_cons, hy]
    simpa using ih
theorem find_none {p : Br → Bool} : ∀ {l : List Br}, (∀ i, i < l.length → p (l.getD i brNil) = false) → l.find? p = none
  | [], _ => rfl
  | y :: l, h => by
    have hy : p y = false := by simpa using h 0 (by simp)
    rw [List.find?_cons, hy]
    simpa using find_none (l := l) fun i hi => by simpa using h (i + 1) (by simpa using hi)
theorem lastU_succ {l : List Un} {k : Nat} (h : k < l.length) (s : ByteArray) : lastU (l.take (k + 1)) s = if eqB (l.getD k unNil).w s = true then some (l.getD k unNil) else lastU (l.take k) s := by
  unfold lastU
  rw [takeU_succ h, List.foldl_append]
  rfl
def bkN (r : Option Un) : Int := match r with | some x => x.b | none => 0
def onN (u : Int) (r : Option Un) : Int := match r with | some x => x.c | none => u
def refStepN (M : Mdl) (a b : ByteArray) : Int := match firstB M.bs a b with
  | some x => x.c
  | none => wrap64 (bkN (lastU M.us a) + onN M.unk (lastU M.us b))
set_option maxHeartbeats 4000000 in
theorem refStep_any (M : Mdl) (a b : ByteArray) (w : World) (hM : MdlAt w M) : Calls Try.prog 17 #[mdlV M, .string a, .string b] w fun e w' => e = .returned (.int .i64 (refStepN M a b)) ∧ Below w.heap.size w w' := by
  have HRN := Lib.hid (show refStepN M a b = match firstB M.bs a b with | some x => x.c | none => wrap64 (bkN (lastU M.us a) + onN M.unk (lastU M.us b)) from rfl)
  generalize refStepN M a b = RES at HRN
  obtain ⟨unk, us, bs, uv, bv⟩ := M
  obtain ⟨⟨pu, cu, hu, hul, huc, hur⟩, ⟨pb, cb, hb, hbl, hbc, hbr⟩, huz, hbz⟩ := hM
  simp only at hu hul hur hb hbl hbr huz hbz HRN
  subst hu hb
  unfold mdlV maxLen at *
  simp only
  have agM := Try.isAgg25
  have zgM := Try.sizeOf25
  have agU := Try.isAgg45
  have zgU := Try.sizeOf45
  have agB := Try.isAgg47
  have zgB := Try.sizeOf47
  have HUR := Lib.hid hur
  have HBR := Lib.hid hbr
  clear hur hbr huz hbz
  go_enter Try.func17, Try.ntmps17
  go_wp2
  go_loopw [7] (fun i wr => ∃ k : Nat, k ≤ bs.length ∧ i = .int .i64 k ∧ Hid (∀ i, i < k → isP a b (bs.getD i brNil) = false) ∧ Hid (MB w.heap.size unk (.slice pu us.length cu) (.slice pb bs.length cb) wr) ∧ Hid (Below w.heap.size w wr)) (fun i _ => bs.length - (RowKit.intOf i).toNat)
  case atStart => exact ⟨0, Nat.zero_le _, rfl, (fun i hi => absurd hi (Nat.not_lt_zero _)), MB.new _ _ _ _, below_box _⟩
  case round =>
    obtain ⟨k, hk, rfl, HQ, HX, HB⟩ := hrel
    obtain ⟨m0, m1, m2, hsz⟩ := HX.out
    by_cases hlt : k < bs.length
    · obtain ⟨A, rfl, hA, hcell⟩ := HBR.out (by omega)
      have hAb : (A.add (k * 3)).block < w.heap.size := by rw [add_block]; exact hA
      have x0 : wr.cell? (A.add (k * 3)) = some (.string (bs.getD k brNil).x) := by
        rw [HB.out.cell hAb]; have := hcell k 0 hlt (by omega); simpa [brF] using this
      have x1 : wr.cell? { block := (A.add (k * 3)).block, off := (A.add (k * 3)).off + 1 } = some (.string (bs.getD k brNil).y) := by
        rw [HB.out.cell (p := { block := (A.add (k * 3)).block, off := (A.add (k * 3)).off + 1 }) hAb]; have := cell_off (by omega) (hcell k 1 hlt (by omega)); simpa [brF] using this
      have x2 : wr.cell? { block := (A.add (k * 3)).block, off := (A.add (k * 3)).off + 2 } = some (.int .i64 (bs.getD k brNil).c) := by
        rw [HB.out.cell (p := { block := (A.add (k * 3)).block, off := (A.add (k * 3)).off + 2 }) hAb]; have := cell_off (by omega) (hcell k 2 hlt (by omega)); simpa [brF] using this
      have HIT := Lib.hid (fun h => find_hit (p := isP a b) HQ.out hlt h)
      have HNO := Lib.hid (show isP a b (bs.getD k brNil) = false → ∀ i, i < k + 1 → isP a b (bs.getD i brNil) = false from fun h i hi => by
        by_cases e : i = k
        · subst e; exact h
        · exact HQ.out i (by omega))
      have HF := Lib.hid (show firstB bs a b = bs.find? (isP a b) from rfl)
      clear hcell
      generalize bs.getD k brNil = x at x0 x1 x2 HIT HNO
      obtain ⟨xx, xy, xc⟩ := x
      simp only at x0 x1 x2
      have hip : isP a b ⟨xx, xy, xc⟩ = ((xx.toList == a.toList) && (xy.toList == b.toList)) := rfl
      rw [hip] at HIT HNO
      clear hip
      cases he : (xx.toList == a.toList)
      · have HNN := Lib.hid (HNO.out (by rw [he]; rfl))
        go_wp2
        go_roundw
        case rel => exact ⟨k + 1, by omega, by go_num, HNN.out, HX.out, HB.out⟩
        case measure => simp [RowKit.intOf]; omega
      · cases ge : (xy.toList == b.toList)
        · have HNN := Lib.hid (HNO.out (by rw [he, ge]; rfl))
          go_wp2
          go_roundw
          case rel => exact ⟨k + 1, by omega, by go_num, HNN.out, HX.out, HB.out⟩
          case measure => simp [RowKit.intOf]; omega
        · have HE := Lib.hid (HF.out.trans (HIT.out (by rw [he, ge]; rfl)))
          rw [HE.out] at HRN
          go_wp2
          go_ret
          exact ⟨ret_int HRN.out.symm, HB.out⟩
    · obtain rfl : k = bs.length := by omega
      have HNF := Lib.hid (show firstB bs a b = none from find_none HQ.out)
      rw [HNF.out] at HRN
      go_wp2
      go_quiet (fail)
      go_wp2
      go_loopw [8, 9, 10] (fun x y i wr => ∃ k : Nat, k ≤ us.length ∧ i = .int .i64 k ∧ x = .int .i64 (bkN (lastU (us.take k) a)) ∧ y = .int .i64 (onN unk (lastU (us.take k) b)) ∧ Hid (MB w.heap.size unk (.slice pu us.length cu) (.slice pb bs.length cb) wr) ∧ Hid (Below w.heap.size w wr)) (fun _ _ i _ => us.length - (RowKit.intOf i).toNat)
      case atStart => exact ⟨0, Nat.zero_le _, rfl, rfl, rfl, HX.out.step (bdN _ _), below_next HB.out (bdN _ _)⟩
      case round =>
        clear m0 m1 m2 hsz HX HB
        obtain ⟨k, hk, rfl, rfl, rfl, HX, HB⟩ := hrel
        obtain ⟨m0, m1, m2, hsz⟩ := HX.out
        by_cases hlt : k < us.length
        · obtain ⟨A, rfl, hA, hcell⟩ := HUR.out (by omega)
          have hAb : (A.add (k * 3)).block < w.heap.size := by rw [add_block]; exact hA
          have x0 : wr.cell? (A.add (k * 3)) = some (.string (us.getD k unNil).w) := by
            rw [HB.out.cell hAb]; have := hcell k 0 hlt (by omega); simpa [unF] using this
          have x1 : wr.cell? { block := (A.add (k * 3)).block, off := (A.add (k * 3)).off + 1 } = some (.int .i64 (us.getD k unNil).c) := by
            rw [HB.out.cell (p := { block := (A.add (k * 3)).block, off := (A.add (k * 3)).off + 1 }) hAb]; have := cell_off (by omega) (hcell k 1 hlt (by omega)); simpa [unF] using this
          have x2 : wr.cell? { block := (A.add (k * 3)).block, off := (A.add (k * 3)).off + 2 } = some (.int .i64 (us.getD k unNil).b) := by
            rw [HB.out.cell (p := { block := (A.add (k * 3)).block, off := (A.add (k * 3)).off + 2 }) hAb]; have := cell_off (by omega) (hcell k 2 hlt (by omega)); simpa [unF] using this
          have HLA := Lib.hid (lastU_succ hlt a)
          have HLB := Lib.hid (lastU_succ hlt b)
          clear hcell
          generalize us.getD k unNil = x at x0 x1 x2 HLA HLB
          obtain ⟨xw, xc, xb⟩ := x
          simp only at x0 x1 x2
          rw [show eqB (Un.mk xw xc xb).w a = (xw.toList == a.toList) from rfl] at HLA
          rw [show eqB (Un.mk xw xc xb).w b = (xw.toList == b.toList) from rfl] at HLB
          generalize lastU (us.take k) a = ra at HLA ⊢
          generalize lastU (us.take k) b = rb at HLB ⊢
          cases he : (xw.toList == a.toList) <;> cases ge : (xw.toList == b.toList)
          all_goals
            rw [he] at HLA
            rw [ge] at HLB
            go_wp2
            go_roundw
            case rel => exact ⟨k + 1, by omega, by go_num, by rw [HLA.out]; rfl, by rw [HLB.out]; rfl, HX.out, HB.out⟩
            case measure => simp [RowKit.intOf]; omega
        · obtain rfl : k = us.length := by omega
          have hta : us.take us.length = us := List.take_length
          rw [hta]
          clear hta
          generalize bkN (lastU us a) = Q1 at HRN ⊢
          generalize onN unk (lastU us b) = Q2 at HRN ⊢
          go_wp2
          go_ret
          exact ⟨ret_int HRN.out.symm, HB.out⟩
end Go.Proofs.Ytgcglaagjplbfaa
