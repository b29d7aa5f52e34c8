/- Models: Score, by the program and by the specification. -/
import Derived.Test.YtgcglaagjplbfaaDm10
namespace Go.Proofs.Ytgcglaagjplbfaa
open Go Go.RowKit Go.Lib
set_option maxRecDepth 100000
set_option maxHeartbeats 4000000 in
theorem Score_any (M : Mdl) (v : Value) (l : List ByteArray) (w : World) (hM : MdlAt w M) (hv : WdsAt w v l) :
    Calls Try.prog 8 #[mdlV M, v] w fun e w' => e = .returned (twoV (scoreE M l)) ∧ Below w.heap.size w w' := by
  have HM := Lib.hid hM
  have HV := Lib.hid hv
  have HMX := Lib.hid (hM.step (below_box (w := w) (mdlC M)))
  have HX := Lib.hid (MB.new w M.unk M.uv M.bv)
  have cC := fun w h => check_any M w h
  have cO := fun w h h1 h2 => stepsOf_any M w h h1 h2
  have cN := fun w h => contains_noWord l v w h
  have cT := fun b1 b2 w h h2 => score_any M b1 b2 v l w h h2
  have HE := Lib.hid (show scoreE M l = if checkM M ≠ 0 then (0, checkM M) else if 4096 < l.length then (0, 3) else if l.any noW = true then (0, 1) else (scoreN M l, 0) from rfl)
  have HZ := Lib.hid (fun h => check_zero (M := M) h)
  have agM := Try.isAgg25
  have zgM := Try.sizeOf25
  unfold mdlC at HMX
  unfold mdlV at *
  unfold stV at cT
  obtain ⟨⟨q, cap, rfl, hl, hcap, _⟩, _⟩ := hv
  unfold maxLen at hcap
  clear hM
  generalize scoreN M l = D at cT HE
  generalize l.any noW = N at cN HE
  generalize checkM M = C at cC HE HZ
  by_cases hc : C = 0
  · subst hc
    obtain ⟨hz1, hz2, _⟩ := HZ.out rfl
    by_cases h4 : 4096 < l.length
    · have hI : (4096 : Int) < (l.length : Int) := by omega
      have HE2 := Lib.hid (show scoreE M l = (0, 3) by rw [HE.out, if_neg (by simp), if_pos h4])
      go_enter Try.func8, Try.ntmps8
      go_wp2_with (go_at_call 10; (refine (cC _ HMX.out).mono ?_); rintro e w1 ⟨rfl, hb1⟩; obtain ⟨m0, m1, m2, m3⟩ := HX.out.step hb1)
      go_ret2
      exact ⟨ret_two HE2.out, below_next (below_box _) hb1⟩
    · have hI : ¬ (4096 : Int) < (l.length : Int) := by omega
      cases N
      · have HE2 := Lib.hid (show scoreE M l = (D, 0) by rw [HE.out, if_neg (by simp), if_neg h4]; rfl)
        go_enter Try.func8, Try.ntmps8
        go_wp2_with (first
          | (go_at_call 10; (refine (cC _ HMX.out).mono ?_); rintro e w1 ⟨rfl, hb1⟩; have HM1 := Lib.hid (HMX.out.step hb1); have HX1 := Lib.hid (HX.out.step hb1); have HB1 := Lib.hid (below_next (below_box _) hb1); obtain ⟨m0, m1, m2, m3⟩ := HX1.out; clear hb1)
          | (go_at_call 18; (refine (cN _ (HV.out.step HB1.out)).mono ?_); rintro e w2 ⟨rfl, hb2⟩; have HM2 := Lib.hid (HM1.out.step hb2); have HX2 := Lib.hid (HX1.out.step hb2); have HB2 := Lib.hid (below_next HB1.out hb2); clear m0 m1 m2 m3 hb2; obtain ⟨m0, m1, m2, m3⟩ := HX2.out)
          | (go_at_call 14; (refine (cO _ HM2.out hz1 hz2).mono ?_); rintro e w3 ⟨b1, b2, rfl, hs3, hb3⟩; have HS3 := Lib.hid hs3; have HB3 := Lib.hid (below_next HB2.out hb3); clear hs3 hb3)
          | (go_at_call 21; (refine (cT _ _ _ HS3.out (HV.out.step HB3.out)).mono ?_); rintro e w4 ⟨rfl, hb4⟩; have HB4 := Lib.hid (below_next HB3.out hb4); clear hb4))
        go_ret2
        exact ⟨ret_two HE2.out, HB4.out⟩
      · have HE2 := Lib.hid (show scoreE M l = (0, 1) by rw [HE.out, if_neg (by simp), if_neg h4]; rfl)
        go_enter Try.func8, Try.ntmps8
        go_wp2_with (first
          | (go_at_call 10; (refine (cC _ HMX.out).mono ?_); rintro e w1 ⟨rfl, hb1⟩; have HM1 := Lib.hid (HMX.out.step hb1); have HX1 := Lib.hid (HX.out.step hb1); have HB1 := Lib.hid (below_next (below_box _) hb1); obtain ⟨m0, m1, m2, m3⟩ := HX1.out; clear hb1)
          | (go_at_call 18; (refine (cN _ (HV.out.step HB1.out)).mono ?_); rintro e w2 ⟨rfl, hb2⟩; have HB2 := Lib.hid (below_next HB1.out hb2); clear hb2))
        go_ret2
        exact ⟨ret_two HE2.out, HB2.out⟩
  · have hcb : (C == 0) = false := by simpa using hc
    have HE2 := Lib.hid (show scoreE M l = (0, C) by rw [HE.out, if_pos hc])
    go_enter Try.func8, Try.ntmps8
    go_wp2_with (go_at_call 10; (refine (cC _ HMX.out).mono ?_); rintro e w1 ⟨rfl, hb1⟩; obtain ⟨m0, m1, m2, m3⟩ := HX.out.step hb1)
    go_ret2
    exact ⟨ret_two HE2.out, below_next (below_box _) hb1⟩
set_option maxHeartbeats 4000000 in
theorem refScore2_any (M : Mdl) (v : Value) (l : List ByteArray) (w : World) (hM : MdlAt w M) (hv : WdsAt w v l) :
    Calls Try.prog 9 #[mdlV M, v] w fun e w' => e = .returned (twoV (scoreE M l)) ∧ Below w.heap.size w w' := by
  have HM := Lib.hid hM
  have HV := Lib.hid hv
  have HMX := Lib.hid (hM.step (below_box (w := w) (mdlC M)))
  have HX := Lib.hid (MB.new w M.unk M.uv M.bv)
  have cC := fun w h => refCheck_any M w h
  have cT := fun h0 w h h2 => refScore_any M v l w h h0 h2
  have HE := Lib.hid (show scoreE M l = if checkM M ≠ 0 then (0, checkM M) else if 4096 < l.length then (0, 3) else if l.any noW = true then (0, 1) else (scoreN M l, 0) from rfl)
  have agM := Try.isAgg25
  have zgM := Try.sizeOf25
  unfold mdlC at HMX
  unfold mdlV at *
  obtain ⟨⟨q, cap, rfl, hl, hcap, hrow⟩, hz⟩ := hv
  unfold maxLen at hcap
  have HR := Lib.hid hrow
  have HSZ := Lib.hid hz
  clear hM hrow hz
  generalize scoreN M l = D at cT HE
  generalize checkM M = C at cC cT HE
  by_cases hc : C = 0
  · subst hc
    replace cT := cT rfl
    by_cases h4 : 4096 < l.length
    · have hI : (4096 : Int) < (l.length : Int) := by omega
      have HE2 := Lib.hid (show scoreE M l = (0, 3) by rw [HE.out, if_neg (by simp), if_pos h4])
      go_enter Try.func9, Try.ntmps9
      go_wp2_with (go_at_call 11; (refine (cC _ HMX.out).mono ?_); rintro e w1 ⟨rfl, hb1⟩; obtain ⟨m0, m1, m2, m3⟩ := HX.out.step hb1)
      go_ret2
      exact ⟨ret_two HE2.out, below_next (below_box _) hb1⟩
    · have hI : ¬ (4096 : Int) < (l.length : Int) := by omega
      have HE2 := Lib.hid (show scoreE M l = if l.any noW = true then (0, 1) else (D, 0) by rw [HE.out, if_neg (by simp), if_neg h4])
      go_enter Try.func9, Try.ntmps9
      go_wp2_with (go_at_call 11; (refine (cC _ HMX.out).mono ?_); rintro e w1 ⟨rfl, hb1⟩; have HM1 := Lib.hid (HMX.out.step hb1); have HX1 := Lib.hid (HX.out.step hb1); have HB1 := Lib.hid (below_next (below_box _) hb1); clear hb1)
      go_loopw [7] (fun i wr => ∃ k : Nat, k ≤ l.length ∧ i = .int .i64 k ∧ Hid (noneS noW l k) ∧ Hid (MdlAt wr M) ∧ Hid (MB w.heap.size M.unk M.uv M.bv wr) ∧ Hid (Below w.heap.size w wr)) (fun i _ => l.length - (RowKit.intOf i).toNat)
      case atStart => exact ⟨0, Nat.zero_le _, rfl, (fun i h => by omega), HM1.out, HX1.out, HB1.out⟩
      case round =>
        obtain ⟨k, hk, rfl, HN, HM2, HX2, HB⟩ := hrel
        obtain ⟨m0, m1, m2, m3⟩ := HX2.out
        by_cases hlt : k < l.length
        · obtain ⟨A, rfl, hA, hcell⟩ := HR.out (by omega)
          have x0 : wr.cell? (A.add k) = some (.string (l.getD k ⟨#[]⟩)) := by
            have := hcell k 0 hlt (by omega)
            rw [Nat.mul_one, Nat.add_zero] at this
            rw [HB.out.cell (by rw [add_block]; exact hA)]; exact this
          have cW := fun w => refWord_any _ w (HSZ.out _ (wd_mem hlt))
          have HA := Lib.hid (fun h => anyS_of (p := noW) (l := l) (k := k) hlt h)
          have HS := Lib.hid (fun h => HN.out.succ (k := k) h)
          clear hcell
          generalize l.getD k ⟨#[]⟩ = x at x0 cW HA HS
          rw [show noW x = !wordB x from rfl] at HA HS
          generalize wordB x = B at cW HA HS
          cases B
          · have HA2 := Lib.hid (HA.out (by simp))
            go_wp2_with (go_at_call 22; (with_reducible refine (cW _).mono ?_); rintro e w' ⟨rfl, rfl⟩)
            go_ret2
            exact ⟨ret_two (by rw [HE2.out, if_pos HA2.out]), HB.out⟩
          · go_wp2_with (go_at_call 22; (with_reducible refine (cW _).mono ?_); rintro e w' ⟨rfl, rfl⟩)
            go_roundw
            case rel => exact ⟨k + 1, by omega, by go_num, HS.out (by simp), HM2.out, HX2.out, HB.out⟩
            case measure => simp [RowKit.intOf]; omega
        · obtain rfl : k = l.length := by omega
          have HA2 := Lib.hid (noneS.all HN.out)
          go_wp2_with (go_at_call 23; (refine (cT _ HM2.out (HV.out.step HB.out)).mono ?_); rintro e w4 ⟨rfl, hb4⟩)
          go_ret2
          exact ⟨ret_two (by rw [HE2.out, if_neg (by rw [HA2.out]; simp)]), below_next HB.out hb4⟩
  · have hcb : (C == 0) = false := by simpa using hc
    have HE2 := Lib.hid (show scoreE M l = (0, C) by rw [HE.out, if_pos hc])
    go_enter Try.func9, Try.ntmps9
    go_wp2_with (go_at_call 11; (refine (cC _ HMX.out).mono ?_); rintro e w1 ⟨rfl, hb1⟩; obtain ⟨m0, m1, m2, m3⟩ := HX.out.step hb1)
    go_ret2
    exact ⟨ret_two HE2.out, below_next (below_box _) hb1⟩
end Go.Proofs.Ytgcglaagjplbfaa
