/- Models: which are valid, by the specification. -/
import Derived.Test.YtgcglaagjplbfaaDm3
namespace Go.Proofs.Ytgcglaagjplbfaa
open Go Go.RowKit Go.Lib
set_option maxRecDepth 100000
set_option maxHeartbeats 8000000 in
theorem refCheck_any (M : Mdl) (w : World) (hM : MdlAt w M) : Calls Try.prog 11 #[mdlV M] w fun e w' => e = .returned (.int .u8 (checkM M)) ∧ Below w.heap.size w w' := by
  obtain ⟨unk, us, bs, uv, bv⟩ := M
  obtain ⟨⟨pu, cu, hu, hul, huc, hur⟩, ⟨pb, cb, hb, hbl, hbc, hbr⟩, huz, hbz⟩ := hM
  simp only at hu hul hur hb hbl hbr huz hbz
  subst hu hb
  unfold mdlV maxLen at *
  simp only
  have agM := Try.isAgg25
  have zgM := Try.sizeOf25
  have agU := Try.isAgg45
  have zgU := Try.sizeOf45
  have agB := Try.isAgg47
  have zgB := Try.sizeOf47
  have HUR := Lib.hid hur
  have HBR := Lib.hid hbr
  have HUZ := Lib.hid huz
  have HBZ := Lib.hid hbz
  clear hur hbr huz hbz
  cases hc : costB unk
  · have cK : ∀ w, Calls Try.prog 27 #[.int .i64 unk] w fun e w' => e = .returned (.bool false) ∧ w' = w := fun w => by rw [← hc]; exact refCost_any unk w
    have HE := Lib.hid (check_unk (M := ⟨unk, us, bs, .slice pu us.length cu, .slice pb bs.length cb⟩) hc)
    go_enter Try.func11, Try.ntmps11
    go_wp2_with (go_at_call 27; (with_reducible refine (cK _).mono ?_); rintro e w' ⟨rfl, rfl⟩)
    go_ret
    exact ⟨ret_u8 HE.out.symm, below_box _⟩
  have cK : ∀ w, Calls Try.prog 27 #[.int .i64 unk] w fun e w' => e = .returned (.bool true) ∧ w' = w := fun w => by rw [← hc]; exact refCost_any unk w
  by_cases h1 : 512 < us.length
  · have HE := Lib.hid (check_limit (M := ⟨unk, us, bs, .slice pu us.length cu, .slice pb bs.length cb⟩) hc (.inl h1))
    have hI : (512 : Int) < (us.length : Int) := by omega
    go_enter Try.func11, Try.ntmps11
    go_wp2_with (go_at_call 27; (with_reducible refine (cK _).mono ?_); rintro e w' ⟨rfl, rfl⟩)
    go_ret
    exact ⟨ret_u8 HE.out.symm, below_box _⟩
  have hI1 : ¬ (512 : Int) < (us.length : Int) := by omega
  by_cases h2 : 2048 < bs.length
  · have HE := Lib.hid (check_limit (M := ⟨unk, us, bs, .slice pu us.length cu, .slice pb bs.length cb⟩) hc (.inr h2))
    have hI : (2048 : Int) < (bs.length : Int) := by omega
    go_enter Try.func11, Try.ntmps11
    go_wp2_with (go_at_call 27; (with_reducible refine (cK _).mono ?_); rintro e w' ⟨rfl, rfl⟩)
    go_ret
    exact ⟨ret_u8 HE.out.symm, below_box _⟩
  have hI2 : ¬ (2048 : Int) < (bs.length : Int) := by omega
  have HEU := Lib.hid (fun e h3 he => check_us (M := ⟨unk, us, bs, .slice pu us.length cu, .slice pb bs.length cb⟩) hc (by simp only; omega) (e := e) h3 he)
  have HEB := Lib.hid (fun h3 e h4 => check_bs (M := ⟨unk, us, bs, .slice pu us.length cu, .slice pb bs.length cb⟩) hc (by simp only; omega) h3 (e := e) h4)
  go_enter Try.func11, Try.ntmps11
  go_wp2_with (go_at_call 27; (with_reducible refine (cK _).mono ?_); rintro e w' ⟨rfl, rfl⟩)
  go_loopw [3] (fun i wr => ∃ k : Nat, k ≤ us.length ∧ i = .int .i64 k ∧ Hid (firstE (hereU us) k = 0) ∧ Hid (MB w.heap.size unk (.slice pu us.length cu) (.slice pb bs.length cb) wr) ∧ Hid (Below w.heap.size w wr)) (fun i _ => us.length - (RowKit.intOf i).toNat)
  case atStart => exact ⟨0, Nat.zero_le _, rfl, rfl, MB.new _ _ _ _, below_box _⟩
  case round =>
    obtain ⟨k, hk, rfl, HQ, HX, HB⟩ := hrel
    obtain ⟨m0, m1, m2, hsz⟩ := HX.out
    by_cases hlt : k < us.length
    · obtain ⟨A, rfl, hA, hcell⟩ := HUR.out (by omega)
      have hAb : (A.add (k * 3)).block < w.heap.size := by rw [add_block]; exact hA
      have x0 : wr.cell? (A.add (k * 3)) = some (.string (us.getD k unNil).w) := by
        rw [HB.out.cell hAb]; have := hcell k 0 hlt (by omega); simpa [unF] using this
      have x1 : wr.cell? { block := (A.add (k * 3)).block, off := (A.add (k * 3)).off + 1 } = some (.int .i64 (us.getD k unNil).c) := by
        rw [HB.out.cell (p := { block := (A.add (k * 3)).block, off := (A.add (k * 3)).off + 1 }) hAb]; have := cell_off (by omega) (hcell k 1 hlt (by omega)); simpa [unF] using this
      have x2 : wr.cell? { block := (A.add (k * 3)).block, off := (A.add (k * 3)).off + 2 } = some (.int .i64 (us.getD k unNil).b) := by
        rw [HB.out.cell (p := { block := (A.add (k * 3)).block, off := (A.add (k * 3)).off + 2 }) hAb]; have := cell_off (by omega) (hcell k 2 hlt (by omega)); simpa [unF] using this
      have hwz := HUZ.out _ (un_mem hlt)
      have HBD := Lib.hid (un_bad HQ.out hlt)
      have HNB := Lib.hid (un_nb HQ.out hlt)
      have HF := Lib.hid (fun h => un_first (l := us) (k := k) HQ.out h)
      have HN := Lib.hid (fun h => un_next (l := us) (k := k) HQ.out h)
      have hcellp := fun (_ : 0 < k) => hcell (k - 1)
      clear hcell
      generalize us.getD k unNil = x at x0 x1 x2 hwz HBD HNB HF HN
      obtain ⟨xw, xc, xb⟩ := x
      simp only at x0 x1 x2 hwz
      have cP := fun w => refPlace_any xw w hwz
      have cC := fun w => refCost_any xc w
      have cB := fun w => refCost_any xb w
      have hub : unB ⟨xw, xc, xb⟩ = (placeB xw && costB xc && costB xb) := rfl
      rw [hub] at HBD HNB HF HN
      clear hub
      generalize placeB xw = P at cP HBD HNB HF HN
      generalize costB xc = C1 at cC HBD HNB HF HN
      generalize costB xb = C2 at cB HBD HNB HF HN
      have HBX := Lib.hid (below_next HB.out (below_box (w := wr) (.cells #[.string xw, .int .i64 xc, .int .i64 xb] 45)))
      have HMX := Lib.hid (HX.out.step (below_box (w := wr) (.cells #[.string xw, .int .i64 xc, .int .i64 xb] 45)))
      rcases (show P = false ∨ (P = true ∧ C1 = false) ∨ (P = true ∧ C1 = true ∧ C2 = false) ∨ (P = true ∧ C1 = true ∧ C2 = true) by cases P <;> cases C1 <;> cases C2 <;> simp) with rfl | ⟨rfl, rfl⟩ | ⟨rfl, rfl, rfl⟩ | ⟨rfl, rfl, rfl⟩
      iterate 3
        · have HE := Lib.hid (HEU.out _ (HBD.out (by simp)) (by decide))
          clear hcellp
          go_wp2_with (first
            | (go_at_call 16; (with_reducible refine (cP _).mono ?_); rintro e w' ⟨rfl, rfl⟩)
            | (go_at_call 27; (with_reducible refine (cC _).mono ?_); rintro e w' ⟨rfl, rfl⟩)
            | (go_at_call 27; (with_reducible refine (cB _).mono ?_); rintro e w' ⟨rfl, rfl⟩))
          go_ret
          exact ⟨ret_u8 HE.out.symm, HBX.out⟩
      · by_cases hk0 : k = 0
        · have HF0 := Lib.hid (HF.out rfl hk0)
          have hkd : decide (0 < k) = false := by simp; omega
          clear hk0 hcellp
          go_wp2_with (first
            | (go_at_call 16; (with_reducible refine (cP _).mono ?_); rintro e w' ⟨rfl, rfl⟩)
            | (go_at_call 27; (with_reducible refine (cC _).mono ?_); rintro e w' ⟨rfl, rfl⟩)
            | (go_at_call 27; (with_reducible refine (cB _).mono ?_); rintro e w' ⟨rfl, rfl⟩))
          go_quiet (fail)
          go_wp2
          go_quiet (fail)
          go_wp2
          go_roundw
          case rel => exact ⟨k + 1, by omega, by go_num, HF0.out, by first | exact HMX.out.step (bdN _ _) | exact (HMX.out.step (bdN _ _)).step (bdN _ _), by first | exact below_next HBX.out (bdN _ _) | exact below_next (below_next HBX.out (bdN _ _)) (bdN _ _)⟩
          case measure => simp [RowKit.intOf]; omega
        · have hkd : decide (0 < k) = true := by simp; omega
          have hwr : IntKind.i64.wrap ((k : Int) - 1) = ((k - 1 : Nat) : Int) := by rw [IntKind.wrap_i64]; omega
          have hix1 : ((k - 1 : Nat) : Int) < (us.length : Int) := by omega
          have hix2 : (0 : Int) ≤ ((k - 1 : Nat) : Int) := by omega
          have hix3 : k - 1 < us.length := by omega
          have hk1 : 0 < k := by omega
          have hAb1 : (A.add ((k - 1) * 3)).block < w.heap.size := by rw [add_block]; exact hA
          have HC0 := Lib.hid (show w.cell? (A.add ((k - 1) * 3 + 0)) = some (.string (us.getD (k - 1) unNil).w) from hcellp hk1 0 hix3 (by omega))
          have HN0 := Lib.hid (HN.out rfl)
          have HNB0 := Lib.hid (HNB.out rfl hk0)
          clear hcellp
          generalize us.getD (k - 1) unNil = a at HC0 HN0 HNB0
          obtain ⟨aw, ac, ab⟩ := a
          simp only at HC0
          have hnb : nbU ⟨aw, ac, ab⟩ ⟨xw, xc, xb⟩ = if eqB aw xw = true then 6 else if ltB aw xw = true then 0 else 1 := rfl
          rw [hnb] at HN0 HNB0
          clear hnb
          go_wp2_with (first
            | (go_at_call 16; (with_reducible refine (cP _).mono ?_); rintro e w' ⟨rfl, rfl⟩)
            | (go_at_call 27; (with_reducible refine (cC _).mono ?_); rintro e w' ⟨rfl, rfl⟩)
            | (go_at_call 27; (with_reducible refine (cB _).mono ?_); rintro e w' ⟨rfl, rfl⟩))
          have z0 : (wr.alloc (.cells #[.string xw, .int .i64 xc, .int .i64 xb] 45)).cell? (A.add ((k - 1) * 3)) = some (.string aw) := by
            rw [HBX.out.cell hAb1]; simpa using HC0.out
          have y0 : (wr.alloc (.cells #[.string xw, .int .i64 xc, .int .i64 xb] 45)).cell? ⟨wr.heap.size, 0, none⟩ = some (.string xw) := by simp
          clear x0 x1 x2 m0 m1 m2
          obtain ⟨m0, m1, m2, m3⟩ := HMX.out
          generalize wr.alloc (.cells #[.string xw, .int .i64 xc, .int .i64 xb] 45) = wx at z0 y0 HBX HMX m0 m1 m2 m3 ⊢
          cases he : (aw.toList == xw.toList)
          · have hf : Op.bytesLess xw.toList aw.toList = !Op.bytesLess aw.toList xw.toList := by rw [lt_flip he, Bool.not_not]
            cases hl : Op.bytesLess aw.toList xw.toList
            · rw [hl] at hf
              have HE := Lib.hid (HEU.out _ (HNB0.out (by unfold eqB ltB; rw [he, hl]; simp)) (by unfold eqB ltB; rw [he, hl]; simp))
              have hev : (if eqB aw xw = true then (6 : Int) else if ltB aw xw = true then 0 else 1) = 1 := by unfold eqB ltB; rw [he, hl]; rfl
              rw [hev] at HE
              clear hev
              go_quiet (fail)
              go_wp2
              go_quiet (fail)
              go_wp2
              go_ret
              exact ⟨ret_u8 (by rw [HE.out]), by first | exact below_next HBX.out (bdN _ _) | exact below_next (below_next HBX.out (bdN _ _)) (bdN _ _)⟩
            · rw [hl] at hf
              have HE := Lib.hid (HN0.out (by unfold eqB ltB; rw [he, hl]; rfl))
              go_quiet (fail)
              go_wp2
              go_quiet (fail)
              go_wp2
              go_roundw
              case rel => exact ⟨k + 1, by omega, by go_num, HE.out, by first | exact HMX.out.step (bdN _ _) | exact (HMX.out.step (bdN _ _)).step (bdN _ _), by first | exact below_next HBX.out (bdN _ _) | exact below_next (below_next HBX.out (bdN _ _)) (bdN _ _)⟩
              case measure => simp [RowKit.intOf]; omega
          · have hl : Op.bytesLess aw.toList xw.toList = false := by rw [eq_of_beq he]; exact lt_self _
            have HE := Lib.hid (HEU.out _ (HNB0.out (by unfold eqB ltB; rw [he]; simp)) (by unfold eqB ltB; rw [he]; simp))
            have hev : (if eqB aw xw = true then (6 : Int) else if ltB aw xw = true then 0 else 1) = 6 := by unfold eqB ltB; rw [he]; rfl
            rw [hev] at HE
            clear hev
            go_quiet (fail)
            go_wp2
            go_ret
            exact ⟨ret_u8 (by rw [HE.out]), by first | exact below_next HBX.out (bdN _ _) | exact below_next (below_next HBX.out (bdN _ _)) (bdN _ _)⟩
    · obtain rfl : k = us.length := by omega
      go_wp2
      go_loopw [5] (fun i wr => ∃ k : Nat, k ≤ bs.length ∧ i = .int .i64 k ∧ Hid (firstE (hereB bs) k = 0) ∧ Hid (MB w.heap.size unk (.slice pu us.length cu) (.slice pb bs.length cb) wr) ∧ Hid (Below w.heap.size w wr)) (fun i _ => bs.length - (RowKit.intOf i).toNat)
      case atStart => exact ⟨0, Nat.zero_le _, rfl, rfl, HX.out, HB.out⟩
      case round =>
        obtain ⟨k, hk, rfl, HQ2, HX, HB⟩ := hrel
        obtain ⟨m0, m1, m2, hsz⟩ := HX.out
        by_cases hlt : k < bs.length
        · obtain ⟨A, rfl, hA, hcell⟩ := HBR.out (by omega)
          have hAb : (A.add (k * 3)).block < w.heap.size := by rw [add_block]; exact hA
          have x0 : wr.cell? (A.add (k * 3)) = some (.string (bs.getD k brNil).x) := by
            rw [HB.out.cell hAb]; have := hcell k 0 hlt (by omega); simpa [brF] using this
          have x1 : wr.cell? { block := (A.add (k * 3)).block, off := (A.add (k * 3)).off + 1 } = some (.string (bs.getD k brNil).y) := by
            rw [HB.out.cell (p := { block := (A.add (k * 3)).block, off := (A.add (k * 3)).off + 1 }) hAb]; have := cell_off (by omega) (hcell k 1 hlt (by omega)); simpa [brF] using this
          have x2 : wr.cell? { block := (A.add (k * 3)).block, off := (A.add (k * 3)).off + 2 } = some (.int .i64 (bs.getD k brNil).c) := by
            rw [HB.out.cell (p := { block := (A.add (k * 3)).block, off := (A.add (k * 3)).off + 2 }) hAb]; have := cell_off (by omega) (hcell k 2 hlt (by omega)); simpa [brF] using this
          have hwz := HBZ.out _ (br_mem hlt)
          have HBD := Lib.hid (br_bad HQ2.out hlt)
          have HNB := Lib.hid (br_nb HQ2.out hlt)
          have HF := Lib.hid (fun h => br_first (l := bs) (k := k) HQ2.out h)
          have HN := Lib.hid (fun h => br_next (l := bs) (k := k) HQ2.out h)
          have hcellp := fun (_ : 0 < k) => hcell (k - 1)
          clear hcell
          generalize bs.getD k brNil = x at x0 x1 x2 hwz HBD HNB HF HN
          obtain ⟨xx, xy, xc⟩ := x
          simp only at x0 x1 x2 hwz
          have cP := fun w => refPlace_any xx w hwz.1
          have cQ := fun w => refPlace_any xy w hwz.2
          have cC := fun w => refCost_any xc w
          have hub : brB ⟨xx, xy, xc⟩ = (placeB xx && placeB xy && costB xc) := rfl
          rw [hub] at HBD HNB HF HN
          clear hub
          generalize placeB xx = P at cP HBD HNB HF HN
          generalize placeB xy = C1 at cQ HBD HNB HF HN
          generalize costB xc = C2 at cC HBD HNB HF HN
          have HBX := Lib.hid (below_next HB.out (below_box (w := wr) (.cells #[.string xx, .string xy, .int .i64 xc] 47)))
          have HMX := Lib.hid (HX.out.step (below_box (w := wr) (.cells #[.string xx, .string xy, .int .i64 xc] 47)))
          rcases (show P = false ∨ (P = true ∧ C1 = false) ∨ (P = true ∧ C1 = true ∧ C2 = false) ∨ (P = true ∧ C1 = true ∧ C2 = true) by cases P <;> cases C1 <;> cases C2 <;> simp) with rfl | ⟨rfl, rfl⟩ | ⟨rfl, rfl, rfl⟩ | ⟨rfl, rfl, rfl⟩
          iterate 3
            · have HE := Lib.hid (HEB.out HQ.out _ (HBD.out (by simp)))
              clear hcellp
              go_wp2_with (first
                | (go_at_call 16; (with_reducible refine (cP _).mono ?_); rintro e w' ⟨rfl, rfl⟩)
                | (go_at_call 16; (with_reducible refine (cQ _).mono ?_); rintro e w' ⟨rfl, rfl⟩)
                | (go_at_call 27; (with_reducible refine (cC _).mono ?_); rintro e w' ⟨rfl, rfl⟩))
              go_ret
              exact ⟨ret_u8 HE.out.symm, HBX.out⟩
          · by_cases hk0 : k = 0
            · have HF0 := Lib.hid (HF.out rfl hk0)
              have hkz : (k == 0) = true := by simpa using hk0
              have hkzI : ((k : Int) == 0) = true := by simp; omega
              clear hk0 hcellp
              go_wp2_with (first
                | (go_at_call 16; (with_reducible refine (cP _).mono ?_); rintro e w' ⟨rfl, rfl⟩)
                | (go_at_call 16; (with_reducible refine (cQ _).mono ?_); rintro e w' ⟨rfl, rfl⟩)
                | (go_at_call 27; (with_reducible refine (cC _).mono ?_); rintro e w' ⟨rfl, rfl⟩))
              go_roundw
              case rel => exact ⟨k + 1, by omega, by go_num, HF0.out, HMX.out, HBX.out⟩
              case measure => simp [RowKit.intOf]; omega
            · have hkd : decide (0 < k) = true := by simp; omega
              have hkz : (k == 0) = false := by simpa using hk0
              have hkzI : ((k : Int) == 0) = false := by simp; omega
              have hwr : IntKind.i64.wrap ((k : Int) - 1) = ((k - 1 : Nat) : Int) := by rw [IntKind.wrap_i64]; omega
              have hix1 : ((k - 1 : Nat) : Int) < (bs.length : Int) := by omega
              have hix2 : (0 : Int) ≤ ((k - 1 : Nat) : Int) := by omega
              have hix3 : k - 1 < bs.length := by omega
              have hk1 : 0 < k := by omega
              have hAb1 : (A.add ((k - 1) * 3)).block < w.heap.size := by rw [add_block]; exact hA
              have HC0 := Lib.hid (show w.cell? (A.add ((k - 1) * 3 + 0)) = some (.string (bs.getD (k - 1) brNil).x) from hcellp hk1 0 hix3 (by omega))
              have HC1 := Lib.hid (show w.cell? (A.add ((k - 1) * 3 + 1)) = some (.string (bs.getD (k - 1) brNil).y) from hcellp hk1 1 hix3 (by omega))
              have HC2 := Lib.hid (show w.cell? (A.add ((k - 1) * 3 + 2)) = some (.int .i64 (bs.getD (k - 1) brNil).c) from hcellp hk1 2 hix3 (by omega))
              have HN0 := Lib.hid (HN.out rfl)
              have HNB0 := Lib.hid (HNB.out rfl hk0)
              clear hcellp
              generalize bs.getD (k - 1) brNil = a at HC0 HC1 HC2 HN0 HNB0
              obtain ⟨ax, ay, ac⟩ := a
              simp only at HC0 HC1 HC2
              have z0 : (wr.alloc (.cells #[.string xx, .string xy, .int .i64 xc] 47)).cell? (A.add ((k - 1) * 3)) = some (.string ax) := by
                rw [HBX.out.cell hAb1]; simpa using HC0.out
              have z1 : (wr.alloc (.cells #[.string xx, .string xy, .int .i64 xc] 47)).cell? { block := (A.add ((k - 1) * 3)).block, off := (A.add ((k - 1) * 3)).off + 1 } = some (.string ay) := by
                rw [HBX.out.cell (p := { block := (A.add ((k - 1) * 3)).block, off := (A.add ((k - 1) * 3)).off + 1 }) hAb1]; simpa using cell_off (by omega) HC1.out
              have z2 : (wr.alloc (.cells #[.string xx, .string xy, .int .i64 xc] 47)).cell? { block := (A.add ((k - 1) * 3)).block, off := (A.add ((k - 1) * 3)).off + 2 } = some (.int .i64 ac) := by
                rw [HBX.out.cell (p := { block := (A.add ((k - 1) * 3)).block, off := (A.add ((k - 1) * 3)).off + 2 }) hAb1]; simpa using cell_off (by omega) HC2.out
              have HBY := Lib.hid (below_next HBX.out (below_box (.cells #[.string ax, .string ay, .int .i64 ac] 47)))
              have HMY := Lib.hid (HMX.out.step (below_box (.cells #[.string ax, .string ay, .int .i64 ac] 47)))
              have hnb : nbB ⟨ax, ay, ac⟩ ⟨xx, xy, xc⟩ = if eqB ax xx = true then (if eqB ay xy = true then 6 else if ltB ay xy = true then 0 else 1) else if ltB ax xx = true then 0 else 1 := rfl
              rw [hnb] at HN0 HNB0
              clear hnb
              unfold eqB ltB at HN0 HNB0
              cases he : (ax.toList == xx.toList)
              · have hf : Op.bytesLess xx.toList ax.toList = !Op.bytesLess ax.toList xx.toList := by rw [lt_flip he, Bool.not_not]
                cases hl : Op.bytesLess ax.toList xx.toList
                · rw [hl] at hf
                  rw [he, hl] at HNB0
                  have HE := Lib.hid (HEB.out HQ.out _ (HNB0.out (by simp)))
                  go_wp2_with (first
                    | (go_at_call 16; (with_reducible refine (cP _).mono ?_); rintro e w' ⟨rfl, rfl⟩)
                    | (go_at_call 16; (with_reducible refine (cQ _).mono ?_); rintro e w' ⟨rfl, rfl⟩)
                    | (go_at_call 27; (with_reducible refine (cC _).mono ?_); rintro e w' ⟨rfl, rfl⟩))
                  go_ret
                  exact ⟨ret_u8 (by rw [HE.out]; simp), HBY.out⟩
                · rw [hl] at hf
                  rw [he, hl] at HN0
                  have HE := Lib.hid (HN0.out (by simp))
                  go_wp2_with (first
                    | (go_at_call 16; (with_reducible refine (cP _).mono ?_); rintro e w' ⟨rfl, rfl⟩)
                    | (go_at_call 16; (with_reducible refine (cQ _).mono ?_); rintro e w' ⟨rfl, rfl⟩)
                    | (go_at_call 27; (with_reducible refine (cC _).mono ?_); rintro e w' ⟨rfl, rfl⟩))
                  go_roundw
                  case rel => exact ⟨k + 1, by omega, by go_num, HE.out, HMY.out, HBY.out⟩
                  case measure => simp [RowKit.intOf]; omega
              · have hl : Op.bytesLess xx.toList ax.toList = false := by rw [eq_of_beq he]; exact lt_self _
                rw [he] at HN0 HNB0
                cases ge : (ay.toList == xy.toList)
                · have gf : Op.bytesLess xy.toList ay.toList = !Op.bytesLess ay.toList xy.toList := by rw [lt_flip ge, Bool.not_not]
                  cases gl : Op.bytesLess ay.toList xy.toList
                  · rw [gl] at gf
                    rw [ge, gl] at HNB0
                    have HE := Lib.hid (HEB.out HQ.out _ (HNB0.out (by simp)))
                    go_wp2_with (first
                      | (go_at_call 16; (with_reducible refine (cP _).mono ?_); rintro e w' ⟨rfl, rfl⟩)
                      | (go_at_call 16; (with_reducible refine (cQ _).mono ?_); rintro e w' ⟨rfl, rfl⟩)
                      | (go_at_call 27; (with_reducible refine (cC _).mono ?_); rintro e w' ⟨rfl, rfl⟩))
                    go_ret
                    exact ⟨ret_u8 (by rw [HE.out]; simp), HBY.out⟩
                  · rw [gl] at gf
                    rw [ge, gl] at HN0
                    have HE := Lib.hid (HN0.out (by simp))
                    go_wp2_with (first
                      | (go_at_call 16; (with_reducible refine (cP _).mono ?_); rintro e w' ⟨rfl, rfl⟩)
                      | (go_at_call 16; (with_reducible refine (cQ _).mono ?_); rintro e w' ⟨rfl, rfl⟩)
                      | (go_at_call 27; (with_reducible refine (cC _).mono ?_); rintro e w' ⟨rfl, rfl⟩))
                    go_roundw
                    case rel => exact ⟨k + 1, by omega, by go_num, HE.out, HMY.out, HBY.out⟩
                    case measure => simp [RowKit.intOf]; omega
                · rw [ge] at HNB0
                  have HE := Lib.hid (HEB.out HQ.out _ (HNB0.out (by simp)))
                  go_wp2_with (first
                    | (go_at_call 16; (with_reducible refine (cP _).mono ?_); rintro e w' ⟨rfl, rfl⟩)
                    | (go_at_call 16; (with_reducible refine (cQ _).mono ?_); rintro e w' ⟨rfl, rfl⟩)
                    | (go_at_call 27; (with_reducible refine (cC _).mono ?_); rintro e w' ⟨rfl, rfl⟩))
                  go_ret
                  exact ⟨ret_u8 (by rw [HE.out]; simp), HBY.out⟩
        · obtain rfl : k = bs.length := by omega
          have HE := Lib.hid (HEB.out HQ.out _ HQ2.out)
          go_wp2
          go_ret
          exact ⟨ret_u8 HE.out.symm, HB.out⟩
end Go.Proofs.Ytgcglaagjplbfaa
