/- Models: which are valid, by the program. -/
import Derived.Test.YtgcglaagjplbfaaDm2
namespace Go.Proofs.Ytgcglaagjplbfaa
open Go Go.RowKit Go.Lib
set_option maxRecDepth 100000
/-- the cells of a model stand in a block -/
def MB (b : Nat) (unk : Int) (uv bv : Value) (wr : World) : Prop := wr.cell? ⟨b, 0, none⟩ = some (.int .i64 unk) ∧ wr.cell? ⟨b, 1, none⟩ = some uv ∧ wr.cell? ⟨b, 2, none⟩ = some bv ∧ b < wr.heap.size
theorem MB.step {b : Nat} {unk : Int} {uv bv : Value} {wr w' : World} (hb : Below wr.heap.size wr w') (h : MB b unk uv bv wr) : MB b unk uv bv w' := by
  obtain ⟨h0, h1, h2, h3⟩ := h
  exact ⟨by rw [hb.cell (p := ⟨b, 0, none⟩) h3]; exact h0, by rw [hb.cell (p := ⟨b, 1, none⟩) h3]; exact h1, by rw [hb.cell (p := ⟨b, 2, none⟩) h3]; exact h2, Nat.lt_of_lt_of_le h3 hb.size⟩
theorem MB.new (w : World) (unk : Int) (uv bv : Value) : MB w.heap.size unk uv bv (w.alloc (.cells #[.int .i64 unk, uv, bv] 25)) := by
  refine ⟨?_, ?_, ?_, ?_⟩ <;> simp
theorem bdN (w : World) (n : Nat) : Below w.heap.size w (w.drewN n) := ⟨rfl, rfl, rfl, Nat.le_refl _, fun _ _ => rfl⟩
theorem un_mem {l : List Un} {k : Nat} (hk : k < l.length) : l.getD k unNil ∈ l := by
  rw [List.getD_eq_getElem?_getD, List.getElem?_eq_getElem hk]; exact List.getElem_mem hk
theorem br_mem {l : List Br} {k : Nat} (hk : k < l.length) : l.getD k brNil ∈ l := by
  rw [List.getD_eq_getElem?_getD, List.getElem?_eq_getElem hk]; exact List.getElem_mem hk
theorem un_bad {l : List Un} {k : Nat} (h0 : firstE (hereU l) k = 0) (hk : k < l.length) (hb : unB (l.getD k unNil) = false) : firstE (hereU l) l.length = 1 :=
  firstE_stay h0 (by rw [hereU, if_pos hb]) (by decide) _ hk
theorem un_nb {l : List Un} {k : Nat} (h0 : firstE (hereU l) k = 0) (hk : k < l.length) (hb : unB (l.getD k unNil) = true) (hk0 : k ≠ 0) (hn : nbU (l.getD (k - 1) unNil) (l.getD k unNil) ≠ 0) : firstE (hereU l) l.length = nbU (l.getD (k - 1) unNil) (l.getD k unNil) :=
  firstE_stay h0 (by rw [hereU, if_neg (by rw [hb]; simp), if_neg hk0]) hn _ hk
theorem un_first {l : List Un} {k : Nat} (h0 : firstE (hereU l) k = 0) (hb : unB (l.getD k unNil) = true) (hk0 : k = 0) : firstE (hereU l) (k + 1) = 0 :=
  firstE_next h0 (by rw [hereU, if_neg (by rw [hb]; simp), if_pos hk0])
theorem un_next {l : List Un} {k : Nat} (h0 : firstE (hereU l) k = 0) (hb : unB (l.getD k unNil) = true) (hn : nbU (l.getD (k - 1) unNil) (l.getD k unNil) = 0) : firstE (hereU l) (k + 1) = 0 := by
  refine firstE_next h0 ?_
  rw [hereU, if_neg (by rw [hb]; simp)]
  split
  · rfl
  · exact hn
theorem br_bad {l : List Br} {k : Nat} (h0 : firstE (hereB l) k = 0) (hk : k < l.length) (hb : brB (l.getD k brNil) = false) : firstE (hereB l) l.length = 1 :=
  firstE_stay h0 (by rw [hereB, if_pos hb]) (by decide) _ hk
theorem br_nb {l : List Br} {k : Nat} (h0 : firstE (hereB l) k = 0) (hk : k < l.length) (hb : brB (l.getD k brNil) = true) (hk0 : k ≠ 0) (hn : nbB (l.getD (k - 1) brNil) (l.getD k brNil) ≠ 0) : firstE (hereB l) l.length = nbB (l.getD (k - 1) brNil) (l.getD k brNil) :=
  firstE_stay h0 (by rw [hereB, if_neg (by rw [hb]; simp), if_neg hk0]) hn _ hk
theorem br_first {l : List Br} {k : Nat} (h0 : firstE (hereB l) k = 0) (hb : brB (l.getD k brNil) = true) (hk0 : k = 0) : firstE (hereB l) (k + 1) = 0 :=
  firstE_next h0 (by rw [hereB, if_neg (by rw [hb]; simp), if_pos hk0])
theorem br_next {l : List Br} {k : Nat} (h0 : firstE (hereB l) k = 0) (hb : brB (l.getD k brNil) = true) (hn : nbB (l.getD (k - 1) brNil) (l.getD k brNil) = 0) : firstE (hereB l) (k + 1) = 0 := by
  refine firstE_next h0 ?_
  rw [hereB, if_neg (by rw [hb]; simp)]
  split
  · rfl
  · exact hn
set_option maxHeartbeats 8000000 in
theorem check_any (M : Mdl) (w : World) (hM : MdlAt w M) : Calls Try.prog 10 #[mdlV M] w fun e w' => e = .returned (.int .u8 (checkM M)) ∧ Below w.heap.size w w' := by
  obtain ⟨unk, us, bs, uv, bv⟩ := M
  obtain ⟨⟨pu, cu, hu, hul, huc, hur⟩, ⟨pb, cb, hb, hbl, hbc, hbr⟩, huz, hbz⟩ := hM
  simp only at hu hul hur hb hbl hbr huz hbz
  subst hu hb
  unfold mdlV maxLen at *
  simp only
  have agM := Try.isAgg25
  have zgM := Try.sizeOf25
  have agU := Try.isAgg45
  have zgU := Try.sizeOf45
  have agB := Try.isAgg47
  have zgB := Try.sizeOf47
  have HUR := Lib.hid hur
  have HBR := Lib.hid hbr
  have HUZ := Lib.hid huz
  have HBZ := Lib.hid hbz
  clear hur hbr huz hbz
  cases hc : costB unk
  · have cK : ∀ w, Calls Try.prog 24 #[.int .i64 unk] w fun e w' => e = .returned (.bool false) ∧ w' = w := fun w => by rw [← hc]; exact isCost_any unk w
    have HE := Lib.hid (check_unk (M := ⟨unk, us, bs, .slice pu us.length cu, .slice pb bs.length cb⟩) hc)
    go_enter Try.func10, Try.ntmps10
    go_wp2_with (go_at_call 24; (with_reducible refine (cK _).mono ?_); rintro e w' ⟨rfl, rfl⟩)
    go_ret
    exact ⟨ret_u8 HE.out.symm, below_box _⟩
  have cK : ∀ w, Calls Try.prog 24 #[.int .i64 unk] w fun e w' => e = .returned (.bool true) ∧ w' = w := fun w => by rw [← hc]; exact isCost_any unk w
  by_cases h1 : 512 < us.length
  · have HE := Lib.hid (check_limit (M := ⟨unk, us, bs, .slice pu us.length cu, .slice pb bs.length cb⟩) hc (.inl h1))
    have hI : (512 : Int) < (us.length : Int) := by omega
    go_enter Try.func10, Try.ntmps10
    go_wp2_with (go_at_call 24; (with_reducible refine (cK _).mono ?_); rintro e w' ⟨rfl, rfl⟩)
    go_ret
    exact ⟨ret_u8 HE.out.symm, below_box _⟩
  have hI1 : ¬ (512 : Int) < (us.length : Int) := by omega
  by_cases h2 : 2048 < bs.length
  · have HE := Lib.hid (check_limit (M := ⟨unk, us, bs, .slice pu us.length cu, .slice pb bs.length cb⟩) hc (.inr h2))
    have hI : (2048 : Int) < (bs.length : Int) := by omega
    go_enter Try.func10, Try.ntmps10
    go_wp2_with (go_at_call 24; (with_reducible refine (cK _).mono ?_); rintro e w' ⟨rfl, rfl⟩)
    go_ret
    exact ⟨ret_u8 HE.out.symm, below_box _⟩
  have hI2 : ¬ (2048 : Int) < (bs.length : Int) := by omega
  have HEU := Lib.hid (fun e h3 he => check_us (M := ⟨unk, us, bs, .slice pu us.length cu, .slice pb bs.length cb⟩) hc (by simp only; omega) (e := e) h3 he)
  have HEB := Lib.hid (fun h3 e h4 => check_bs (M := ⟨unk, us, bs, .slice pu us.length cu, .slice pb bs.length cb⟩) hc (by simp only; omega) h3 (e := e) h4)
  go_enter Try.func10, Try.ntmps10
  go_wp2_with (go_at_call 24; (with_reducible refine (cK _).mono ?_); rintro e w' ⟨rfl, rfl⟩)
  go_loopw [24] (fun i wr => ∃ k : Nat, k ≤ us.length ∧ i = .int .i64 k ∧ Hid (firstE (hereU us) k = 0) ∧ Hid (MB w.heap.size unk (.slice pu us.length cu) (.slice pb bs.length cb) wr) ∧ Hid (Below w.heap.size w wr)) (fun i _ => us.length - (RowKit.intOf i).toNat)
  case atStart => exact ⟨0, Nat.zero_le _, rfl, rfl, MB.new _ _ _ _, below_box _⟩
  case round =>
    obtain ⟨k, hk, rfl, HQ, HX, HB⟩ := hrel
    obtain ⟨m0, m1, m2, hsz⟩ := HX.out
    by_cases hlt : k < us.length
    · obtain ⟨A, rfl, hA, hcell⟩ := HUR.out (by omega)
      have hAb : (A.add (k * 3)).block < w.heap.size := by rw [add_block]; exact hA
      have x0 : wr.cell? (A.add (k * 3)) = some (.string (us.getD k unNil).w) := by
        rw [HB.out.cell hAb]; have := hcell k 0 hlt (by omega); simpa [unF] using this
      have x1 : wr.cell? { block := (A.add (k * 3)).block, off := (A.add (k * 3)).off + 1 } = some (.int .i64 (us.getD k unNil).c) := by
        rw [HB.out.cell (p := { block := (A.add (k * 3)).block, off := (A.add (k * 3)).off + 1 }) hAb]; have := cell_off (by omega) (hcell k 1 hlt (by omega)); simpa [unF] using this
      have x2 : wr.cell? { block := (A.add (k * 3)).block, off := (A.add (k * 3)).off + 2 } = some (.int .i64 (us.getD k unNil).b) := by
        rw [HB.out.cell (p := { block := (A.add (k * 3)).block, off := (A.add (k * 3)).off + 2 }) hAb]; have := cell_off (by omega) (hcell k 2 hlt (by omega)); simpa [unF] using this
      have hwz := HUZ.out _ (un_mem hlt)
      have HBD := Lib.hid (un_bad HQ.out hlt)
      have HNB := Lib.hid (un_nb HQ.out hlt)
      have HF := Lib.hid (fun h => un_first (l := us) (k := k) HQ.out h)
      have HN := Lib.hid (fun h => un_next (l := us) (k := k) HQ.out h)
      have hcellp := fun (_ : 0 < k) => hcell (k - 1)
      clear hcell
      generalize us.getD k unNil = x at x0 x1 x2 hwz HBD HNB HF HN
      obtain ⟨xw, xc, xb⟩ := x
      simp only at x0 x1 x2 hwz
      have cP := fun w => isPlace_any xw w hwz
      have cC := fun w => isCost_any xc w
      have cB := fun w => isCost_any xb w
      have hub : unB ⟨xw, xc, xb⟩ = (placeB xw && costB xc && costB xb) := rfl
      rw [hub] at HBD HNB HF HN
      clear hub
      generalize placeB xw = P at cP HBD HNB HF HN
      generalize costB xc = C1 at cC HBD HNB HF HN
      generalize costB xb = C2 at cB HBD HNB HF HN
      have HBX := Lib.hid (below_next HB.out (below_box (w := wr) (.cells #[.string xw, .int .i64 xc, .int .i64 xb] 45)))
      have HMX := Lib.hid (HX.out.step (below_box (w := wr) (.cells #[.string xw, .int .i64 xc, .int .i64 xb] 45)))
      rcases (show P = false ∨ (P = true ∧ C1 = false) ∨ (P = true ∧ C1 = true ∧ C2 = false) ∨ (P = true ∧ C1 = true ∧ C2 = true) by cases P <;> cases C1 <;> cases C2 <;> simp) with rfl | ⟨rfl, rfl⟩ | ⟨rfl, rfl, rfl⟩ | ⟨rfl, rfl, rfl⟩
      iterate 3
        · have HE := Lib.hid (HEU.out _ (HBD.out (by simp)) (by decide))
          clear hcellp
          go_wp2_with (first
            | (go_at_call 13; (with_reducible refine (cP _).mono ?_); rintro e w' ⟨rfl, rfl⟩)
            | (go_at_call 24; (with_reducible refine (cC _).mono ?_); rintro e w' ⟨rfl, rfl⟩)
            | (go_at_call 24; (with_reducible refine (cB _).mono ?_); rintro e w' ⟨rfl, rfl⟩))
          go_ret
          exact ⟨ret_u8 HE.out.symm, HBX.out⟩
      · by_cases hk0 : k = 0
        · have HF0 := Lib.hid (HF.out rfl hk0)
          have hkd : decide (0 < k) = false := by simp; omega
          clear hk0 hcellp
          go_wp2_with (first
            | (go_at_call 13; (with_reducible refine (cP _).mono ?_); rintro e w' ⟨rfl, rfl⟩)
            | (go_at_call 24; (with_reducible refine (cC _).mono ?_); rintro e w' ⟨rfl, rfl⟩)
            | (go_at_call 24; (with_reducible refine (cB _).mono ?_); rintro e w' ⟨rfl, rfl⟩))
          go_quiet (fail)
          go_wp2
          go_roundw
          case rel => exact ⟨k + 1, by omega, by go_num, HF0.out, HMX.out.step (bdN _ _), below_next HBX.out (bdN _ _)⟩
          case measure => simp [RowKit.intOf]; omega
        · have hkd : decide (0 < k) = true := by simp; omega
          have hwr : IntKind.i64.wrap ((k : Int) - 1) = ((k - 1 : Nat) : Int) := by rw [IntKind.wrap_i64]; omega
          have hix1 : ((k - 1 : Nat) : Int) < (us.length : Int) := by omega
          have hix2 : (0 : Int) ≤ ((k - 1 : Nat) : Int) := by omega
          have hix3 : k - 1 < us.length := by omega
          have hk1 : 0 < k := by omega
          have hAb1 : (A.add ((k - 1) * 3)).block < w.heap.size := by rw [add_block]; exact hA
          have HC0 := Lib.hid (show w.cell? (A.add ((k - 1) * 3 + 0)) = some (.string (us.getD (k - 1) unNil).w) from hcellp hk1 0 hix3 (by omega))
          have HN0 := Lib.hid (HN.out rfl)
          have HNB0 := Lib.hid (HNB.out rfl hk0)
          clear hcellp
          generalize us.getD (k - 1) unNil = a at HC0 HN0 HNB0
          obtain ⟨aw, ac, ab⟩ := a
          simp only at HC0
          have hnb : nbU ⟨aw, ac, ab⟩ ⟨xw, xc, xb⟩ = if eqB aw xw = true then 6 else if ltB aw xw = true then 0 else 1 := rfl
          rw [hnb] at HN0 HNB0
          clear hnb
          go_wp2_with (first
            | (go_at_call 13; (with_reducible refine (cP _).mono ?_); rintro e w' ⟨rfl, rfl⟩)
            | (go_at_call 24; (with_reducible refine (cC _).mono ?_); rintro e w' ⟨rfl, rfl⟩)
            | (go_at_call 24; (with_reducible refine (cB _).mono ?_); rintro e w' ⟨rfl, rfl⟩))
          have z0 : (wr.alloc (.cells #[.string xw, .int .i64 xc, .int .i64 xb] 45)).cell? (A.add ((k - 1) * 3)) = some (.string aw) := by
            rw [HBX.out.cell hAb1]; simpa using HC0.out
          have y0 : (wr.alloc (.cells #[.string xw, .int .i64 xc, .int .i64 xb] 45)).cell? ⟨wr.heap.size, 0, none⟩ = some (.string xw) := by simp
          clear x0 x1 x2 m0 m1 m2
          obtain ⟨m0, m1, m2, m3⟩ := HMX.out
          generalize wr.alloc (.cells #[.string xw, .int .i64 xc, .int .i64 xb] 45) = wx at z0 y0 HBX HMX m0 m1 m2 m3 ⊢
          cases he : (aw.toList == xw.toList)
          · cases hl : Op.bytesLess aw.toList xw.toList
            · have HE := Lib.hid (HEU.out _ (HNB0.out (by unfold eqB ltB; rw [he, hl]; simp)) (by unfold eqB ltB; rw [he, hl]; simp))
              have hev : (if eqB aw xw = true then (6 : Int) else if ltB aw xw = true then 0 else 1) = 1 := by unfold eqB ltB; rw [he, hl]; rfl
              rw [hev] at HE
              clear hev
              go_quiet (fail)
              go_wp2
              go_quiet ((go_at_call 25; (refine (disorder_any _ _).mono ?_); rintro e w' ⟨rfl, rfl⟩; exact ⟨rfl, _, rfl⟩))
              go_wp2
              go_ret
              exact ⟨ret_u8 (by rw [HE.out]), by first | exact below_next HBX.out (bdN _ _) | exact below_next (below_next HBX.out (bdN _ _)) (bdN _ _)⟩
            · have HE := Lib.hid (HN0.out (by unfold eqB ltB; rw [he, hl]; rfl))
              go_quiet (fail)
              go_wp2
              go_roundw
              case rel => exact ⟨k + 1, by omega, by go_num, HE.out, HMX.out.step (bdN _ _), below_next HBX.out (bdN _ _)⟩
              case measure => simp [RowKit.intOf]; omega
          · have hl : Op.bytesLess aw.toList xw.toList = false := by rw [eq_of_beq he]; exact lt_self _
            have HE := Lib.hid (HEU.out _ (HNB0.out (by unfold eqB ltB; rw [he]; simp)) (by unfold eqB ltB; rw [he]; simp))
            have hev : (if eqB aw xw = true then (6 : Int) else if ltB aw xw = true then 0 else 1) = 6 := by unfold eqB ltB; rw [he]; rfl
            rw [hev] at HE
            clear hev
            go_quiet (fail)
            go_wp2
            go_quiet ((go_at_call 25; (refine (disorder_any _ _).mono ?_); rintro e w' ⟨rfl, rfl⟩; exact ⟨rfl, _, rfl⟩))
            go_wp2
            go_ret
            exact ⟨ret_u8 (by rw [HE.out]), by first | exact below_next HBX.out (bdN _ _) | exact below_next (below_next HBX.out (bdN _ _)) (bdN _ _)⟩
    · obtain rfl : k = us.length := by omega
      go_wp2
      go_loopw [74] (fun i wr => ∃ k : Nat, k ≤ bs.length ∧ i = .int .i64 k ∧ Hid (firstE (hereB bs) k = 0) ∧ Hid (MB w.heap.size unk (.slice pu us.length cu) (.slice pb bs.length cb) wr) ∧ Hid (Below w.heap.size w wr)) (fun i _ => bs.length - (RowKit.intOf i).toNat)
      case atStart => exact ⟨0, Nat.zero_le _, rfl, rfl, HX.out, HB.out⟩
      case round =>
        obtain ⟨k, hk, rfl, HQ2, HX, HB⟩ := hrel
        obtain ⟨m0, m1, m2, hsz⟩ := HX.out
        by_cases hlt : k < bs.length
        · obtain ⟨A, rfl, hA, hcell⟩ := HBR.out (by omega)
          have hAb : (A.add (k * 3)).block < w.heap.size := by rw [add_block]; exact hA
          have x0 : wr.cell? (A.add (k * 3)) = some (.string (bs.getD k brNil).x) := by
            rw [HB.out.cell hAb]; have := hcell k 0 hlt (by omega); simpa [brF] using this
          have x1 : wr.cell? { block := (A.add (k * 3)).block, off := (A.add (k * 3)).off + 1 } = some (.string (bs.getD k brNil).y) := by
            rw [HB.out.cell (p := { block := (A.add (k * 3)).block, off := (A.add (k * 3)).off + 1 }) hAb]; have := cell_off (by omega) (hcell k 1 hlt (by omega)); simpa [brF] using this
          have x2 : wr.cell? { block := (A.add (k * 3)).block, off := (A.add (k * 3)).off + 2 } = some (.int .i64 (bs.getD k brNil).c) := by
            rw [HB.out.cell (p := { block := (A.add (k * 3)).block, off := (A.add (k * 3)).off + 2 }) hAb]; have := cell_off (by omega) (hcell k 2 hlt (by omega)); simpa [brF] using this
          have hwz := HBZ.out _ (br_mem hlt)
          have HBD := Lib.hid (br_bad HQ2.out hlt)
          have HNB := Lib.hid (br_nb HQ2.out hlt)
          have HF := Lib.hid (fun h => br_first (l := bs) (k := k) HQ2.out h)
          have HN := Lib.hid (fun h => br_next (l := bs) (k := k) HQ2.out h)
          have hcellp := fun (_ : 0 < k) => hcell (k - 1)
          clear hcell
          generalize bs.getD k brNil = x at x0 x1 x2 hwz HBD HNB HF HN
          obtain ⟨xx, xy, xc⟩ := x
          simp only at x0 x1 x2 hwz
          have cP := fun w => isPlace_any xx w hwz.1
          have cQ := fun w => isPlace_any xy w hwz.2
          have cC := fun w => isCost_any xc w
          have hub : brB ⟨xx, xy, xc⟩ = (placeB xx && placeB xy && costB xc) := rfl
          rw [hub] at HBD HNB HF HN
          clear hub
          generalize placeB xx = P at cP HBD HNB HF HN
          generalize placeB xy = C1 at cQ HBD HNB HF HN
          generalize costB xc = C2 at cC HBD HNB HF HN
          have HBX := Lib.hid (below_next HB.out (below_box (w := wr) (.cells #[.string xx, .string xy, .int .i64 xc] 47)))
          have HMX := Lib.hid (HX.out.step (below_box (w := wr) (.cells #[.string xx, .string xy, .int .i64 xc] 47)))
          rcases (show P = false ∨ (P = true ∧ C1 = false) ∨ (P = true ∧ C1 = true ∧ C2 = false) ∨ (P = true ∧ C1 = true ∧ C2 = true) by cases P <;> cases C1 <;> cases C2 <;> simp) with rfl | ⟨rfl, rfl⟩ | ⟨rfl, rfl, rfl⟩ | ⟨rfl, rfl, rfl⟩
          iterate 3
            · have HE := Lib.hid (HEB.out HQ.out _ (HBD.out (by simp)))
              clear hcellp
              go_wp2_with (first
                | (go_at_call 13; (with_reducible refine (cP _).mono ?_); rintro e w' ⟨rfl, rfl⟩)
                | (go_at_call 13; (with_reducible refine (cQ _).mono ?_); rintro e w' ⟨rfl, rfl⟩)
                | (go_at_call 24; (with_reducible refine (cC _).mono ?_); rintro e w' ⟨rfl, rfl⟩))
              go_ret
              exact ⟨ret_u8 HE.out.symm, HBX.out⟩
          · by_cases hk0 : k = 0
            · have HF0 := Lib.hid (HF.out rfl hk0)
              have hkd : decide (0 < k) = false := by simp; omega
              clear hk0 hcellp
              go_wp2_with (first
                | (go_at_call 13; (with_reducible refine (cP _).mono ?_); rintro e w' ⟨rfl, rfl⟩)
                | (go_at_call 13; (with_reducible refine (cQ _).mono ?_); rintro e w' ⟨rfl, rfl⟩)
                | (go_at_call 24; (with_reducible refine (cC _).mono ?_); rintro e w' ⟨rfl, rfl⟩))
              go_quiet (fail)
              go_wp2
              go_roundw
              case rel => exact ⟨k + 1, by omega, by go_num, HF0.out, HMX.out.step (bdN _ _), below_next HBX.out (bdN _ _)⟩
              case measure => simp [RowKit.intOf]; omega
            · have hkd : decide (0 < k) = true := by simp; omega
              have hwr : IntKind.i64.wrap ((k : Int) - 1) = ((k - 1 : Nat) : Int) := by rw [IntKind.wrap_i64]; omega
              have hix1 : ((k - 1 : Nat) : Int) < (bs.length : Int) := by omega
              have hix2 : (0 : Int) ≤ ((k - 1 : Nat) : Int) := by omega
              have hix3 : k - 1 < bs.length := by omega
              have hk1 : 0 < k := by omega
              have hAb1 : (A.add ((k - 1) * 3)).block < w.heap.size := by rw [add_block]; exact hA
              have HC0 := Lib.hid (show w.cell? (A.add ((k - 1) * 3 + 0)) = some (.string (bs.getD (k - 1) brNil).x) from hcellp hk1 0 hix3 (by omega))
              have HC1 := Lib.hid (show w.cell? (A.add ((k - 1) * 3 + 1)) = some (.string (bs.getD (k - 1) brNil).y) from hcellp hk1 1 hix3 (by omega))
              have HC2 := Lib.hid (show w.cell? (A.add ((k - 1) * 3 + 2)) = some (.int .i64 (bs.getD (k - 1) brNil).c) from hcellp hk1 2 hix3 (by omega))
              have HN0 := Lib.hid (HN.out rfl)
              have HNB0 := Lib.hid (HNB.out rfl hk0)
              clear hcellp
              generalize bs.getD (k - 1) brNil = a at HC0 HC1 HC2 HN0 HNB0
              obtain ⟨ax, ay, ac⟩ := a
              simp only at HC0 HC1 HC2
              go_wp2_with (first
                | (go_at_call 13; (with_reducible refine (cP _).mono ?_); rintro e w' ⟨rfl, rfl⟩)
                | (go_at_call 13; (with_reducible refine (cQ _).mono ?_); rintro e w' ⟨rfl, rfl⟩)
                | (go_at_call 24; (with_reducible refine (cC _).mono ?_); rintro e w' ⟨rfl, rfl⟩))
              have cN := fun w => comparePairs_any ⟨ax, ay, ac⟩ ⟨xx, xy, xc⟩ w
              have hnb := cmpP_nb ⟨ax, ay, ac⟩ ⟨xx, xy, xc⟩
              unfold brV at cN
              simp only at cN
              generalize cmpP ⟨ax, ay, ac⟩ ⟨xx, xy, xc⟩ = D at cN hnb
              generalize nbB ⟨ax, ay, ac⟩ ⟨xx, xy, xc⟩ = E at HN0 HNB0 hnb
              have z0 : (wr.alloc (.cells #[.string xx, .string xy, .int .i64 xc] 47)).cell? (A.add ((k - 1) * 3)) = some (.string ax) := by
                rw [HBX.out.cell hAb1]; simpa using HC0.out
              have z1 : (wr.alloc (.cells #[.string xx, .string xy, .int .i64 xc] 47)).cell? { block := (A.add ((k - 1) * 3)).block, off := (A.add ((k - 1) * 3)).off + 1 } = some (.string ay) := by
                rw [HBX.out.cell (p := { block := (A.add ((k - 1) * 3)).block, off := (A.add ((k - 1) * 3)).off + 1 }) hAb1]; simpa using cell_off (by omega) HC1.out
              have z2 : (wr.alloc (.cells #[.string xx, .string xy, .int .i64 xc] 47)).cell? { block := (A.add ((k - 1) * 3)).block, off := (A.add ((k - 1) * 3)).off + 2 } = some (.int .i64 ac) := by
                rw [HBX.out.cell (p := { block := (A.add ((k - 1) * 3)).block, off := (A.add ((k - 1) * 3)).off + 2 }) hAb1]; simpa using cell_off (by omega) HC2.out
              have y0 : (wr.alloc (.cells #[.string xx, .string xy, .int .i64 xc] 47)).cell? ⟨wr.heap.size, 0, none⟩ = some (.string xx) := by simp
              have y1 : (wr.alloc (.cells #[.string xx, .string xy, .int .i64 xc] 47)).cell? ⟨wr.heap.size, 1, none⟩ = some (.string xy) := by simp
              have y2 : (wr.alloc (.cells #[.string xx, .string xy, .int .i64 xc] 47)).cell? ⟨wr.heap.size, 2, none⟩ = some (.int .i64 xc) := by simp
              have y3 : wr.heap.size < (wr.alloc (.cells #[.string xx, .string xy, .int .i64 xc] 47)).heap.size := by simp
              clear x0 x1 x2 m0 m1 m2 HC0 HC1 HC2
              obtain ⟨m0, m1, m2, m3⟩ := HMX.out
              have hA1 : (A.add ((k - 1) * 3)).block < (wr.alloc (.cells #[.string xx, .string xy, .int .i64 xc] 47)).heap.size := Nat.lt_of_lt_of_le hAb1 HBX.out.size
              generalize wr.alloc (.cells #[.string xx, .string xy, .int .i64 xc] 47) = wx at z0 z1 z2 y0 y1 y2 y3 HBX HMX m0 m1 m2 m3 hA1 ⊢
              rcases hnb with ⟨rfl, rfl⟩ | ⟨rfl, rfl⟩ | ⟨rfl, rfl⟩
              · go_region_held3 (fun w' => w'.cell? (A.add ((k - 1) * 3)) = some (.string ax) ∧ w'.cell? { block := (A.add ((k - 1) * 3)).block, off := (A.add ((k - 1) * 3)).off + 1 } = some (.string ay) ∧ w'.cell? { block := (A.add ((k - 1) * 3)).block, off := (A.add ((k - 1) * 3)).off + 2 } = some (.int .i64 ac) ∧ w'.cell? ⟨wr.heap.size, 0, none⟩ = some (.string xx) ∧ w'.cell? ⟨wr.heap.size, 1, none⟩ = some (.string xy) ∧ w'.cell? ⟨wr.heap.size, 2, none⟩ = some (.int .i64 xc) ∧ w'.cell? ⟨w.heap.size, 2, none⟩ = some (.slice (some A) bs.length cb))
                  (first
                    | go_keep
                    | (refine ⟨?_, ?_, ?_, ?_, ?_, ?_, ?_⟩
                       · (rw [hb3.cell (p := A.add ((k - 1) * 3)) (by show _ < wx.heap.size; exact hA1)]; assumption)
                       · (rw [hb3.cell (p := { block := (A.add ((k - 1) * 3)).block, off := (A.add ((k - 1) * 3)).off + 1 }) (by show _ < wx.heap.size; exact hA1)]; assumption)
                       · (rw [hb3.cell (p := { block := (A.add ((k - 1) * 3)).block, off := (A.add ((k - 1) * 3)).off + 2 }) (by show _ < wx.heap.size; exact hA1)]; assumption)
                       · (rw [hb3.cell (p := ⟨wr.heap.size, 0, none⟩) (by show _ < wx.heap.size; exact y3)]; assumption)
                       · (rw [hb3.cell (p := ⟨wr.heap.size, 1, none⟩) (by show _ < wx.heap.size; exact y3)]; assumption)
                       · (rw [hb3.cell (p := ⟨wr.heap.size, 2, none⟩) (by show _ < wx.heap.size; exact y3)]; assumption)
                       · (rw [hb3.cell (p := ⟨w.heap.size, 2, none⟩) (by show _ < wx.heap.size; exact m3)]; assumption)))
                  (first
                    | ((go_simp; go_at_call 26; (with_reducible refine (cN _).mono ?_); rintro e w3 ⟨rfl, hb3⟩))
                    | ((go_simp; go_at_call 25; (with_reducible refine (disorder_any _ _).mono ?_); rintro e w4 ⟨rfl, rfl⟩)))
                rename_i hHeld
                have HB3 := Lib.hid (below_next HBX.out (below_next (bdN wx 1) hb3))
                have HM3 := Lib.hid (HMX.out.step (below_next (bdN wx 1) hb3))
                have hs3 : wx.heap.size ≤ w3.heap.size := hb3.size
                have HE := Lib.hid (HEB.out HQ.out _ (HNB0.out (by decide)))
                clear hb3 z0 z1 z2 y0 y1 y2 m0 m1 m2
                obtain ⟨z0, z1, z2, y0, y1, y2, m2⟩ := hHeld
                replace hA1 := Nat.lt_of_lt_of_le hA1 hs3
                replace y3 := Nat.lt_of_lt_of_le y3 hs3
                replace m3 := Nat.lt_of_lt_of_le m3 hs3
                go_wp2
                go_region_held3 (fun w' => w'.cell? (A.add ((k - 1) * 3)) = some (.string ax) ∧ w'.cell? { block := (A.add ((k - 1) * 3)).block, off := (A.add ((k - 1) * 3)).off + 1 } = some (.string ay) ∧ w'.cell? { block := (A.add ((k - 1) * 3)).block, off := (A.add ((k - 1) * 3)).off + 2 } = some (.int .i64 ac) ∧ w'.cell? ⟨wr.heap.size, 0, none⟩ = some (.string xx) ∧ w'.cell? ⟨wr.heap.size, 1, none⟩ = some (.string xy) ∧ w'.cell? ⟨wr.heap.size, 2, none⟩ = some (.int .i64 xc) ∧ w'.cell? ⟨w.heap.size, 2, none⟩ = some (.slice (some A) bs.length cb))
                  (first
                    | go_keep
                    | (refine ⟨?_, ?_, ?_, ?_, ?_, ?_, ?_⟩
                       · (rw [hb5.cell (p := A.add ((k - 1) * 3)) (by show _ < w3.heap.size; exact hA1)]; assumption)
                       · (rw [hb5.cell (p := { block := (A.add ((k - 1) * 3)).block, off := (A.add ((k - 1) * 3)).off + 1 }) (by show _ < w3.heap.size; exact hA1)]; assumption)
                       · (rw [hb5.cell (p := { block := (A.add ((k - 1) * 3)).block, off := (A.add ((k - 1) * 3)).off + 2 }) (by show _ < w3.heap.size; exact hA1)]; assumption)
                       · (rw [hb5.cell (p := ⟨wr.heap.size, 0, none⟩) (by show _ < w3.heap.size; exact y3)]; assumption)
                       · (rw [hb5.cell (p := ⟨wr.heap.size, 1, none⟩) (by show _ < w3.heap.size; exact y3)]; assumption)
                       · (rw [hb5.cell (p := ⟨wr.heap.size, 2, none⟩) (by show _ < w3.heap.size; exact y3)]; assumption)
                       · (rw [hb5.cell (p := ⟨w.heap.size, 2, none⟩) (by show _ < w3.heap.size; exact m3)]; assumption)))
                  (first
                    | ((go_simp; go_at_call 26; (with_reducible refine (cN _).mono ?_); rintro e w5 ⟨rfl, hb5⟩))
                    | ((go_simp; go_at_call 25; (with_reducible refine (disorder_any _ _).mono ?_); rintro e w4 ⟨rfl, rfl⟩)))
                have HB5 := Lib.hid (below_next HB3.out (below_next (bdN w3 1) hb5))
                go_wp2
                go_ret
                exact ⟨ret_u8 (by rw [HE.out]), by first | exact HB5.out | exact below_next HB5.out (bdN _ 1)⟩
              · go_region_held3 (fun w' => w'.cell? (A.add ((k - 1) * 3)) = some (.string ax) ∧ w'.cell? { block := (A.add ((k - 1) * 3)).block, off := (A.add ((k - 1) * 3)).off + 1 } = some (.string ay) ∧ w'.cell? { block := (A.add ((k - 1) * 3)).block, off := (A.add ((k - 1) * 3)).off + 2 } = some (.int .i64 ac) ∧ w'.cell? ⟨wr.heap.size, 0, none⟩ = some (.string xx) ∧ w'.cell? ⟨wr.heap.size, 1, none⟩ = some (.string xy) ∧ w'.cell? ⟨wr.heap.size, 2, none⟩ = some (.int .i64 xc) ∧ w'.cell? ⟨w.heap.size, 2, none⟩ = some (.slice (some A) bs.length cb))
                  (first
                    | go_keep
                    | (refine ⟨?_, ?_, ?_, ?_, ?_, ?_, ?_⟩
                       · (rw [hb3.cell (p := A.add ((k - 1) * 3)) (by show _ < wx.heap.size; exact hA1)]; assumption)
                       · (rw [hb3.cell (p := { block := (A.add ((k - 1) * 3)).block, off := (A.add ((k - 1) * 3)).off + 1 }) (by show _ < wx.heap.size; exact hA1)]; assumption)
                       · (rw [hb3.cell (p := { block := (A.add ((k - 1) * 3)).block, off := (A.add ((k - 1) * 3)).off + 2 }) (by show _ < wx.heap.size; exact hA1)]; assumption)
                       · (rw [hb3.cell (p := ⟨wr.heap.size, 0, none⟩) (by show _ < wx.heap.size; exact y3)]; assumption)
                       · (rw [hb3.cell (p := ⟨wr.heap.size, 1, none⟩) (by show _ < wx.heap.size; exact y3)]; assumption)
                       · (rw [hb3.cell (p := ⟨wr.heap.size, 2, none⟩) (by show _ < wx.heap.size; exact y3)]; assumption)
                       · (rw [hb3.cell (p := ⟨w.heap.size, 2, none⟩) (by show _ < wx.heap.size; exact m3)]; assumption)))
                  (first
                    | ((go_simp; go_at_call 26; (with_reducible refine (cN _).mono ?_); rintro e w3 ⟨rfl, hb3⟩))
                    | ((go_simp; go_at_call 25; (with_reducible refine (disorder_any _ _).mono ?_); rintro e w4 ⟨rfl, rfl⟩)))
                rename_i hHeld
                have HB3 := Lib.hid (below_next HBX.out (below_next (bdN wx 1) hb3))
                have HM3 := Lib.hid (HMX.out.step (below_next (bdN wx 1) hb3))
                have hs3 : wx.heap.size ≤ w3.heap.size := hb3.size
                have HE := Lib.hid (HN0.out (by simp))
                clear hHeld hb3 z0 z1 z2 y0 y1 y2 m0 m1 m2 HB HX HNB0 HEU HEB
                go_wp2
                go_roundw
                case rel => exact ⟨k + 1, by omega, by go_num, HE.out, HM3.out, HB3.out⟩
                case measure => simp [RowKit.intOf]; omega
              · go_region_held3 (fun w' => w'.cell? (A.add ((k - 1) * 3)) = some (.string ax) ∧ w'.cell? { block := (A.add ((k - 1) * 3)).block, off := (A.add ((k - 1) * 3)).off + 1 } = some (.string ay) ∧ w'.cell? { block := (A.add ((k - 1) * 3)).block, off := (A.add ((k - 1) * 3)).off + 2 } = some (.int .i64 ac) ∧ w'.cell? ⟨wr.heap.size, 0, none⟩ = some (.string xx) ∧ w'.cell? ⟨wr.heap.size, 1, none⟩ = some (.string xy) ∧ w'.cell? ⟨wr.heap.size, 2, none⟩ = some (.int .i64 xc) ∧ w'.cell? ⟨w.heap.size, 2, none⟩ = some (.slice (some A) bs.length cb))
                  (first
                    | go_keep
                    | (refine ⟨?_, ?_, ?_, ?_, ?_, ?_, ?_⟩
                       · (rw [hb3.cell (p := A.add ((k - 1) * 3)) (by show _ < wx.heap.size; exact hA1)]; assumption)
                       · (rw [hb3.cell (p := { block := (A.add ((k - 1) * 3)).block, off := (A.add ((k - 1) * 3)).off + 1 }) (by show _ < wx.heap.size; exact hA1)]; assumption)
                       · (rw [hb3.cell (p := { block := (A.add ((k - 1) * 3)).block, off := (A.add ((k - 1) * 3)).off + 2 }) (by show _ < wx.heap.size; exact hA1)]; assumption)
                       · (rw [hb3.cell (p := ⟨wr.heap.size, 0, none⟩) (by show _ < wx.heap.size; exact y3)]; assumption)
                       · (rw [hb3.cell (p := ⟨wr.heap.size, 1, none⟩) (by show _ < wx.heap.size; exact y3)]; assumption)
                       · (rw [hb3.cell (p := ⟨wr.heap.size, 2, none⟩) (by show _ < wx.heap.size; exact y3)]; assumption)
                       · (rw [hb3.cell (p := ⟨w.heap.size, 2, none⟩) (by show _ < wx.heap.size; exact m3)]; assumption)))
                  (first
                    | ((go_simp; go_at_call 26; (with_reducible refine (cN _).mono ?_); rintro e w3 ⟨rfl, hb3⟩))
                    | ((go_simp; go_at_call 25; (with_reducible refine (disorder_any _ _).mono ?_); rintro e w4 ⟨rfl, rfl⟩)))
                rename_i hHeld
                have HB3 := Lib.hid (below_next HBX.out (below_next (bdN wx 1) hb3))
                have HM3 := Lib.hid (HMX.out.step (below_next (bdN wx 1) hb3))
                have hs3 : wx.heap.size ≤ w3.heap.size := hb3.size
                have HE := Lib.hid (HEB.out HQ.out _ (HNB0.out (by decide)))
                clear hb3 z0 z1 z2 y0 y1 y2 m0 m1 m2
                obtain ⟨z0, z1, z2, y0, y1, y2, m2⟩ := hHeld
                replace hA1 := Nat.lt_of_lt_of_le hA1 hs3
                replace y3 := Nat.lt_of_lt_of_le y3 hs3
                replace m3 := Nat.lt_of_lt_of_le m3 hs3
                go_wp2
                go_region_held3 (fun w' => w'.cell? (A.add ((k - 1) * 3)) = some (.string ax) ∧ w'.cell? { block := (A.add ((k - 1) * 3)).block, off := (A.add ((k - 1) * 3)).off + 1 } = some (.string ay) ∧ w'.cell? { block := (A.add ((k - 1) * 3)).block, off := (A.add ((k - 1) * 3)).off + 2 } = some (.int .i64 ac) ∧ w'.cell? ⟨wr.heap.size, 0, none⟩ = some (.string xx) ∧ w'.cell? ⟨wr.heap.size, 1, none⟩ = some (.string xy) ∧ w'.cell? ⟨wr.heap.size, 2, none⟩ = some (.int .i64 xc) ∧ w'.cell? ⟨w.heap.size, 2, none⟩ = some (.slice (some A) bs.length cb))
                  (first
                    | go_keep
                    | (refine ⟨?_, ?_, ?_, ?_, ?_, ?_, ?_⟩
                       · (rw [hb5.cell (p := A.add ((k - 1) * 3)) (by show _ < w3.heap.size; exact hA1)]; assumption)
                       · (rw [hb5.cell (p := { block := (A.add ((k - 1) * 3)).block, off := (A.add ((k - 1) * 3)).off + 1 }) (by show _ < w3.heap.size; exact hA1)]; assumption)
                       · (rw [hb5.cell (p := { block := (A.add ((k - 1) * 3)).block, off := (A.add ((k - 1) * 3)).off + 2 }) (by show _ < w3.heap.size; exact hA1)]; assumption)
                       · (rw [hb5.cell (p := ⟨wr.heap.size, 0, none⟩) (by show _ < w3.heap.size; exact y3)]; assumption)
                       · (rw [hb5.cell (p := ⟨wr.heap.size, 1, none⟩) (by show _ < w3.heap.size; exact y3)]; assumption)
                       · (rw [hb5.cell (p := ⟨wr.heap.size, 2, none⟩) (by show _ < w3.heap.size; exact y3)]; assumption)
                       · (rw [hb5.cell (p := ⟨w.heap.size, 2, none⟩) (by show _ < w3.heap.size; exact m3)]; assumption)))
                  (first
                    | ((go_simp; go_at_call 26; (with_reducible refine (cN _).mono ?_); rintro e w5 ⟨rfl, hb5⟩))
                    | ((go_simp; go_at_call 25; (with_reducible refine (disorder_any _ _).mono ?_); rintro e w4 ⟨rfl, rfl⟩)))
                have HB5 := Lib.hid (below_next HB3.out (below_next (bdN w3 1) hb5))
                go_wp2
                go_ret
                exact ⟨ret_u8 (by rw [HE.out]), by first | exact HB5.out | exact below_next HB5.out (bdN _ 1)⟩
        · obtain rfl : k = bs.length := by omega
          have HE := Lib.hid (HEB.out HQ.out _ HQ2.out)
          go_wp2
          go_ret
          exact ⟨ret_u8 HE.out.symm, HB.out⟩
end Go.Proofs.Ytgcglaagjplbfaa
