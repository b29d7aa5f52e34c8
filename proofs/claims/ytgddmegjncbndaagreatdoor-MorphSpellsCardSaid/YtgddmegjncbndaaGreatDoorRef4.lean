/- The specification's check of classes. -/
import Derived.Test.YtgddmegjncbndaaGreatDoorRefA
namespace Go.Proofs.YtgddmegjncbndaaGreatDoor
open Go Go.RowKit
set_option maxRecDepth 100000 in
set_option maxHeartbeats 16000000 in
theorem refClasses_any (L : Lex) (w : World) (hL : LexAt w L) :
    Calls Tryz.prog 42 #[L.val] w fun e w' => e = .returned (.int .u8 (classesErr L.traits L.classes)) ∧ Below w.heap.size w w' := by
  obtain ⟨p1, c1, p2, c2, p3, c3, p4, c4, p5, c5, e1, e2, e3, e4, e5, hc1, hm1, hc2, hm2, hc3, hm3, hc4, hm4, hc5, hm5⟩ := lex_forms hL
  have HL := Lib.hid hL; clear hL
  have hval : L.val = .agg #[.string L.vowels, .slice p1 L.traits.length c1, .slice p2 L.classes.length c2, .slice p3 L.entries.length c3, .slice p4 L.spells.length c4, .slice p5 L.links.length c5] := by unfold Lex.val; rw [e1, e2, e3, e4, e5]
  have HVAL := Lib.hid hval
  have HO := Lib.hid (show boxed L = .cells #[.string L.vowels, .slice p1 L.traits.length c1, .slice p2 L.classes.length c2, .slice p3 L.entries.length c3, .slice p4 L.spells.length c4, .slice p5 L.links.length c5] 28 by unfold boxed; rw [e1, e2, e3, e4, e5])
  rw [hval]
  clear hval
  have ag := Tryz.isAgg28
  have zg := Tryz.sizeOf28
  unfold maxLen at hm2
  have agt := Tryz.isAgg67
  have zgt := Tryz.sizeOf67
  have ags := Tryz.isAgg69
  have zgs := Tryz.sizeOf69
  by_cases h8 : (16 : Int) < (L.classes.length : Int)
  · go_enter Tryz.func42, Tryz.ntmps42
    go_wp2
    go_ret
    exact ⟨ret_i (by unfold classesErr; rw [if_pos (by omega)]), below_one _ _⟩
  have HE : Hid (classesErr L.traits L.classes = errOf L.classes.length (classErr L.traits L.classes)) := Lib.hid (by unfold classesErr; rw [if_neg (by omega)])
  go_enter Tryz.func42, Tryz.ntmps42
  go_wp2
  go_loopw [3] (fun i wr => ∃ k : Nat, k ≤ L.classes.length ∧ i = .int .i64 k ∧ (∀ j, j < k → classErr L.traits L.classes j = 0) ∧ Below (w.alloc (boxed L)).heap.size (w.alloc (boxed L)) wr) (fun i _ => L.classes.length - (intOf i).toNat)
  case atStart => exact ⟨0, by omega, rfl, fun i h => by omega, by rw [HO.out]; exact Below.refl _ _⟩
  case round =>
    obtain ⟨k, hk, rfl, hq, hB⟩ := hrel
    have HQ := Lib.hid hq; clear hq
    have HB := Lib.hid hB; clear hB
    rename World => wr
    have HW := Lib.hid ((below_one w (boxed L)).trans (HB.out.mono (by simp)))
    have b2 : wr.cell? ⟨w.heap.size, 2, none⟩ = some (.slice p2 L.classes.length c2) := by rw [boxed_at w L HB.out 2, e2]; rfl
    by_cases hlt : k < L.classes.length
    · obtain ⟨q2, d2, e2', hd2, hd2', hrow⟩ := (HL.out.clas.step HW.out).1
      obtain ⟨rfl, rfl⟩ : q2 = p2 ∧ d2 = c2 := by rw [e2] at e2'; cases e2'; exact ⟨rfl, rfl⟩
      obtain ⟨A, rfl, hA, hcell⟩ := hrow (by omega)
      obtain ⟨⟨⟨p', c', hvv, hc', hm', _⟩, hvs⟩, hnm⟩ := HL.out.clas.2 L.classes[k] (List.getElem_mem _)
      have t1 : wr.cell? (A.add (k * 2)) = some (.string L.classes[k].name) := by
        have := hcell k 0 hlt (by omega)
        simpa [claF, hlt] using this
      have t2 : wr.cell? { block := (A.add (k * 2)).block, off := (A.add (k * 2)).off + 1 } = some (.slice p' L.classes[k].slots.length c') := by
        have := cell_next (hcell k 1 hlt (by omega))
        simpa [claF, hlt, hvv] using this
      have hws : w.heap.size < wr.heap.size := by have := HB.out.size; simp at this; omega
      have hwn : w.heap.size ≠ wr.heap.size := by omega
      clear hcell hrow
      have hxw : Below (w.alloc (boxed L)).heap.size (w.alloc (boxed L)) (wr.alloc (.cells #[.string L.classes[k].name, .slice p' L.classes[k].slots.length c'] 67)) := HB.out.alloc HB.out.size _
      have HBX := Lib.hid hxw; clear hxw
      have HWX := Lib.hid (HW.out.alloc HW.out.size (.cells #[.string L.classes[k].name, .slice p' L.classes[k].slots.length c'] 67))
      have HCE := Lib.hid (classErr_at (T := L.traits) hlt)
      cases hname : nameB L.classes[k].name
      · have HX := Lib.hid (HCE.out.trans (if_pos hname))
        go_wp2_with (go_at_call 81; refine (refName_any _ _ hnm).mono ?_; rintro e w' ⟨rfl, rfl⟩)
        go_ret
        exact ⟨ret_i (by rw [HE.out, errOf_at hlt HQ.out (by rw [HX.out]; decide), HX.out]), HWX.out⟩
      · have HCE2 := Lib.hid (HCE.out.trans (if_neg (by rw [hname]; simp)))
        have x0 : (wr.alloc (.cells #[.string L.classes[k].name, .slice p' L.classes[k].slots.length c'] 67)).cell? ⟨w.heap.size, 0, none⟩ = some (.string L.vowels) := by rw [boxed_at w L HBX.out 0]; rfl
        have x1 : (wr.alloc (.cells #[.string L.classes[k].name, .slice p' L.classes[k].slots.length c'] 67)).cell? ⟨w.heap.size, 1, none⟩ = some (.slice p1 L.traits.length c1) := by rw [boxed_at w L HBX.out 1, e1]; rfl
        have x2 : (wr.alloc (.cells #[.string L.classes[k].name, .slice p' L.classes[k].slots.length c'] 67)).cell? ⟨w.heap.size, 2, none⟩ = some (.slice (some A) L.classes.length d2) := by rw [boxed_at w L HBX.out 2, e2]; rfl
        have x3 : (wr.alloc (.cells #[.string L.classes[k].name, .slice p' L.classes[k].slots.length c'] 67)).cell? ⟨w.heap.size, 3, none⟩ = some (.slice p3 L.entries.length c3) := by rw [boxed_at w L HBX.out 3, e3]; rfl
        have x4 : (wr.alloc (.cells #[.string L.classes[k].name, .slice p' L.classes[k].slots.length c'] 67)).cell? ⟨w.heap.size, 4, none⟩ = some (.slice p4 L.spells.length c4) := by rw [boxed_at w L HBX.out 4, e4]; rfl
        have x5 : (wr.alloc (.cells #[.string L.classes[k].name, .slice p' L.classes[k].slots.length c'] 67)).cell? ⟨w.heap.size, 5, none⟩ = some (.slice p5 L.links.length c5) := by rw [boxed_at w L HBX.out 5, e5]; rfl
        have y0 : (wr.alloc (.cells #[.string L.classes[k].name, .slice p' L.classes[k].slots.length c'] 67)).cell? ⟨wr.heap.size, 0, none⟩ = some (.string L.classes[k].name) := by rw [World.cell?_alloc_new]; rfl
        have y1 : (wr.alloc (.cells #[.string L.classes[k].name, .slice p' L.classes[k].slots.length c'] 67)).cell? ⟨wr.heap.size, 1, none⟩ = some (.slice p' L.classes[k].slots.length c') := by rw [World.cell?_alloc_new]; rfl
        have HCL := Lib.hid (HVAL.out ▸ refClass_any L L.classes[k].name _ (HL.out.step HWX.out))
        have HID := Lib.hid (idx_before (q := claQ L.classes L.classes[k].name) hlt (claQ_at hlt (by simp)))
        by_cases hbi : classIdx L.classes L.classes.length L.classes[k].name < (k : Int)
        · have HX := Lib.hid (HCE2.out.trans (if_pos (of_decide_eq_true (HID.out.symm.trans (decide_eq_true hbi)))))
          go_wp2_with (first
          | (go_at_call 81; refine (refName_any _ _ hnm).mono ?_; rintro e w' ⟨rfl, rfl⟩)
          | (go_at_call 44; refine (HCL.out).mono ?_; rintro e w2 ⟨rfl, hb2⟩; have HB2 := Lib.hid (HBX.out.trans (hb2.mono HBX.out.size)); have HW2 := Lib.hid (HWX.out.trans (hb2.mono HWX.out.size)); have z1 : w2.cell? ⟨wr.heap.size, 1, none⟩ = some (.slice p' L.classes[k].slots.length c') := (by rw [hb2.cell (p := ⟨wr.heap.size, 1, none⟩) (by simp)]; exact y1); have HWR := Lib.hid (show wr.heap.size < w2.heap.size by have := hb2.size; simp at this; omega); clear hb2))
          go_ret
          exact ⟨ret_i (by rw [HE.out, errOf_at hlt HQ.out (by rw [HX.out]; decide), HX.out]), HW2.out⟩
        have HX := Lib.hid (HCE2.out.trans (if_neg (of_decide_eq_false (HID.out.symm.trans (decide_eq_false hbi)))))
        by_cases hv8 : (24 : Int) < (L.classes[k].slots.length : Int)
        · have HV := Lib.hid (HX.out.trans (if_pos (by omega)))
          go_wp2_with (first
          | (go_at_call 81; refine (refName_any _ _ hnm).mono ?_; rintro e w' ⟨rfl, rfl⟩)
          | (go_at_call 44; refine (HCL.out).mono ?_; rintro e w2 ⟨rfl, hb2⟩; have HB2 := Lib.hid (HBX.out.trans (hb2.mono HBX.out.size)); have HW2 := Lib.hid (HWX.out.trans (hb2.mono HWX.out.size)); have z1 : w2.cell? ⟨wr.heap.size, 1, none⟩ = some (.slice p' L.classes[k].slots.length c') := (by rw [hb2.cell (p := ⟨wr.heap.size, 1, none⟩) (by simp)]; exact y1); have HWR := Lib.hid (show wr.heap.size < w2.heap.size by have := hb2.size; simp at this; omega); clear hb2))
          go_ret
          exact ⟨ret_i (by rw [HE.out, errOf_at hlt HQ.out (by rw [HV.out]; decide), HV.out]), HW2.out⟩
        by_cases hv0 : (L.classes[k].slots.length : Int) = 0
        · have HV := Lib.hid (HX.out.trans ((if_neg (by omega)).trans (if_pos (by omega))))
          go_wp2_with (first
          | (go_at_call 81; refine (refName_any _ _ hnm).mono ?_; rintro e w' ⟨rfl, rfl⟩)
          | (go_at_call 44; refine (HCL.out).mono ?_; rintro e w2 ⟨rfl, hb2⟩; have HB2 := Lib.hid (HBX.out.trans (hb2.mono HBX.out.size)); have HW2 := Lib.hid (HWX.out.trans (hb2.mono HWX.out.size)); have z1 : w2.cell? ⟨wr.heap.size, 1, none⟩ = some (.slice p' L.classes[k].slots.length c') := (by rw [hb2.cell (p := ⟨wr.heap.size, 1, none⟩) (by simp)]; exact y1); have HWR := Lib.hid (show wr.heap.size < w2.heap.size by have := hb2.size; simp at this; omega); clear hb2))
          go_ret
          exact ⟨ret_i (by rw [HE.out, errOf_at hlt HQ.out (by rw [HV.out]; decide), HV.out]), HW2.out⟩
        have HV := Lib.hid (HX.out.trans ((if_neg (by omega)).trans (if_neg (by omega))))
        have hv0b : ((L.classes[k].slots.length : Int) == 0) = false := beq_eq_false_iff_ne.2 hv0
        clear hv0
        go_wp2_with (first
          | (go_at_call 81; refine (refName_any _ _ hnm).mono ?_; rintro e w' ⟨rfl, rfl⟩)
          | (go_at_call 44; refine (HCL.out).mono ?_; rintro e w2 ⟨rfl, hb2⟩; have HB2 := Lib.hid (HBX.out.trans (hb2.mono HBX.out.size)); have HW2 := Lib.hid (HWX.out.trans (hb2.mono HWX.out.size)); have z1 : w2.cell? ⟨wr.heap.size, 1, none⟩ = some (.slice p' L.classes[k].slots.length c') := (by rw [hb2.cell (p := ⟨wr.heap.size, 1, none⟩) (by simp)]; exact y1); have HWR := Lib.hid (show wr.heap.size < w2.heap.size by have := hb2.size; simp at this; omega); clear hb2))
        clear x0 x1 x2 x3 x4 x5 y0 y1 b2 t1 t2
        go_loopw [5] (fun i wq => ∃ j : Nat, j ≤ L.classes[k].slots.length ∧ i = .int .i64 j ∧ (∀ m, m < j → slotsErr L.traits L.classes[k].slots m = 0) ∧ Below w2.heap.size w2 wq) (fun i _ => L.classes[k].slots.length - (intOf i).toNat)
        case atStart => exact ⟨0, by omega, rfl, fun i h => by omega, Below.refl _ _⟩
        case round =>
          obtain ⟨j, hj, rfl, hqj, hbq⟩ := hrel
          have HJ := Lib.hid hqj; clear hqj
          rename World => wq
          have HBQ := Lib.hid hbq; clear hbq
          have HWQ := Lib.hid (HW2.out.trans (HBQ.out.mono HW2.out.size))
          have HBB := Lib.hid (HB2.out.trans (HBQ.out.mono HB2.out.size))
          have z2 : wq.cell? ⟨wr.heap.size, 1, none⟩ = some (.slice p' L.classes[k].slots.length c') := by rw [HBQ.out.cell (p := ⟨wr.heap.size, 1, none⟩) HWR.out]; exact z1
          by_cases hjt : j < L.classes[k].slots.length
          · have HVS := Lib.hid (hvv ▸ (HL.out.clas.2 L.classes[k] (List.getElem_mem _)).1.1.step HWQ.out)
            obtain ⟨_, _, eA, _, _, hrow⟩ := HVS.out
            cases eA
            obtain ⟨VA, rfl, hVA, hcell⟩ := hrow (by omega)
            obtain ⟨hfr, hpre, hadd⟩ := hvs L.classes[k].slots[j] (List.getElem_mem _)
            obtain ⟨qf, cf, hfv, _, _, _⟩ := open_row hfr
            have v0 : wq.cell? (VA.add (j * 4)) = some (.int .i64 L.classes[k].slots[j].cut) := by
              have := hcell j 0 hjt (by omega)
              simpa [sloF, hjt] using this
            have v1 : wq.cell? { block := (VA.add (j * 4)).block, off := (VA.add (j * 4)).off + 1 } = some (.string L.classes[k].slots[j].pre) := by
              have := cell_at 1 (by omega) (hcell j 1 hjt (by omega))
              simpa [sloF, hjt] using this
            have v2 : wq.cell? { block := (VA.add (j * 4)).block, off := (VA.add (j * 4)).off + 2 } = some (.string L.classes[k].slots[j].add) := by
              have := cell_at 2 (by omega) (hcell j 2 hjt (by omega))
              simpa [sloF, hjt] using this
            have v3 : wq.cell? { block := (VA.add (j * 4)).block, off := (VA.add (j * 4)).off + 3 } = some (.slice qf L.classes[k].slots[j].fs.length cf) := by
              have := cell_at 3 (by omega) (hcell j 3 hjt (by omega))
              simpa [sloF, hjt, hfv] using this
            clear hcell hrow
            have HSE := Lib.hid (show slotsErr L.traits L.classes[k].slots j = slotErr L.traits L.classes[k].slots[j] by unfold slotsErr; rw [List.getElem?_eq_getElem hjt])
            have HFR := Lib.hid (reads_step HWQ.out hfr); clear hfr
            have HFV := Lib.hid hfv; clear hfv
            have HHV := Lib.hid (hvv); clear hvv
            generalize L.classes[k].slots[j] = sl at *
            have HWY := Lib.hid (HWQ.out.alloc HWQ.out.size (.cells #[.int .i64 sl.cut, .string sl.pre, .string sl.add, .slice qf sl.fs.length cf] 69))
            have HBY := Lib.hid (HBB.out.alloc HBB.out.size (.cells #[.int .i64 sl.cut, .string sl.pre, .string sl.add, .slice qf sl.fs.length cf] 69))
            have HQY := Lib.hid (HBQ.out.alloc HBQ.out.size (.cells #[.int .i64 sl.cut, .string sl.pre, .string sl.add, .slice qf sl.fs.length cf] 69))
            by_cases h1 : sl.cut < 0
            · skip
              have HS := Lib.hid (HSE.out.trans (show slotErr L.traits sl = 1 from if_pos (.inl h1)))
              go_wp2_with (first | (go_at_call 40; with_reducible refine (of_any sl.pre _ hpre).mono ?_; rintro e w' ⟨rfl, rfl⟩) | (go_at_call 40; with_reducible refine (of_any sl.add _ hadd).mono ?_; rintro e w' ⟨rfl, rfl⟩))
              go_ret
              exact ⟨ret_i (by rw [HE.out, errOf_at hlt HQ.out (by rw [HV.out, errOf_at hjt HJ.out (by rw [HS.out]; decide), HS.out]; decide), HV.out, errOf_at hjt HJ.out (by rw [HS.out]; decide), HS.out]), by repeat (first | exact HWY.out | apply below_drewN)⟩
            by_cases h2 : 24 < sl.cut
            · skip
              have HS := Lib.hid (HSE.out.trans (show slotErr L.traits sl = 1 from if_pos (.inr (.inl h2))))
              go_wp2_with (first | (go_at_call 40; with_reducible refine (of_any sl.pre _ hpre).mono ?_; rintro e w' ⟨rfl, rfl⟩) | (go_at_call 40; with_reducible refine (of_any sl.add _ hadd).mono ?_; rintro e w' ⟨rfl, rfl⟩))
              go_ret
              exact ⟨ret_i (by rw [HE.out, errOf_at hlt HQ.out (by rw [HV.out, errOf_at hjt HJ.out (by rw [HS.out]; decide), HS.out]; decide), HV.out, errOf_at hjt HJ.out (by rw [HS.out]; decide), HS.out]), by repeat (first | exact HWY.out | apply below_drewN)⟩
            cases h3 : allB isL sl.pre
            · skip
              have HS := Lib.hid (HSE.out.trans (show slotErr L.traits sl = 1 from if_pos (.inr (.inr (.inl (by unfold patB; rw [h3]; simp))))))
              go_wp2_with (first | (go_at_call 40; with_reducible refine (of_any sl.pre _ hpre).mono ?_; rintro e w' ⟨rfl, rfl⟩) | (go_at_call 40; with_reducible refine (of_any sl.add _ hadd).mono ?_; rintro e w' ⟨rfl, rfl⟩))
              go_ret
              exact ⟨ret_i (by rw [HE.out, errOf_at hlt HQ.out (by rw [HV.out, errOf_at hjt HJ.out (by rw [HS.out]; decide), HS.out]; decide), HV.out, errOf_at hjt HJ.out (by rw [HS.out]; decide), HS.out]), by repeat (first | exact HWY.out | apply below_drewN)⟩
            by_cases h4 : (6 : Int) < (sl.pre.size : Int)
            · skip
              have HS := Lib.hid (HSE.out.trans (show slotErr L.traits sl = 1 from if_pos (.inr (.inr (.inl (by unfold patB; rw [decide_eq_false (by omega)]; rfl))))))
              go_wp2_with (first | (go_at_call 40; with_reducible refine (of_any sl.pre _ hpre).mono ?_; rintro e w' ⟨rfl, rfl⟩) | (go_at_call 40; with_reducible refine (of_any sl.add _ hadd).mono ?_; rintro e w' ⟨rfl, rfl⟩))
              go_ret
              exact ⟨ret_i (by rw [HE.out, errOf_at hlt HQ.out (by rw [HV.out, errOf_at hjt HJ.out (by rw [HS.out]; decide), HS.out]; decide), HV.out, errOf_at hjt HJ.out (by rw [HS.out]; decide), HS.out]), by repeat (first | exact HWY.out | apply below_drewN)⟩
            cases h5 : allB isL sl.add
            · skip
              have HS := Lib.hid (HSE.out.trans (show slotErr L.traits sl = 1 from if_pos (.inr (.inr (.inr (by unfold patB; rw [h5]; simp))))))
              go_wp2_with (first | (go_at_call 40; with_reducible refine (of_any sl.pre _ hpre).mono ?_; rintro e w' ⟨rfl, rfl⟩) | (go_at_call 40; with_reducible refine (of_any sl.add _ hadd).mono ?_; rintro e w' ⟨rfl, rfl⟩))
              go_ret
              exact ⟨ret_i (by rw [HE.out, errOf_at hlt HQ.out (by rw [HV.out, errOf_at hjt HJ.out (by rw [HS.out]; decide), HS.out]; decide), HV.out, errOf_at hjt HJ.out (by rw [HS.out]; decide), HS.out]), by repeat (first | exact HWY.out | apply below_drewN)⟩
            by_cases h6 : (6 : Int) < (sl.add.size : Int)
            · skip
              have HS := Lib.hid (HSE.out.trans (show slotErr L.traits sl = 1 from if_pos (.inr (.inr (.inr (by unfold patB; rw [decide_eq_false (by omega)]; rfl))))))
              go_wp2_with (first | (go_at_call 40; with_reducible refine (of_any sl.pre _ hpre).mono ?_; rintro e w' ⟨rfl, rfl⟩) | (go_at_call 40; with_reducible refine (of_any sl.add _ hadd).mono ?_; rintro e w' ⟨rfl, rfl⟩))
              go_ret
              exact ⟨ret_i (by rw [HE.out, errOf_at hlt HQ.out (by rw [HV.out, errOf_at hjt HJ.out (by rw [HS.out]; decide), HS.out]; decide), HV.out, errOf_at hjt HJ.out (by rw [HS.out]; decide), HS.out]), by repeat (first | exact HWY.out | apply below_drewN)⟩
            have HS := Lib.hid (HSE.out.trans (show slotErr L.traits sl = bundleErr L.traits sl.fs from if_neg (by unfold patB; rw [h3, h5, decide_eq_true (show sl.pre.size ≤ 6 by omega), decide_eq_true (show sl.add.size ≤ 6 by omega)]; simp; omega)))
            have x0 : (wq.alloc (.cells #[.int .i64 sl.cut, .string sl.pre, .string sl.add, .slice qf sl.fs.length cf] 69)).cell? ⟨w.heap.size, 0, none⟩ = some (.string L.vowels) := by rw [boxed_at w L HBY.out 0]; rfl
            have x1 : (wq.alloc (.cells #[.int .i64 sl.cut, .string sl.pre, .string sl.add, .slice qf sl.fs.length cf] 69)).cell? ⟨w.heap.size, 1, none⟩ = some (.slice p1 L.traits.length c1) := by rw [boxed_at w L HBY.out 1, e1]; rfl
            have x2 : (wq.alloc (.cells #[.int .i64 sl.cut, .string sl.pre, .string sl.add, .slice qf sl.fs.length cf] 69)).cell? ⟨w.heap.size, 2, none⟩ = some (.slice (some A) L.classes.length d2) := by rw [boxed_at w L HBY.out 2, e2]; rfl
            have x3 : (wq.alloc (.cells #[.int .i64 sl.cut, .string sl.pre, .string sl.add, .slice qf sl.fs.length cf] 69)).cell? ⟨w.heap.size, 3, none⟩ = some (.slice p3 L.entries.length c3) := by rw [boxed_at w L HBY.out 3, e3]; rfl
            have x4 : (wq.alloc (.cells #[.int .i64 sl.cut, .string sl.pre, .string sl.add, .slice qf sl.fs.length cf] 69)).cell? ⟨w.heap.size, 4, none⟩ = some (.slice p4 L.spells.length c4) := by rw [boxed_at w L HBY.out 4, e4]; rfl
            have x5 : (wq.alloc (.cells #[.int .i64 sl.cut, .string sl.pre, .string sl.add, .slice qf sl.fs.length cf] 69)).cell? ⟨w.heap.size, 5, none⟩ = some (.slice p5 L.links.length c5) := by rw [boxed_at w L HBY.out 5, e5]; rfl
            have HCB := Lib.hid (HVAL.out ▸ refBundle_any L sl.fs _ _ (HL.out.step HWY.out) (HFV.out ▸ reads_step (below_one wq (.cells #[.int .i64 sl.cut, .string sl.pre, .string sl.add, .slice qf sl.fs.length cf] 69)) HFR.out))
            by_cases hbe : bundleErr L.traits sl.fs = 0
            · have HZ := Lib.hid (HS.out.trans hbe)
              go_wp2_with (first | (go_at_call 40; with_reducible refine (of_any sl.pre _ hpre).mono ?_; rintro e w' ⟨rfl, rfl⟩) | (go_at_call 40; with_reducible refine (of_any sl.add _ hadd).mono ?_; rintro e w' ⟨rfl, rfl⟩) | (go_at_call 45; refine (HCB.out).mono ?_; rintro e w3 ⟨rfl, hb3⟩; have HW3 := Lib.hid (HWY.out.trans (hb3.mono HWY.out.size)); have HB3 := Lib.hid (HBY.out.trans (hb3.mono HBY.out.size)); have HQ3 := Lib.hid (HQY.out.trans (hb3.mono HQY.out.size)); clear hb3))
              go_roundw
              case rel => exact ⟨j + 1, by omega, by go_num, below_succ HJ.out HZ.out, by repeat (first | exact HQ3.out | apply below_drewN)⟩
              case measure => simp [intOf]; omega
            · have HNZ := Lib.hid hbe
              go_wp2_with (first | (go_at_call 40; with_reducible refine (of_any sl.pre _ hpre).mono ?_; rintro e w' ⟨rfl, rfl⟩) | (go_at_call 40; with_reducible refine (of_any sl.add _ hadd).mono ?_; rintro e w' ⟨rfl, rfl⟩) | (go_at_call 45; refine (HCB.out).mono ?_; rintro e w3 ⟨rfl, hb3⟩; have HW3 := Lib.hid (HWY.out.trans (hb3.mono HWY.out.size)); have HB3 := Lib.hid (HBY.out.trans (hb3.mono HBY.out.size)); have HQ3 := Lib.hid (HQY.out.trans (hb3.mono HQY.out.size)); clear hb3))
              go_ret
              exact ⟨ret_i (by rw [HE.out, errOf_at hlt HQ.out (by rw [HV.out, errOf_at hjt HJ.out (by rw [HS.out]; exact HNZ.out), HS.out]; exact HNZ.out), HV.out, errOf_at hjt HJ.out (by rw [HS.out]; exact HNZ.out), HS.out]), by repeat (first | exact HW3.out | apply below_drewN)⟩
          · go_wp2
            go_roundw
            case rel => exact ⟨k + 1, by omega, by go_num, below_succ HQ.out (by rw [HV.out]; exact errOf_none fun i hi => HJ.out i (by omega)), by repeat (first | exact HBB.out | apply below_drewN)⟩
            case measure => simp [intOf]; omega
    · go_wp2
      go_ret
      exact ⟨ret_i (by rw [HE.out, errOf_none fun j hj => HQ.out j (by omega)]), HW.out⟩
end Go.Proofs.YtgddmegjncbndaaGreatDoor
