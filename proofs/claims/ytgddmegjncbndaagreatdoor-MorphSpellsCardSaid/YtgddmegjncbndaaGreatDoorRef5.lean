/- The specification's check of entries. -/
import Derived.Test.YtgddmegjncbndaaGreatDoorRef4
namespace Go.Proofs.YtgddmegjncbndaaGreatDoor
open Go Go.RowKit
set_option maxRecDepth 100000 in
set_option maxHeartbeats 16000000 in
theorem refEntries_any (L : Lex) (w : World) (hL : LexAt w L) (hS : ∀ c ∈ L.classes, ∀ s ∈ c.slots, s.fs.length ≤ 100) :
    Calls Tryz.prog 43 #[L.val] w fun e w' => e = .returned (.int .u8 (entriesErr L.traits L.classes L.entries)) ∧ Below w.heap.size w w' := by
  have HSH := Lib.hid hS; clear hS
  obtain ⟨p1, c1, p2, c2, p3, c3, p4, c4, p5, c5, e1, e2, e3, e4, e5, hc1, hm1, hc2, hm2, hc3, hm3, hc4, hm4, hc5, hm5⟩ := lex_forms hL
  have HL := Lib.hid hL; clear hL
  have hval : L.val = .agg #[.string L.vowels, .slice p1 L.traits.length c1, .slice p2 L.classes.length c2, .slice p3 L.entries.length c3, .slice p4 L.spells.length c4, .slice p5 L.links.length c5] := by unfold Lex.val; rw [e1, e2, e3, e4, e5]
  have HVAL := Lib.hid hval
  have HO := Lib.hid (show boxed L = .cells #[.string L.vowels, .slice p1 L.traits.length c1, .slice p2 L.classes.length c2, .slice p3 L.entries.length c3, .slice p4 L.spells.length c4, .slice p5 L.links.length c5] 28 by unfold boxed; rw [e1, e2, e3, e4, e5])
  rw [hval]
  clear hval
  have ag := Tryz.isAgg28
  have zg := Tryz.sizeOf28
  unfold maxLen at hm1 hm2 hm3
  have age := Tryz.isAgg72
  have zge := Tryz.sizeOf72
  have agc := Tryz.isAgg67
  have zgc := Tryz.sizeOf67
  have ags := Tryz.isAgg69
  have zgs := Tryz.sizeOf69
  have agi := Tryz.isAgg74
  have zgi := Tryz.sizeOf74
  by_cases h8 : (128 : Int) < (L.entries.length : Int)
  · go_enter Tryz.func43, Tryz.ntmps43
    go_wp2
    go_ret
    exact ⟨ret_i (by unfold entriesErr; rw [if_pos (by omega)]), below_one _ _⟩
  have HE : Hid (entriesErr L.traits L.classes L.entries = errOf L.entries.length (entryErr L.traits L.classes L.entries)) := Lib.hid (by unfold entriesErr; rw [if_neg (by omega)])
  go_enter Tryz.func43, Tryz.ntmps43
  go_wp2
  go_loopw [3] (fun i wr => ∃ k : Nat, k ≤ L.entries.length ∧ i = .int .i64 k ∧ (∀ j, j < k → entryErr L.traits L.classes L.entries j = 0) ∧ Below (w.alloc (boxed L)).heap.size (w.alloc (boxed L)) wr) (fun i _ => L.entries.length - (intOf i).toNat)
  case atStart => exact ⟨0, by omega, rfl, fun i h => by omega, by rw [HO.out]; exact Below.refl _ _⟩
  case round =>
    obtain ⟨k, hk, rfl, hq, hB⟩ := hrel
    have HQ := Lib.hid hq; clear hq
    have HB := Lib.hid hB; clear hB
    rename World => wr
    have HW := Lib.hid ((below_one w (boxed L)).trans (HB.out.mono (by simp)))
    have b3 : wr.cell? ⟨w.heap.size, 3, none⟩ = some (.slice p3 L.entries.length c3) := by rw [boxed_at w L HB.out 3, e3]; rfl
    by_cases hlt : k < L.entries.length
    · have hrow0 := HL.out.ents.1
      rw [e3] at hrow0
      obtain ⟨_, _, es, _, _, hrow⟩ := hrow0
      cases es
      obtain ⟨A, rfl, hA, hcell⟩ := hrow (by omega)
      obtain ⟨hfr, hir, hlem, hcls, hwd⟩ := HL.out.ents.2 L.entries[k] (List.getElem_mem _)
      obtain ⟨q1, d1, hfv, _, _, _⟩ := open_row hfr
      obtain ⟨q2, d2, hmv, hd2, hmd2⟩ := hir.form
      have HCELL := Lib.hid (show ∀ i j, i < L.entries.length → j < 4 → w.cell? (A.add (i * 4 + j)) = some (entF L.entries i j) from hcell)
      have HAB := Lib.hid hA
      have HFV := Lib.hid hfv; clear hfv
      have HMV := Lib.hid hmv; clear hmv
      have t0 : wr.cell? (A.add (k * 4)) = some (.string L.entries[k].lem) := by
        rw [HW.out.cell (p := A.add (k * 4)) (by rw [add_block]; exact hA)]
        have := hcell k 0 hlt (by omega)
        simpa [entF, hlt] using this
      have t1 : wr.cell? { block := (A.add (k * 4)).block, off := (A.add (k * 4)).off + 1 } = some (.string L.entries[k].cls) := by
        rw [HW.out.cell (p := ⟨(A.add (k * 4)).block, (A.add (k * 4)).off + 1, none⟩) (by show (A.add (k * 4)).block < _; rw [add_block]; exact hA)]
        have := cell_at 1 (by omega) (hcell k 1 hlt (by omega))
        simpa [entF, hlt] using this
      have t2 : wr.cell? { block := (A.add (k * 4)).block, off := (A.add (k * 4)).off + 2 } = some (.slice q1 L.entries[k].fs.length d1) := by
        rw [HW.out.cell (p := ⟨(A.add (k * 4)).block, (A.add (k * 4)).off + 2, none⟩) (by show (A.add (k * 4)).block < _; rw [add_block]; exact hA)]
        have := cell_at 2 (by omega) (hcell k 2 hlt (by omega))
        simpa [entF, hlt, HFV.out] using this
      have t3 : wr.cell? { block := (A.add (k * 4)).block, off := (A.add (k * 4)).off + 3 } = some (.slice q2 L.entries[k].forms.length d2) := by
        rw [HW.out.cell (p := ⟨(A.add (k * 4)).block, (A.add (k * 4)).off + 3, none⟩) (by show (A.add (k * 4)).block < _; rw [add_block]; exact hA)]
        have := cell_at 3 (by omega) (hcell k 3 hlt (by omega))
        simpa [entF, hlt, HMV.out] using this
      have hws : w.heap.size < wr.heap.size := by have := HB.out.size; simp at this; omega
      have hwn : w.heap.size ≠ wr.heap.size := by omega
      have HFR := Lib.hid hfr; clear hfr
      have HIR := Lib.hid hir; clear hir
      have HWD := Lib.hid hwd; clear hwd
      clear hcell hrow
      have hxw : Below (w.alloc (boxed L)).heap.size (w.alloc (boxed L)) (wr.alloc (.cells #[.string L.entries[k].lem, .string L.entries[k].cls, .slice q1 L.entries[k].fs.length d1, .slice q2 L.entries[k].forms.length d2] 72)) := HB.out.alloc HB.out.size _
      have HBX := Lib.hid hxw; clear hxw
      have HWX := Lib.hid (HW.out.alloc HW.out.size (.cells #[.string L.entries[k].lem, .string L.entries[k].cls, .slice q1 L.entries[k].fs.length d1, .slice q2 L.entries[k].forms.length d2] 72))
      cases hpl : plainB L.entries[k].lem
      · have HX := Lib.hid ((entryErr_at (T := L.traits) (C := L.classes) hlt).trans (if_pos hpl))
        go_wp2_with (go_at_call 83; refine (refPlain_any _ _ hlem).mono ?_; rintro e w' ⟨rfl, rfl⟩)
        go_ret
        exact ⟨ret_i (by rw [HE.out, errOf_at hlt HQ.out (by rw [HX.out]; decide), HX.out]), HWX.out⟩
      have x0 : (wr.alloc (.cells #[.string L.entries[k].lem, .string L.entries[k].cls, .slice q1 L.entries[k].fs.length d1, .slice q2 L.entries[k].forms.length d2] 72)).cell? ⟨w.heap.size, 0, none⟩ = some (.string L.vowels) := by rw [boxed_at w L HBX.out 0]; rfl
      have x1 : (wr.alloc (.cells #[.string L.entries[k].lem, .string L.entries[k].cls, .slice q1 L.entries[k].fs.length d1, .slice q2 L.entries[k].forms.length d2] 72)).cell? ⟨w.heap.size, 1, none⟩ = some (.slice p1 L.traits.length c1) := by rw [boxed_at w L HBX.out 1, e1]; rfl
      have x2 : (wr.alloc (.cells #[.string L.entries[k].lem, .string L.entries[k].cls, .slice q1 L.entries[k].fs.length d1, .slice q2 L.entries[k].forms.length d2] 72)).cell? ⟨w.heap.size, 2, none⟩ = some (.slice p2 L.classes.length c2) := by rw [boxed_at w L HBX.out 2, e2]; rfl
      have x3 : (wr.alloc (.cells #[.string L.entries[k].lem, .string L.entries[k].cls, .slice q1 L.entries[k].fs.length d1, .slice q2 L.entries[k].forms.length d2] 72)).cell? ⟨w.heap.size, 3, none⟩ = some (.slice (some A) L.entries.length c3) := by rw [boxed_at w L HBX.out 3, e3]; rfl
      have x4 : (wr.alloc (.cells #[.string L.entries[k].lem, .string L.entries[k].cls, .slice q1 L.entries[k].fs.length d1, .slice q2 L.entries[k].forms.length d2] 72)).cell? ⟨w.heap.size, 4, none⟩ = some (.slice p4 L.spells.length c4) := by rw [boxed_at w L HBX.out 4, e4]; rfl
      have x5 : (wr.alloc (.cells #[.string L.entries[k].lem, .string L.entries[k].cls, .slice q1 L.entries[k].fs.length d1, .slice q2 L.entries[k].forms.length d2] 72)).cell? ⟨w.heap.size, 5, none⟩ = some (.slice p5 L.links.length c5) := by rw [boxed_at w L HBX.out 5, e5]; rfl
      have y0 : (wr.alloc (.cells #[.string L.entries[k].lem, .string L.entries[k].cls, .slice q1 L.entries[k].fs.length d1, .slice q2 L.entries[k].forms.length d2] 72)).cell? ⟨wr.heap.size, 0, none⟩ = some (.string L.entries[k].lem) := by rw [World.cell?_alloc_new]; rfl
      have y1 : (wr.alloc (.cells #[.string L.entries[k].lem, .string L.entries[k].cls, .slice q1 L.entries[k].fs.length d1, .slice q2 L.entries[k].forms.length d2] 72)).cell? ⟨wr.heap.size, 1, none⟩ = some (.string L.entries[k].cls) := by rw [World.cell?_alloc_new]; rfl
      have y2 : (wr.alloc (.cells #[.string L.entries[k].lem, .string L.entries[k].cls, .slice q1 L.entries[k].fs.length d1, .slice q2 L.entries[k].forms.length d2] 72)).cell? ⟨wr.heap.size, 2, none⟩ = some (.slice q1 L.entries[k].fs.length d1) := by rw [World.cell?_alloc_new]; rfl
      have y3 : (wr.alloc (.cells #[.string L.entries[k].lem, .string L.entries[k].cls, .slice q1 L.entries[k].fs.length d1, .slice q2 L.entries[k].forms.length d2] 72)).cell? ⟨wr.heap.size, 3, none⟩ = some (.slice q2 L.entries[k].forms.length d2) := by rw [World.cell?_alloc_new]; rfl
      have HCL := Lib.hid (HVAL.out ▸ refClass_any L L.entries[k].cls _ (HL.out.step HWX.out))
      rcases idxOf_cases L.classes.length (claQ L.classes L.entries[k].cls) with ⟨hneg, _⟩ | ⟨ci, hci, _, _, heq⟩
      · have HI : Hid (classIdx L.classes L.classes.length L.entries[k].cls = -1) := Lib.hid hneg
        clear hneg
        have HX := Lib.hid ((entryErr_at (T := L.traits) (C := L.classes) hlt).trans ((if_neg (by rw [hpl]; simp)).trans (if_pos (by rw [HI.out]; decide))))
        go_wp2_with (first | (go_at_call 83; refine (refPlain_any _ _ hlem).mono ?_; rintro e w' ⟨rfl, rfl⟩) | (go_at_call 44; refine (HCL.out).mono ?_; rintro e w2 ⟨he, hb2⟩; rw [HI.out] at he; subst he; have HB2 := Lib.hid (HBX.out.trans (hb2.mono HBX.out.size)); have HW2 := Lib.hid (HWX.out.trans (hb2.mono HWX.out.size)); have HL2 := Lib.hid hb2; clear hb2))
        go_ret
        exact ⟨ret_i (by rw [HE.out, errOf_at hlt HQ.out (by rw [HX.out]; decide), HX.out]), HW2.out⟩
      have HI : Hid (classIdx L.classes L.classes.length L.entries[k].cls = (ci : Int)) := Lib.hid heq
      clear heq
      have HF := Lib.hid (entryErr_in (T := L.traits) hlt hci HI.out hpl)
      have hci2 : (0 : Int) ≤ (ci : Int) := by omega
      have hci0 : ¬ ((ci : Int) < 0) := by omega
      have hci1 : (ci : Int) < (L.classes.length : Int) := by omega
      go_wp2_with (first | (go_at_call 83; refine (refPlain_any _ _ hlem).mono ?_; rintro e w' ⟨rfl, rfl⟩) | (go_at_call 44; refine (HCL.out).mono ?_; rintro e w2 ⟨he, hb2⟩; rw [HI.out] at he; subst he; have HB2 := Lib.hid (HBX.out.trans (hb2.mono HBX.out.size)); have HW2 := Lib.hid (HWX.out.trans (hb2.mono HWX.out.size)); have HL2 := Lib.hid hb2; clear hb2))
      clear x0 x1 x2 x3 x4 x5 y0 y1 y2 y3 t0 t1 t2 t3 b3
      go_loopw [6] (fun i wq => ∃ j : Nat, j ≤ k ∧ i = .int .i64 j ∧ (∀ m, m < j → entQ L.entries L.entries[k].lem L.entries[k].cls m = false) ∧ Below w2.heap.size w2 wq) (fun i _ => k - (intOf i).toNat)
      case atStart => exact ⟨0, by omega, rfl, fun i h => by omega, Below.refl _ _⟩
      case round =>
        obtain ⟨j, hj, rfl, hqj, hbq⟩ := hrel
        have HJ := Lib.hid hqj; clear hqj
        rename World => wq
        have HBQ := Lib.hid hbq; clear hbq
        have HWQ := Lib.hid (HW2.out.trans (HBQ.out.mono HW2.out.size))
        have HBB := Lib.hid (HB2.out.trans (HBQ.out.mono HB2.out.size))
        have HLQ := Lib.hid (HL2.out.trans (HBQ.out.mono HL2.out.size))
        have x0 : wq.cell? ⟨w.heap.size, 0, none⟩ = some (.string L.vowels) := by rw [boxed_at w L HBB.out 0]; rfl
        have x1 : wq.cell? ⟨w.heap.size, 1, none⟩ = some (.slice p1 L.traits.length c1) := by rw [boxed_at w L HBB.out 1, e1]; rfl
        have x2 : wq.cell? ⟨w.heap.size, 2, none⟩ = some (.slice p2 L.classes.length c2) := by rw [boxed_at w L HBB.out 2, e2]; rfl
        have x3 : wq.cell? ⟨w.heap.size, 3, none⟩ = some (.slice (some A) L.entries.length c3) := by rw [boxed_at w L HBB.out 3, e3]; rfl
        have x4 : wq.cell? ⟨w.heap.size, 4, none⟩ = some (.slice p4 L.spells.length c4) := by rw [boxed_at w L HBB.out 4, e4]; rfl
        have x5 : wq.cell? ⟨w.heap.size, 5, none⟩ = some (.slice p5 L.links.length c5) := by rw [boxed_at w L HBB.out 5, e5]; rfl
        have y0 : wq.cell? ⟨wr.heap.size, 0, none⟩ = some (.string L.entries[k].lem) := by rw [local_at HLQ.out 0]; rfl
        have y1 : wq.cell? ⟨wr.heap.size, 1, none⟩ = some (.string L.entries[k].cls) := by rw [local_at HLQ.out 1]; rfl
        have y2 : wq.cell? ⟨wr.heap.size, 2, none⟩ = some (.slice q1 L.entries[k].fs.length d1) := by rw [local_at HLQ.out 2]; rfl
        have y3 : wq.cell? ⟨wr.heap.size, 3, none⟩ = some (.slice q2 L.entries[k].forms.length d2) := by rw [local_at HLQ.out 3]; rfl
        by_cases hjt : j < k
        · have hjE : j < L.entries.length := by omega
          have v0 : wq.cell? (A.add (j * 4)) = some (.string L.entries[j].lem) := by
            rw [HWQ.out.cell (p := A.add (j * 4)) (by rw [add_block]; exact HAB.out)]
            have := HCELL.out j 0 hjE (by omega)
            simpa [entF, hjE] using this
          have v1 : wq.cell? { block := (A.add (j * 4)).block, off := (A.add (j * 4)).off + 1 } = some (.string L.entries[j].cls) := by
            rw [HWQ.out.cell (p := ⟨(A.add (j * 4)).block, (A.add (j * 4)).off + 1, none⟩) (by show (A.add (j * 4)).block < _; rw [add_block]; exact HAB.out)]
            have := cell_at 1 (by omega) (HCELL.out j 1 hjE (by omega))
            simpa [entF, hjE] using this
          cases hx : (L.entries[j].lem.toList == L.entries[k].lem.toList) <;> cases hy : (L.entries[j].cls.toList == L.entries[k].cls.toList)
          · have HX := Lib.hid (entQ_at (s := L.entries[k].lem) (c := L.entries[k].cls) (b := false) hjE (by rw [hx, hy]; rfl))
            go_wp2
            go_quiet (fail)
            go_wp2
            go_roundw
            case rel => exact ⟨j + 1, by omega, by go_num, none_succ' HJ.out HX.out, by repeat (first | exact HBQ.out | apply below_drewN)⟩
            case measure => simp [intOf]; omega
          · have HX := Lib.hid (entQ_at (s := L.entries[k].lem) (c := L.entries[k].cls) (b := false) hjE (by rw [hx, hy]; rfl))
            go_wp2
            go_quiet (fail)
            go_wp2
            go_roundw
            case rel => exact ⟨j + 1, by omega, by go_num, none_succ' HJ.out HX.out, by repeat (first | exact HBQ.out | apply below_drewN)⟩
            case measure => simp [intOf]; omega
          · have HX := Lib.hid (entQ_at (s := L.entries[k].lem) (c := L.entries[k].cls) (b := false) hjE (by rw [hx, hy]; rfl))
            go_wp2
            go_quiet (fail)
            go_wp2
            go_roundw
            case rel => exact ⟨j + 1, by omega, by go_num, none_succ' HJ.out HX.out, by repeat (first | exact HBQ.out | apply below_drewN)⟩
            case measure => simp [intOf]; omega
          · have HX := Lib.hid (entQ_at (s := L.entries[k].lem) (c := L.entries[k].cls) (b := true) hjE (by rw [hx, hy]; rfl))
            have HY := Lib.hid (HF.out.trans (if_pos (show 0 ≤ entIdx L.entries k L.entries[k].lem L.entries[k].cls by
              unfold entIdx; rw [idxOf_at hjt HJ.out HX.out]; omega)))
            go_wp2
            go_quiet (fail)
            go_wp2
            go_ret
            exact ⟨ret_i (by rw [HE.out, errOf_at hlt HQ.out (by rw [HY.out]; decide), HY.out]), by repeat (first | exact HWQ.out | apply below_drewN)⟩
        · have HF2 := Lib.hid (HF.out.trans (if_neg (show ¬ 0 ≤ entIdx L.entries k L.entries[k].lem L.entries[k].cls by
            unfold entIdx; rw [idxOf_none fun m hm => HJ.out m (by omega)]; decide)))
          have HCB := Lib.hid (HVAL.out ▸ refBundle_any L L.entries[k].fs _ wq (HL.out.step HWQ.out) (HFV.out ▸ reads_step HWQ.out HFR.out))
          by_cases hbe : bundleErr L.traits L.entries[k].fs = 0
          · have HF3 := Lib.hid (HF2.out.trans (if_neg (by rw [hbe]; simp))); clear HF2
            have hshort := bundle_short hbe
            obtain ⟨pc, cc, ec, _, _, hrowC⟩ := HL.out.clas.1
            rw [e2] at ec
            cases ec
            obtain ⟨CA, rfl, hbC, hcellC⟩ := hrowC (by omega)
            obtain ⟨⟨hsl4, hslr⟩, _⟩ := HL.out.clas.2 L.classes[ci] (List.getElem_mem _)
            obtain ⟨pS, cS, hsv, hcS, hmS⟩ := hsl4.form
            have c1' : wq.cell? { block := (CA.add (ci * 2)).block, off := (CA.add (ci * 2)).off + 1 } = some (.slice pS L.classes[ci].slots.length cS) := by
              rw [HWQ.out.cell (p := ⟨(CA.add (ci * 2)).block, (CA.add (ci * 2)).off + 1, none⟩) (by show (CA.add (ci * 2)).block < _; rw [add_block]; exact hbC)]
              have := cell_next (hcellC ci 1 hci (by omega))
              simpa [claF, hci, hsv] using this
            have HC1 := Lib.hid c1'; clear c1'
            have HCB0 := Lib.hid (show (CA.add (ci * 2)).block < wq.heap.size by rw [add_block]; have := HWQ.out.size; omega)
            have HS4 := Lib.hid (hsv ▸ hsl4)
            have HSR := Lib.hid (show ∀ s ∈ L.classes[ci].slots, ReadsIn w.heap.size w s.fv s.fs ∧ s.fs.length ≤ 100 from fun s hs => ⟨(hslr s hs).1, HSH.out _ (List.getElem_mem _) s hs⟩)
            clear hrowC hcellC hsl4 hslr hsv
            generalize hSL : L.classes[ci].slots = SL at *
            clear hSL
            unfold maxLen at hmS hmd2
            go_wp2_with (go_at_call 45; refine (HCB.out).mono ?_; rintro e w3 ⟨he, hb3⟩; rw [hbe] at he; subst he; have HW3 := Lib.hid (HWQ.out.trans (hb3.mono HWQ.out.size)); have HB3 := Lib.hid (HBB.out.trans (hb3.mono HBB.out.size)); have HL3 := Lib.hid (HLQ.out.trans (hb3.mono HLQ.out.size)); have s2 := (show w3.cell? ⟨w.heap.size, 2, none⟩ = some (.slice (some CA) L.classes.length c2) by rw [boxed_at w L HB3.out 2, e2]; rfl); have s3 := (show w3.cell? { block := (CA.add (ci * 2)).block, off := (CA.add (ci * 2)).off + 1 } = some (.slice pS SL.length cS) by rw [hb3.cell (p := ⟨(CA.add (ci * 2)).block, (CA.add (ci * 2)).off + 1, none⟩) HCB0.out]; exact HC1.out); clear hb3)
            clear s2 s3
            clear x0 x1 x2 x3 x4 x5 y0 y1 y2 y3
            go_loopw [9] (fun i wu => ∃ m : Nat, m ≤ SL.length ∧ i = .int .i64 m ∧ (∀ n, n < m → sloQ L.entries[k].fs SL n = false) ∧ Below w3.heap.size w3 wu) (fun i _ => SL.length - (intOf i).toNat)
            case atStart => exact ⟨0, by omega, rfl, fun i h => by omega, Below.refl _ _⟩
            case round =>
              obtain ⟨m, hm, rfl, hqm, hbu⟩ := hrel
              have HM := Lib.hid hqm; clear hqm
              rename World => wu
              have HBU := Lib.hid hbu; clear hbu
              have HWU := Lib.hid (HW3.out.trans (HBU.out.mono HW3.out.size))
              have HBB2 := Lib.hid (HB3.out.trans (HBU.out.mono HB3.out.size))
              have HLU := Lib.hid (HL3.out.trans (HBU.out.mono HL3.out.size))
              have y0 : wu.cell? ⟨wr.heap.size, 0, none⟩ = some (.string L.entries[k].lem) := by rw [local_at HLU.out 0]; rfl
              have y1 : wu.cell? ⟨wr.heap.size, 1, none⟩ = some (.string L.entries[k].cls) := by rw [local_at HLU.out 1]; rfl
              have y2 : wu.cell? ⟨wr.heap.size, 2, none⟩ = some (.slice q1 L.entries[k].fs.length d1) := by rw [local_at HLU.out 2]; rfl
              have y3 : wu.cell? ⟨wr.heap.size, 3, none⟩ = some (.slice q2 L.entries[k].forms.length d2) := by rw [local_at HLU.out 3]; rfl
              by_cases hmt : m < SL.length
              · obtain ⟨_, _, eS, _, _, hrowS⟩ := HS4.out
                cases eS
                obtain ⟨SA, rfl, hSA, hcellS⟩ := hrowS (by omega)
                obtain ⟨hsr, hsl⟩ := HSR.out SL[m] (List.getElem_mem _)
                obtain ⟨qs, cs, hsfv, _, _, _⟩ := open_row hsr
                have u3 : wu.cell? { block := (SA.add (m * 4)).block, off := (SA.add (m * 4)).off + 3 } = some (.slice qs SL[m].fs.length cs) := by
                  rw [HWU.out.cell (p := ⟨(SA.add (m * 4)).block, (SA.add (m * 4)).off + 3, none⟩) (by show (SA.add (m * 4)).block < _; rw [add_block]; exact hSA)]
                  have := cell_at 3 (by omega) (hcellS m 3 hmt (by omega))
                  simpa [sloF, hmt, hsfv] using this
                clear hcellS hrowS
                have HWV := Lib.hid (show Below w.heap.size w wu.drew from below_drewN 1 HWU.out)
                have HBV := Lib.hid (show Below w3.heap.size w3 wu.drew from below_drewN 1 HBU.out)
                have HRU := Lib.hid (refUnify_any (.slice q1 L.entries[k].fs.length d1) (.slice qs SL[m].fs.length cs) L.entries[k].fs SL[m].fs wu.drew (by omega) hsl (HFV.out ▸ reads_step HWV.out HFR.out) (hsfv ▸ reads_step HWV.out hsr))
                have HR4 := Lib.hid (show wr.heap.size < wu.heap.size by have := HLU.out.size; simp at this; omega)
                have HS4B := Lib.hid (show (SA.add (m * 4)).block < wu.heap.size by rw [add_block]; have := HWU.out.size; omega)
                clear hsfv hsr
                cases hun : unify L.entries[k].fs SL[m].fs with
                | none =>
                  have HN := Lib.hid hun
                  have HX := Lib.hid (sloQ_at (f := L.entries[k].fs) (b := true) hmt (by rw [hun]; rfl))
                  have HY := Lib.hid (HF3.out.trans (if_pos (show 0 ≤ sloIdx L.entries[k].fs SL by unfold sloIdx; rw [idxOf_at hmt HM.out HX.out]; omega)))
                  go_wp2
                  go_region_held3 (fun w' => w'.cell? ⟨wr.heap.size, 2, none⟩ = some (.slice q1 L.entries[k].fs.length d1) ∧ w'.cell? { block := (SA.add (m * 4)).block, off := (SA.add (m * 4)).off + 3 } = some (.slice qs SL[m].fs.length cs))
                    (first
                      | go_keep
                      | (refine ⟨?_, ?_⟩
                         · (rw [hb4.cell (p := ⟨wr.heap.size, 2, none⟩) HR4.out]; assumption)
                         · (rw [hb4.cell (p := ⟨(SA.add (m * 4)).block, (SA.add (m * 4)).off + 3, none⟩) HS4B.out]; assumption)))
                    ((go_simp; go_at_call 54; refine (HRU.out).mono ?_; rintro e w4 ⟨hb4, ⟨_, rfl⟩ | ⟨r, v4, h1, _, _⟩⟩; rotate_left; exact absurd (HN.out.symm.trans h1) (by simp)))
                  have HW4 := Lib.hid (HWV.out.trans (hb4.mono HWV.out.size))
                  go_wp2
                  go_ret
                  exact ⟨ret_i (by rw [HE.out, errOf_at hlt HQ.out (by rw [HY.out]; decide), HY.out]), HW4.out⟩
                | some r0 =>
                  have HN := Lib.hid hun
                  have HX := Lib.hid (sloQ_at (f := L.entries[k].fs) (b := false) hmt (by rw [hun]; rfl))
                  go_wp2
                  go_region_held3 (fun w' => w'.cell? ⟨wr.heap.size, 2, none⟩ = some (.slice q1 L.entries[k].fs.length d1) ∧ w'.cell? { block := (SA.add (m * 4)).block, off := (SA.add (m * 4)).off + 3 } = some (.slice qs SL[m].fs.length cs))
                    (first
                      | go_keep
                      | (refine ⟨?_, ?_⟩
                         · (rw [hb4.cell (p := ⟨wr.heap.size, 2, none⟩) HR4.out]; assumption)
                         · (rw [hb4.cell (p := ⟨(SA.add (m * 4)).block, (SA.add (m * 4)).off + 3, none⟩) HS4B.out]; assumption)))
                    ((go_simp; go_at_call 54; refine (HRU.out).mono ?_; rintro e w4 ⟨hb4, ⟨h1, _⟩ | ⟨r, v4, h1, rfl, _⟩⟩; exact absurd (HN.out.symm.trans h1) (by simp)))
                  have HB4 := Lib.hid (HBV.out.trans (hb4.mono HBV.out.size))
                  go_wp2
                  go_roundw
                  case rel => exact ⟨m + 1, by omega, by go_num, none_succ' HM.out HX.out, HB4.out⟩
                  case measure => simp [intOf]; omega
              · have HF4 := Lib.hid (HF3.out.trans (if_neg (show ¬ 0 ≤ sloIdx L.entries[k].fs SL by unfold sloIdx; rw [idxOf_none fun n hn => HM.out n (by omega)]; decide)))
                clear y0 y1 y2 y3
                go_wp2
                go_loopw [12] (fun i wf => ∃ m : Nat, m ≤ L.entries[k].forms.length ∧ i = .int .i64 m ∧ (∀ n, n < m → irregErr L.entries[k].forms SL.length n = 0) ∧ Below wu.heap.size wu wf) (fun i _ => L.entries[k].forms.length - (intOf i).toNat)
                case atStart => exact ⟨0, by omega, rfl, fun i h => by omega, Below.refl _ _⟩
                case round =>
                  obtain ⟨m2, hm2', rfl, hqm2, hbf⟩ := hrel
                  have HM2 := Lib.hid hqm2; clear hqm2
                  rename World => wf
                  have HBF := Lib.hid hbf; clear hbf
                  have HWF := Lib.hid (HWU.out.trans (HBF.out.mono HWU.out.size))
                  have HBB3 := Lib.hid (HBB2.out.trans (HBF.out.mono HBB2.out.size))
                  have HLF := Lib.hid (HLU.out.trans (HBF.out.mono HLU.out.size))
                  have y3 : wf.cell? ⟨wr.heap.size, 3, none⟩ = some (.slice q2 L.entries[k].forms.length d2) := by rw [local_at HLF.out 3]; rfl
                  by_cases hmt2 : m2 < L.entries[k].forms.length
                  · obtain ⟨_, _, eI, _, _, hrowI⟩ := (HMV.out ▸ HIR.out)
                    cases eI
                    obtain ⟨IA, rfl, hIA, hcellI⟩ := hrowI (by omega)
                    have HCI := Lib.hid (show ∀ i j, i < L.entries[k].forms.length → j < 2 → w.cell? (IA.add (i * 2 + j)) = some (irrF L.entries[k].forms i j) from hcellI)
                    have HIA := Lib.hid hIA; clear hIA hcellI hrowI
                    have i0 : wf.cell? (IA.add (m2 * 2)) = some (.int .i64 L.entries[k].forms[m2].slot) := by
                      rw [HWF.out.cell (p := IA.add (m2 * 2)) (by rw [add_block]; exact HIA.out)]
                      have := HCI.out m2 0 hmt2 (by omega)
                      simpa [irrF, hmt2] using this
                    have i1 : wf.cell? { block := (IA.add (m2 * 2)).block, off := (IA.add (m2 * 2)).off + 1 } = some (.string L.entries[k].forms[m2].word) := by
                      rw [HWF.out.cell (p := ⟨(IA.add (m2 * 2)).block, (IA.add (m2 * 2)).off + 1, none⟩) (by show (IA.add (m2 * 2)).block < _; rw [add_block]; exact HIA.out)]
                      have := cell_at 1 (by omega) (HCI.out m2 1 hmt2 (by omega))
                      simpa [irrF, hmt2] using this
                    have HWA := Lib.hid (HWF.out.alloc HWF.out.size (.cells #[.int .i64 L.entries[k].forms[m2].slot, .string L.entries[k].forms[m2].word] 74))
                    have HUA := Lib.hid (HBF.out.alloc HBF.out.size (.cells #[.int .i64 L.entries[k].forms[m2].slot, .string L.entries[k].forms[m2].word] 74))
                    have HIE := Lib.hid (irregErr_at (n := SL.length) hmt2)
                    have hwd2 := HWD.out L.entries[k].forms[m2] (List.getElem_mem _)
                    by_cases hs1 : L.entries[k].forms[m2].slot < 0
                    · have HX := Lib.hid (HIE.out.trans (if_pos (.inl hs1)))
                      go_wp2
                      go_ret
                      exact ⟨ret_i (by have hE1 := HF4.out.trans (show irregsErr L.entries[k].forms SL.length = irregErr L.entries[k].forms SL.length m2 from errOf_at hmt2 HM2.out (by rw [HX.out]; decide)); rw [HX.out] at hE1; rw [HE.out, errOf_at hlt HQ.out (by rw [hE1]; decide), hE1]), HWA.out⟩
                    by_cases hs2 : (SL.length : Int) ≤ L.entries[k].forms[m2].slot
                    · have HX := Lib.hid (HIE.out.trans (if_pos (.inr hs2)))
                      go_wp2
                      go_ret
                      exact ⟨ret_i (by have hE1 := HF4.out.trans (show irregsErr L.entries[k].forms SL.length = irregErr L.entries[k].forms SL.length m2 from errOf_at hmt2 HM2.out (by rw [HX.out]; decide)); rw [HX.out] at hE1; rw [HE.out, errOf_at hlt HQ.out (by rw [hE1]; decide), hE1]), HWA.out⟩
                    have HX1 := Lib.hid (HIE.out.trans (if_neg (show ¬ (L.entries[k].forms[m2].slot < 0 ∨ (SL.length : Int) ≤ L.entries[k].forms[m2].slot) by omega)))
                    have HLA := Lib.hid (HLF.out.alloc HLF.out.size (.cells #[.int .i64 L.entries[k].forms[m2].slot, .string L.entries[k].forms[m2].word] 74))
                    have HBA := Lib.hid (HBB3.out.alloc HBB3.out.size (.cells #[.int .i64 L.entries[k].forms[m2].slot, .string L.entries[k].forms[m2].word] 74))
                    go_wp2
                    clear y3 i0 i1
                    go_loopw [14] (fun i wg => ∃ q : Nat, q ≤ m2 ∧ i = .int .i64 q ∧ (∀ n, n < q → irrQ L.entries[k].forms L.entries[k].forms[m2].slot n = false) ∧ Below (wf.alloc (.cells #[.int .i64 L.entries[k].forms[m2].slot, .string L.entries[k].forms[m2].word] 74)).heap.size (wf.alloc (.cells #[.int .i64 L.entries[k].forms[m2].slot, .string L.entries[k].forms[m2].word] 74)) wg) (fun i _ => m2 - (intOf i).toNat)
                    case atStart => exact ⟨0, by omega, rfl, fun i h => by omega, Below.refl _ _⟩
                    case round =>
                      obtain ⟨q, hq', rfl, hqq, hbg⟩ := hrel
                      have HQQ := Lib.hid hqq; clear hqq
                      rename World => wg
                      have HBG := Lib.hid hbg; clear hbg
                      have HWG := Lib.hid (HWA.out.trans (HBG.out.mono HWA.out.size))
                      have HUG := Lib.hid (HUA.out.trans (HBG.out.mono HUA.out.size))
                      have HLG := Lib.hid (HLA.out.trans (HBG.out.mono HLA.out.size))
                      have y3 : wg.cell? ⟨wr.heap.size, 3, none⟩ = some (.slice (some IA) L.entries[k].forms.length d2) := by rw [local_at HLG.out 3]; rfl
                      have f0 : wg.cell? ⟨wf.heap.size, 0, none⟩ = some (.int .i64 L.entries[k].forms[m2].slot) := by rw [local_at HBG.out 0]; rfl
                      have f1 : wg.cell? ⟨wf.heap.size, 1, none⟩ = some (.string L.entries[k].forms[m2].word) := by rw [local_at HBG.out 1]; rfl
                      by_cases hqt : q < m2
                      · have hqF : q < L.entries[k].forms.length := by omega
                        have j0 : wg.cell? (IA.add (q * 2)) = some (.int .i64 L.entries[k].forms[q].slot) := by
                          rw [HWG.out.cell (p := IA.add (q * 2)) (by rw [add_block]; exact HIA.out)]
                          have := HCI.out q 0 hqF (by omega)
                          simpa [irrF, hqF] using this
                        by_cases heqs : L.entries[k].forms[q].slot = L.entries[k].forms[m2].slot
                        · have hbq' : (L.entries[k].forms[q].slot == L.entries[k].forms[m2].slot) = true := beq_iff_eq.2 heqs
                          have HIR0 := Lib.hid (show 0 ≤ irrIdx L.entries[k].forms m2 L.entries[k].forms[m2].slot by
                            unfold irrIdx; rw [idxOf_at hqt HQQ.out (irrQ_at hqF (decide_eq_true heqs))]; omega)
                          have HX := Lib.hid (HX1.out.trans (if_pos HIR0.out))
                          clear heqs
                          go_wp2
                          go_quiet (fail)
                          go_wp2
                          go_ret
                          exact ⟨ret_i (by have hE1 := HF4.out.trans (show irregsErr L.entries[k].forms SL.length = irregErr L.entries[k].forms SL.length m2 from errOf_at hmt2 HM2.out (by rw [HX.out]; decide)); rw [HX.out] at hE1; rw [HE.out, errOf_at hlt HQ.out (by rw [hE1]; decide), hE1]), by repeat (first | exact HWG.out | apply below_drewN)⟩
                        · have hbq' : (L.entries[k].forms[q].slot == L.entries[k].forms[m2].slot) = false := beq_eq_false_iff_ne.2 heqs
                          have HX := Lib.hid (irrQ_at (s := L.entries[k].forms[m2].slot) hqF (decide_eq_false heqs))
                          clear heqs
                          go_wp2
                          go_quiet (fail)
                          go_wp2
                          go_roundw
                          case rel => exact ⟨q + 1, by omega, by go_num, none_succ' HQQ.out HX.out, by repeat (first | exact HBG.out | apply below_drewN)⟩
                          case measure => simp [intOf]; omega
                      · have HX2 := Lib.hid (HX1.out.trans (if_neg (show ¬ 0 ≤ irrIdx L.entries[k].forms m2 L.entries[k].forms[m2].slot by
                          unfold irrIdx; rw [idxOf_none fun n hn => HQQ.out n (by omega)]; decide)))
                        cases hemp : L.entries[k].forms[m2].word.toList.isEmpty
                        · cases hplw : plainB L.entries[k].forms[m2].word
                          · have HX := Lib.hid (HX2.out.trans (if_pos ⟨hemp, hplw⟩))
                            go_wp2_with (go_at_call 83; refine (refPlain_any _ _ hwd2).mono ?_; rintro e w' ⟨rfl, rfl⟩)
                            go_ret
                            exact ⟨ret_i (by have hE1 := HF4.out.trans (show irregsErr L.entries[k].forms SL.length = irregErr L.entries[k].forms SL.length m2 from errOf_at hmt2 HM2.out (by rw [HX.out]; decide)); rw [HX.out] at hE1; rw [HE.out, errOf_at hlt HQ.out (by rw [hE1]; decide), hE1]), HWG.out⟩
                          · have HX := Lib.hid (HX2.out.trans (if_neg (by rw [hplw]; simp)))
                            go_wp2_with (go_at_call 83; refine (refPlain_any _ _ hwd2).mono ?_; rintro e w' ⟨rfl, rfl⟩)
                            go_roundw
                            case rel => exact ⟨m2 + 1, by omega, by go_num, below_succ HM2.out HX.out, HUG.out⟩
                            case measure => simp [intOf]; omega
                        · have HX := Lib.hid (HX2.out.trans (if_neg (by rw [hemp]; simp)))
                          go_wp2_with (go_at_call 83; refine (refPlain_any _ _ hwd2).mono ?_; rintro e w' ⟨rfl, rfl⟩)
                          go_roundw
                          case rel => exact ⟨m2 + 1, by omega, by go_num, below_succ HM2.out HX.out, HUG.out⟩
                          case measure => simp [intOf]; omega
                  · have HX := Lib.hid (HF4.out.trans (show irregsErr L.entries[k].forms SL.length = 0 from errOf_none fun n hn => HM2.out n (by omega)))
                    go_wp2
                    go_roundw
                    case rel => exact ⟨k + 1, by omega, by go_num, below_succ HQ.out HX.out, by repeat (first | exact HBB3.out | apply below_drewN)⟩
                    case measure => simp [intOf]; omega
          · have HNZ := Lib.hid hbe
            have HF3 := Lib.hid (HF2.out.trans (if_pos hbe)); clear HF2
            go_wp2_with (go_at_call 45; refine (HCB.out).mono ?_; rintro e w3 ⟨rfl, hb3⟩; have HW3 := Lib.hid (HWQ.out.trans (hb3.mono HWQ.out.size)); clear hb3)
            go_ret
            exact ⟨ret_i (by rw [HE.out, errOf_at hlt HQ.out (by rw [HF3.out]; exact HNZ.out), HF3.out]), HW3.out⟩
    · go_wp2
      go_ret
      exact ⟨ret_i (by rw [HE.out, errOf_none fun j hj => HQ.out j (by omega)]), HW.out⟩
end Go.Proofs.YtgddmegjncbndaaGreatDoor
