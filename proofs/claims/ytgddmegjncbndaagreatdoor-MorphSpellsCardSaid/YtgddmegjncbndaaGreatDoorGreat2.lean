/- Great ends with a bool, for any lexicon. -/
import Derived.Test.YtgddmegjncbndaaGreatDoorGreat
namespace Go.Proofs.YtgddmegjncbndaaGreatDoor
open Go Go.RowKit
set_option maxRecDepth 100000 in
set_option maxHeartbeats 16000000 in
theorem great_big (L : Lex) (w : World) (hL : LexAt w L) (a1 : (60 : Int) < (L.entries.length : Int)) :
    Calls Tryz.prog 8 #[L.val] w fun e w' => BoolEnd e ∧ Below w.heap.size w w' := by
  obtain ⟨p1, c1, p2, c2, p3, c3, p4, c4, p5, c5, e1, e2, e3, e4, e5, hc1, hm1, hc2, hm2, hc3, hm3, hc4, hm4, hc5, hm5⟩ := lex_forms hL
  have HL := Lib.hid hL; clear hL
  have hval : L.val = .agg #[.string L.vowels, .slice p1 L.traits.length c1, .slice p2 L.classes.length c2, .slice p3 L.entries.length c3, .slice p4 L.spells.length c4, .slice p5 L.links.length c5] := by unfold Lex.val; rw [e1, e2, e3, e4, e5]
  have HVAL := Lib.hid hval
  have HO := Lib.hid (show boxed L = .cells #[.string L.vowels, .slice p1 L.traits.length c1, .slice p2 L.classes.length c2, .slice p3 L.entries.length c3, .slice p4 L.spells.length c4, .slice p5 L.links.length c5] 28 by unfold boxed; rw [e1, e2, e3, e4, e5])
  rw [hval]
  clear hval
  have ag := Tryz.isAgg28
  have zg := Tryz.sizeOf28
  have hcv := HL.out.vow
  unfold maxLen at hm1 hm2 hm3 hm4 hm5 hcv
  have agt := Tryz.isAgg64
  have zgt := Tryz.sizeOf64
  have agc := Tryz.isAgg67
  have zgc := Tryz.sizeOf67
  have ags := Tryz.isAgg69
  have zgs := Tryz.sizeOf69
  have age := Tryz.isAgg72
  have zge := Tryz.sizeOf72
  have agi := Tryz.isAgg74
  have zgi := Tryz.sizeOf74
  have agp := Tryz.isAgg76
  have zgp := Tryz.sizeOf76
  have agk := Tryz.isAgg78
  have zgk := Tryz.sizeOf78
  by_cases a2 : (L.entries.length : Int) ≤ 128
  · skip
    go_enter Tryz.func8, Tryz.ntmps8
    go_wp2
    go_ret
    exact ⟨BoolEnd.mk _, (below_one w _).alloc (by simp) _⟩
  by_cases a3 : (200 : Int) < (L.entries.length : Int)
  · skip
    go_enter Tryz.func8, Tryz.ntmps8
    go_wp2
    go_ret
    exact ⟨BoolEnd.mk _, (below_one w _).alloc (by simp) _⟩
  by_cases a4 : (40 : Int) < (L.traits.length : Int)
  · skip
    go_enter Tryz.func8, Tryz.ntmps8
    go_wp2
    go_ret
    exact ⟨BoolEnd.mk _, (below_one w _).alloc (by simp) _⟩
  by_cases a5 : (40 : Int) < (L.classes.length : Int)
  · skip
    go_enter Tryz.func8, Tryz.ntmps8
    go_wp2
    go_ret
    exact ⟨BoolEnd.mk _, (below_one w _).alloc (by simp) _⟩
  by_cases a6 : (40 : Int) < (L.spells.length : Int)
  · skip
    go_enter Tryz.func8, Tryz.ntmps8
    go_wp2
    go_ret
    exact ⟨BoolEnd.mk _, (below_one w _).alloc (by simp) _⟩
  by_cases a7 : (40 : Int) < (L.links.length : Int)
  · skip
    go_enter Tryz.func8, Tryz.ntmps8
    go_wp2
    go_ret
    exact ⟨BoolEnd.mk _, (below_one w _).alloc (by simp) _⟩
  go_enter Tryz.func8, Tryz.ntmps8
  go_wp2
  go_loopw [5] (fun i wr => ∃ k : Nat, k ≤ L.traits.length ∧ i = .int .i64 k ∧ GreatAt L w wr) (fun i _ => L.traits.length - (intOf i).toNat)
  case atStart => exact ⟨0, by omega, rfl, by rw [← HO.out]; exact ⟨grown_refl _ _, _, by have := Boxed.new (w.alloc (boxed L)) 3 (.int .i64 L.vowels.size); simpa using this⟩⟩
  case round =>
    obtain ⟨k, hk, rfl, hg⟩ := hrel
    rename World => wr
    have HG := Lib.hid hg; clear hg
    have HW := Lib.hid HG.out.below
    have x1 : wr.cell? ⟨w.heap.size, 1, none⟩ = some (.slice p1 L.traits.length c1) := by rw [HG.out.box 1, e1]; rfl
    obtain ⟨y, hy⟩ := HG.out.2
    have n0 := hy.cell
    have f0 := hy.frozen
    clear hy
    by_cases hlt : k < L.traits.length
    · obtain ⟨_, _, e1', _, _, hrow⟩ := (e1 ▸ HL.out.tras.1)
      cases e1'
      obtain ⟨A, rfl, hA, hcell⟩ := hrow (by omega)
      obtain ⟨⟨p', c', hvv, hc', hm', hrv⟩, hnm, hvs⟩ := HL.out.tras.2 L.traits[k] (List.getElem_mem _)
      have T1 := Lib.hid (show w.cell? (A.add (k * 2)) = some (.string L.traits[k].name) by
        have := hcell k 0 hlt (by omega)
        simpa [traF, hlt] using this)
      have T2 := Lib.hid (show w.cell? { block := (A.add (k * 2)).block, off := (A.add (k * 2)).off + 1 } = some (.slice p' L.traits[k].vs.length c') by
        have := cell_next (hcell k 1 hlt (by omega))
        simpa [traF, hlt, hvv] using this)
      have HA := Lib.hid (show (A.add (k * 2)).block < w.heap.size by rw [add_block]; exact hA)
      have HRV := Lib.hid hrv
      clear hcell hrow hrv
      have t1 : wr.cell? (A.add (k * 2)) = some (.string L.traits[k].name) := by rw [HW.out.cell (p := A.add (k * 2)) HA.out]; exact T1.out
      go_wp2
      go_still_tail 10, (by kernel_rfl)
      go_wp2
      clear x1 n0 f0 t1
      go_loopw [6] (fun i wq => ∃ j : Nat, j ≤ L.traits[k].vs.length ∧ i = .int .i64 j ∧ GreatAt L w wq) (fun i _ => L.traits[k].vs.length - (intOf i).toNat)
      case atStart => exact ⟨0, by omega, rfl, (HG.out.set _).drew1⟩
      case round =>
        obtain ⟨j, hj, rfl, hg⟩ := hrel
        rename World => wq
        have HGQ := Lib.hid hg; clear hg
        have HWQ := Lib.hid HGQ.out.below
        have x1 : wq.cell? ⟨w.heap.size, 1, none⟩ = some (.slice (some A) L.traits.length c1) := by rw [HGQ.out.box 1, e1]; rfl
        obtain ⟨z, hz⟩ := HGQ.out.2
        have n0 := hz.cell
        have f0 := hz.frozen
        clear hz
        have t2 : wq.cell? { block := (A.add (k * 2)).block, off := (A.add (k * 2)).off + 1 } = some (.slice p' L.traits[k].vs.length c') := by rw [HWQ.out.cell (p := ⟨(A.add (k * 2)).block, (A.add (k * 2)).off + 1, none⟩) HA.out]; exact T2.out
        by_cases hjt : j < L.traits[k].vs.length
        · by_cases h100 : (j : Int) < 100
          · obtain ⟨VA, rfl, hVA, hcell⟩ := HRV.out (by omega)
            have v1 : wq.cell? (VA.add j) = some (.string L.traits[k].vs[j]) := by
              rw [HWQ.out.cell (p := VA.add j) (by rw [add_block]; exact hVA)]
              have := hcell j 0 hjt (by omega)
              simpa [strF, hjt] using this
            clear hcell
            go_wp2
            go_still_tail 13, (by kernel_rfl)
            go_wp2
            go_roundw
            case rel => exact ⟨j + 1, by omega, by go_num, (HGQ.out.set _).drew1⟩
            case measure => simp [intOf]; omega
          · go_wp2
            go_still_tail 9, (by kernel_rfl)
            go_wp2
            go_roundw
            case rel => exact ⟨k + 1, by omega, by go_num, (HGQ.out.set _).drew1⟩
            case measure => simp [intOf]; omega
        · go_wp2
          go_still_tail 9, (by kernel_rfl)
          go_wp2
          go_roundw
          case rel => exact ⟨k + 1, by omega, by go_num, (HGQ.out.set _).drew1⟩
          case measure => simp [intOf]; omega
    · have HGX := HG
      go_wp2
      clear x1 n0 f0
      go_loopw [7] (fun i wc => ∃ m3 : Nat, m3 ≤ L.classes.length ∧ i = .int .i64 m3 ∧ GreatAt L w wc) (fun i _ => L.classes.length - (intOf i).toNat)
      case atStart => exact ⟨0, by omega, rfl, HGX.out⟩
      case round =>
        obtain ⟨m3, hm3, rfl, hgm3⟩ := hrel
        rename World => wc
        have HGm3 := Lib.hid hgm3; clear hgm3
        have HWm3 := Lib.hid HGm3.out.below
        have x2 : wc.cell? ⟨w.heap.size, 2, none⟩ = some (.slice p2 L.classes.length c2) := by rw [HGm3.out.box 2, e2]; rfl
        obtain ⟨y3, hy3⟩ := HGm3.out.2
        have n0 := hy3.cell
        have f0 := hy3.frozen
        clear hy3
        by_cases hlt3 : m3 < L.classes.length
        · obtain ⟨_, _, eC, _, _, hrowC⟩ := (e2 ▸ HL.out.clas.1)
          cases eC
          obtain ⟨CA, rfl, hCA, hcellC⟩ := hrowC (by omega)
          obtain ⟨⟨⟨pS, cS, hsv, hcS, hmS, hrS⟩, hvs⟩, hnm⟩ := HL.out.clas.2 L.classes[m3] (List.getElem_mem _)
          unfold maxLen at hmS
          have HCA := Lib.hid (show (CA.add (m3 * 2)).block < w.heap.size by rw [add_block]; exact hCA)
          have C1 := Lib.hid (show w.cell? { block := (CA.add (m3 * 2)).block, off := (CA.add (m3 * 2)).off + 1 } = some (.slice pS L.classes[m3].slots.length cS) by
            have := cell_next (hcellC m3 1 hlt3 (by omega))
            simpa [claF, hlt3, hsv] using this)
          have t1 : wc.cell? (CA.add (m3 * 2)) = some (.string L.classes[m3].name) := by
            rw [HWm3.out.cell (p := CA.add (m3 * 2)) HCA.out]
            have := hcellC m3 0 hlt3 (by omega)
            simpa [claF, hlt3] using this
          have t2 : wc.cell? { block := (CA.add (m3 * 2)).block, off := (CA.add (m3 * 2)).off + 1 } = some (.slice pS L.classes[m3].slots.length cS) := by
            rw [HWm3.out.cell (p := ⟨(CA.add (m3 * 2)).block, (CA.add (m3 * 2)).off + 1, none⟩) HCA.out]; exact C1.out
          have HRS := Lib.hid hrS; clear hrS
          have HVS := Lib.hid hvs; clear hvs
          clear hcellC hrowC hsv
          by_cases g1 : (12 : Int) < (L.classes[m3].slots.length : Int)
          · by_cases g2 : (L.classes[m3].slots.length : Int) ≤ 24
            · go_wp2
              go_ret
              exact ⟨BoolEnd.mk _, by repeat (first | exact HWm3.out | apply below_drewN)⟩
            by_cases g3 : (60 : Int) < (L.classes[m3].slots.length : Int)
            · go_wp2
              go_ret
              exact ⟨BoolEnd.mk _, by repeat (first | exact HWm3.out | apply below_drewN)⟩
            go_wp2
            go_still_tail 10, (by kernel_rfl)
            go_wp2
            clear x2 n0 f0 t1 t2
            go_loopw [8] (fun i wt => ∃ j3 : Nat, j3 ≤ L.classes[m3].slots.length ∧ i = .int .i64 j3 ∧ GreatAt L w wt) (fun i _ => L.classes[m3].slots.length - (intOf i).toNat)
            case atStart => exact ⟨0, by omega, rfl, by first | exact (HGm3.out.set _).drew1 | exact (HGm3.out.drew1.set _).drew1⟩
            case round =>
              obtain ⟨j3, hj3, rfl, hg3⟩ := hrel
              rename World => wt
              have HGT := Lib.hid hg3; clear hg3
              have HWT := Lib.hid HGT.out.below
              have x2 : wt.cell? ⟨w.heap.size, 2, none⟩ = some (.slice (some CA) L.classes.length c2) := by rw [HGT.out.box 2, e2]; rfl
              have t2 : wt.cell? { block := (CA.add (m3 * 2)).block, off := (CA.add (m3 * 2)).off + 1 } = some (.slice pS L.classes[m3].slots.length cS) := by
                rw [HWT.out.cell (p := ⟨(CA.add (m3 * 2)).block, (CA.add (m3 * 2)).off + 1, none⟩) HCA.out]; exact C1.out
              obtain ⟨yt, hyt⟩ := HGT.out.2
              have n0 := hyt.cell
              have f0 := hyt.frozen
              clear hyt
              by_cases hjt3 : j3 < L.classes[m3].slots.length
              · obtain ⟨SA, rfl, hSA, hcellS⟩ := HRS.out (by omega)
                obtain ⟨hfr, _, _⟩ := HVS.out L.classes[m3].slots[j3] (List.getElem_mem _)
                obtain ⟨qf, cf, hfv, _, _, _⟩ := open_row hfr
                have v0 : wt.cell? (SA.add (j3 * 4)) = some (.int .i64 L.classes[m3].slots[j3].cut) := by
                  rw [HWT.out.cell (p := SA.add (j3 * 4)) (by rw [add_block]; exact hSA)]
                  have := hcellS j3 0 hjt3 (by omega)
                  simpa [sloF, hjt3] using this
                have v1 : wt.cell? { block := (SA.add (j3 * 4)).block, off := (SA.add (j3 * 4)).off + 1 } = some (.string L.classes[m3].slots[j3].pre) := by
                  rw [HWT.out.cell (p := ⟨(SA.add (j3 * 4)).block, (SA.add (j3 * 4)).off + 1, none⟩) (by show (SA.add (j3 * 4)).block < _; rw [add_block]; exact hSA)]
                  have := cell_at 1 (by omega) (hcellS j3 1 hjt3 (by omega))
                  simpa [sloF, hjt3] using this
                have v2 : wt.cell? { block := (SA.add (j3 * 4)).block, off := (SA.add (j3 * 4)).off + 2 } = some (.string L.classes[m3].slots[j3].add) := by
                  rw [HWT.out.cell (p := ⟨(SA.add (j3 * 4)).block, (SA.add (j3 * 4)).off + 2, none⟩) (by show (SA.add (j3 * 4)).block < _; rw [add_block]; exact hSA)]
                  have := cell_at 2 (by omega) (hcellS j3 2 hjt3 (by omega))
                  simpa [sloF, hjt3] using this
                have v3 : wt.cell? { block := (SA.add (j3 * 4)).block, off := (SA.add (j3 * 4)).off + 3 } = some (.slice qf L.classes[m3].slots[j3].fs.length cf) := by
                  rw [HWT.out.cell (p := ⟨(SA.add (j3 * 4)).block, (SA.add (j3 * 4)).off + 3, none⟩) (by show (SA.add (j3 * 4)).block < _; rw [add_block]; exact hSA)]
                  have := cell_at 3 (by omega) (hcellS j3 3 hjt3 (by omega))
                  simpa [sloF, hjt3, hfv] using this
                have HRD := Lib.hid (hfv ▸ hfr)
                clear hcellS hfr hfv
                have hne : w.heap.size + 1 < wt.heap.size := by have := HGT.out.size; omega
                have hne2 : wt.heap.size ≠ w.heap.size + 1 := by omega
                have n1 := alloc_cell (.cells #[.int .i64 L.classes[m3].slots[j3].cut, .string L.classes[m3].slots[j3].pre, .string L.classes[m3].slots[j3].add, .slice qf L.classes[m3].slots[j3].fs.length cf] 69) n0
                have f1 := old_frozen (.cells #[.int .i64 L.classes[m3].slots[j3].cut, .string L.classes[m3].slots[j3].pre, .string L.classes[m3].slots[j3].add, .slice qf L.classes[m3].slots[j3].fs.length cf] 69) f0 hne
                have u1 : (wt.alloc (.cells #[.int .i64 L.classes[m3].slots[j3].cut, .string L.classes[m3].slots[j3].pre, .string L.classes[m3].slots[j3].add, .slice qf L.classes[m3].slots[j3].fs.length cf] 69)).cell? ⟨wt.heap.size, 1, none⟩ = some (.string L.classes[m3].slots[j3].pre) := by rw [World.cell?_alloc_new]; rfl
                have u2 : (wt.alloc (.cells #[.int .i64 L.classes[m3].slots[j3].cut, .string L.classes[m3].slots[j3].pre, .string L.classes[m3].slots[j3].add, .slice qf L.classes[m3].slots[j3].fs.length cf] 69)).cell? ⟨wt.heap.size, 2, none⟩ = some (.string L.classes[m3].slots[j3].add) := by rw [World.cell?_alloc_new]; rfl
                have u3 : (wt.alloc (.cells #[.int .i64 L.classes[m3].slots[j3].cut, .string L.classes[m3].slots[j3].pre, .string L.classes[m3].slots[j3].add, .slice qf L.classes[m3].slots[j3].fs.length cf] 69)).cell? ⟨wt.heap.size, 3, none⟩ = some (.slice qf L.classes[m3].slots[j3].fs.length cf) := by rw [World.cell?_alloc_new]; rfl
                have s3 : ∀ x : Int, ((wt.alloc (.cells #[.int .i64 L.classes[m3].slots[j3].cut, .string L.classes[m3].slots[j3].pre, .string L.classes[m3].slots[j3].add, .slice qf L.classes[m3].slots[j3].fs.length cf] 69)).setCell ⟨w.heap.size + 1, 0, none⟩ (.int .i64 x)).cell? ⟨wt.heap.size, 3, none⟩ = some (.slice qf L.classes[m3].slots[j3].fs.length cf) := fun x => set_other u3 hne2 _
                go_wp2_with (go_at_call 32; refine (GreatAt.feats ((HGT.out.set _).alloc _) HRD.out).mono ?_; rintro e w7 ⟨rfl, hg7, _⟩; have HG7 := Lib.hid hg7; clear hg7)
                go_roundw
                case rel => exact ⟨j3 + 1, by omega, by go_num, HG7.out⟩
                case measure => simp [intOf]; omega
              · go_wp2
                go_roundw
                case rel => exact ⟨m3 + 1, by omega, by go_num, HGT.out⟩
                case measure => simp [intOf]; omega
          have g3 : ¬ (60 : Int) < (L.classes[m3].slots.length : Int) := by omega
          go_wp2
          go_still_tail 10, (by kernel_rfl)
          go_wp2
          clear x2 n0 f0 t1 t2
          go_loopw [8] (fun i wt => ∃ j3 : Nat, j3 ≤ L.classes[m3].slots.length ∧ i = .int .i64 j3 ∧ GreatAt L w wt) (fun i _ => L.classes[m3].slots.length - (intOf i).toNat)
          case atStart => exact ⟨0, by omega, rfl, by first | exact (HGm3.out.set _).drew1 | exact (HGm3.out.drew1.set _).drew1⟩
          case round =>
            obtain ⟨j3, hj3, rfl, hg3⟩ := hrel
            rename World => wt
            have HGT := Lib.hid hg3; clear hg3
            have HWT := Lib.hid HGT.out.below
            have x2 : wt.cell? ⟨w.heap.size, 2, none⟩ = some (.slice (some CA) L.classes.length c2) := by rw [HGT.out.box 2, e2]; rfl
            have t2 : wt.cell? { block := (CA.add (m3 * 2)).block, off := (CA.add (m3 * 2)).off + 1 } = some (.slice pS L.classes[m3].slots.length cS) := by
              rw [HWT.out.cell (p := ⟨(CA.add (m3 * 2)).block, (CA.add (m3 * 2)).off + 1, none⟩) HCA.out]; exact C1.out
            obtain ⟨yt, hyt⟩ := HGT.out.2
            have n0 := hyt.cell
            have f0 := hyt.frozen
            clear hyt
            by_cases hjt3 : j3 < L.classes[m3].slots.length
            · obtain ⟨SA, rfl, hSA, hcellS⟩ := HRS.out (by omega)
              obtain ⟨hfr, _, _⟩ := HVS.out L.classes[m3].slots[j3] (List.getElem_mem _)
              obtain ⟨qf, cf, hfv, _, _, _⟩ := open_row hfr
              have v0 : wt.cell? (SA.add (j3 * 4)) = some (.int .i64 L.classes[m3].slots[j3].cut) := by
                rw [HWT.out.cell (p := SA.add (j3 * 4)) (by rw [add_block]; exact hSA)]
                have := hcellS j3 0 hjt3 (by omega)
                simpa [sloF, hjt3] using this
              have v1 : wt.cell? { block := (SA.add (j3 * 4)).block, off := (SA.add (j3 * 4)).off + 1 } = some (.string L.classes[m3].slots[j3].pre) := by
                rw [HWT.out.cell (p := ⟨(SA.add (j3 * 4)).block, (SA.add (j3 * 4)).off + 1, none⟩) (by show (SA.add (j3 * 4)).block < _; rw [add_block]; exact hSA)]
                have := cell_at 1 (by omega) (hcellS j3 1 hjt3 (by omega))
                simpa [sloF, hjt3] using this
              have v2 : wt.cell? { block := (SA.add (j3 * 4)).block, off := (SA.add (j3 * 4)).off + 2 } = some (.string L.classes[m3].slots[j3].add) := by
                rw [HWT.out.cell (p := ⟨(SA.add (j3 * 4)).block, (SA.add (j3 * 4)).off + 2, none⟩) (by show (SA.add (j3 * 4)).block < _; rw [add_block]; exact hSA)]
                have := cell_at 2 (by omega) (hcellS j3 2 hjt3 (by omega))
                simpa [sloF, hjt3] using this
              have v3 : wt.cell? { block := (SA.add (j3 * 4)).block, off := (SA.add (j3 * 4)).off + 3 } = some (.slice qf L.classes[m3].slots[j3].fs.length cf) := by
                rw [HWT.out.cell (p := ⟨(SA.add (j3 * 4)).block, (SA.add (j3 * 4)).off + 3, none⟩) (by show (SA.add (j3 * 4)).block < _; rw [add_block]; exact hSA)]
                have := cell_at 3 (by omega) (hcellS j3 3 hjt3 (by omega))
                simpa [sloF, hjt3, hfv] using this
              have HRD := Lib.hid (hfv ▸ hfr)
              clear hcellS hfr hfv
              have hne : w.heap.size + 1 < wt.heap.size := by have := HGT.out.size; omega
              have hne2 : wt.heap.size ≠ w.heap.size + 1 := by omega
              have n1 := alloc_cell (.cells #[.int .i64 L.classes[m3].slots[j3].cut, .string L.classes[m3].slots[j3].pre, .string L.classes[m3].slots[j3].add, .slice qf L.classes[m3].slots[j3].fs.length cf] 69) n0
              have f1 := old_frozen (.cells #[.int .i64 L.classes[m3].slots[j3].cut, .string L.classes[m3].slots[j3].pre, .string L.classes[m3].slots[j3].add, .slice qf L.classes[m3].slots[j3].fs.length cf] 69) f0 hne
              have u1 : (wt.alloc (.cells #[.int .i64 L.classes[m3].slots[j3].cut, .string L.classes[m3].slots[j3].pre, .string L.classes[m3].slots[j3].add, .slice qf L.classes[m3].slots[j3].fs.length cf] 69)).cell? ⟨wt.heap.size, 1, none⟩ = some (.string L.classes[m3].slots[j3].pre) := by rw [World.cell?_alloc_new]; rfl
              have u2 : (wt.alloc (.cells #[.int .i64 L.classes[m3].slots[j3].cut, .string L.classes[m3].slots[j3].pre, .string L.classes[m3].slots[j3].add, .slice qf L.classes[m3].slots[j3].fs.length cf] 69)).cell? ⟨wt.heap.size, 2, none⟩ = some (.string L.classes[m3].slots[j3].add) := by rw [World.cell?_alloc_new]; rfl
              have u3 : (wt.alloc (.cells #[.int .i64 L.classes[m3].slots[j3].cut, .string L.classes[m3].slots[j3].pre, .string L.classes[m3].slots[j3].add, .slice qf L.classes[m3].slots[j3].fs.length cf] 69)).cell? ⟨wt.heap.size, 3, none⟩ = some (.slice qf L.classes[m3].slots[j3].fs.length cf) := by rw [World.cell?_alloc_new]; rfl
              have s3 : ∀ x : Int, ((wt.alloc (.cells #[.int .i64 L.classes[m3].slots[j3].cut, .string L.classes[m3].slots[j3].pre, .string L.classes[m3].slots[j3].add, .slice qf L.classes[m3].slots[j3].fs.length cf] 69)).setCell ⟨w.heap.size + 1, 0, none⟩ (.int .i64 x)).cell? ⟨wt.heap.size, 3, none⟩ = some (.slice qf L.classes[m3].slots[j3].fs.length cf) := fun x => set_other u3 hne2 _
              go_wp2_with (go_at_call 32; refine (GreatAt.feats ((HGT.out.set _).alloc _) HRD.out).mono ?_; rintro e w7 ⟨rfl, hg7, _⟩; have HG7 := Lib.hid hg7; clear hg7)
              go_roundw
              case rel => exact ⟨j3 + 1, by omega, by go_num, HG7.out⟩
              case measure => simp [intOf]; omega
            · go_wp2
              go_roundw
              case rel => exact ⟨m3 + 1, by omega, by go_num, HGT.out⟩
              case measure => simp [intOf]; omega
        · have HGX := HGm3
          go_wp2
          clear x2 n0 f0
          go_loopw [10] (fun i we => ∃ m4 : Nat, m4 ≤ L.entries.length ∧ i = .int .i64 m4 ∧ GreatAt L w we) (fun i _ => L.entries.length - (intOf i).toNat)
          case atStart => exact ⟨0, by omega, rfl, HGX.out⟩
          case round =>
            obtain ⟨m4, hm4, rfl, hgm4⟩ := hrel
            rename World => we
            have HGm4 := Lib.hid hgm4; clear hgm4
            have HWm4 := Lib.hid HGm4.out.below
            have x3 : we.cell? ⟨w.heap.size, 3, none⟩ = some (.slice p3 L.entries.length c3) := by rw [HGm4.out.box 3, e3]; rfl
            obtain ⟨y4, hy4⟩ := HGm4.out.2
            have n0 := hy4.cell
            have f0 := hy4.frozen
            clear hy4
            by_cases hlt4 : m4 < L.entries.length
            · obtain ⟨_, _, eE, _, _, hrowE⟩ := (e3 ▸ HL.out.ents.1)
              cases eE
              obtain ⟨EA, rfl, hEA, hcellE⟩ := hrowE (by omega)
              obtain ⟨hfr, hir, _, _, _⟩ := HL.out.ents.2 L.entries[m4] (List.getElem_mem _)
              obtain ⟨qf, cf, hfv, _, _, _⟩ := open_row hfr
              obtain ⟨qm, cm, hmv, hcm1, hcm2⟩ := hir.form
              unfold maxLen at hcm2
              have v0 : we.cell? (EA.add (m4 * 4)) = some (.string L.entries[m4].lem) := by
                rw [HWm4.out.cell (p := EA.add (m4 * 4)) (by rw [add_block]; exact hEA)]
                have := hcellE m4 0 hlt4 (by omega)
                simpa [entF, hlt4] using this
              have v1 : we.cell? { block := (EA.add (m4 * 4)).block, off := (EA.add (m4 * 4)).off + 1 } = some (.string L.entries[m4].cls) := by
                rw [HWm4.out.cell (p := ⟨(EA.add (m4 * 4)).block, (EA.add (m4 * 4)).off + 1, none⟩) (by show (EA.add (m4 * 4)).block < _; rw [add_block]; exact hEA)]
                have := cell_at 1 (by omega) (hcellE m4 1 hlt4 (by omega))
                simpa [entF, hlt4] using this
              have v2 : we.cell? { block := (EA.add (m4 * 4)).block, off := (EA.add (m4 * 4)).off + 2 } = some (.slice qf L.entries[m4].fs.length cf) := by
                rw [HWm4.out.cell (p := ⟨(EA.add (m4 * 4)).block, (EA.add (m4 * 4)).off + 2, none⟩) (by show (EA.add (m4 * 4)).block < _; rw [add_block]; exact hEA)]
                have := cell_at 2 (by omega) (hcellE m4 2 hlt4 (by omega))
                simpa [entF, hlt4, hfv] using this
              have v3 : we.cell? { block := (EA.add (m4 * 4)).block, off := (EA.add (m4 * 4)).off + 3 } = some (.slice qm L.entries[m4].forms.length cm) := by
                rw [HWm4.out.cell (p := ⟨(EA.add (m4 * 4)).block, (EA.add (m4 * 4)).off + 3, none⟩) (by show (EA.add (m4 * 4)).block < _; rw [add_block]; exact hEA)]
                have := cell_at 3 (by omega) (hcellE m4 3 hlt4 (by omega))
                simpa [entF, hlt4, hmv] using this
              have HRD := Lib.hid (hfv ▸ hfr)
              have HIR := Lib.hid (hmv ▸ hir)
              clear hcellE hrowE hfr hfv hir hmv
              have hne : w.heap.size + 1 < we.heap.size := by have := HGm4.out.size; omega
              have hne2 : we.heap.size ≠ w.heap.size + 1 := by omega
              have n1 := alloc_cell (.cells #[.string L.entries[m4].lem, .string L.entries[m4].cls, .slice qf L.entries[m4].fs.length cf, .slice qm L.entries[m4].forms.length cm] 72) n0
              have f1 := old_frozen (.cells #[.string L.entries[m4].lem, .string L.entries[m4].cls, .slice qf L.entries[m4].fs.length cf, .slice qm L.entries[m4].forms.length cm] 72) f0 hne
              have u0 : (we.alloc (.cells #[.string L.entries[m4].lem, .string L.entries[m4].cls, .slice qf L.entries[m4].fs.length cf, .slice qm L.entries[m4].forms.length cm] 72)).cell? ⟨we.heap.size, 0, none⟩ = some (.string L.entries[m4].lem) := by rw [World.cell?_alloc_new]; rfl
              have u1 : (we.alloc (.cells #[.string L.entries[m4].lem, .string L.entries[m4].cls, .slice qf L.entries[m4].fs.length cf, .slice qm L.entries[m4].forms.length cm] 72)).cell? ⟨we.heap.size, 1, none⟩ = some (.string L.entries[m4].cls) := by rw [World.cell?_alloc_new]; rfl
              have u2 : (we.alloc (.cells #[.string L.entries[m4].lem, .string L.entries[m4].cls, .slice qf L.entries[m4].fs.length cf, .slice qm L.entries[m4].forms.length cm] 72)).cell? ⟨we.heap.size, 2, none⟩ = some (.slice qf L.entries[m4].fs.length cf) := by rw [World.cell?_alloc_new]; rfl
              have u3 : (we.alloc (.cells #[.string L.entries[m4].lem, .string L.entries[m4].cls, .slice qf L.entries[m4].fs.length cf, .slice qm L.entries[m4].forms.length cm] 72)).cell? ⟨we.heap.size, 3, none⟩ = some (.slice qm L.entries[m4].forms.length cm) := by rw [World.cell?_alloc_new]; rfl
              have s2 : ∀ x : Int, ((we.alloc (.cells #[.string L.entries[m4].lem, .string L.entries[m4].cls, .slice qf L.entries[m4].fs.length cf, .slice qm L.entries[m4].forms.length cm] 72)).setCell ⟨w.heap.size + 1, 0, none⟩ (.int .i64 x)).cell? ⟨we.heap.size, 2, none⟩ = some (.slice qf L.entries[m4].fs.length cf) := fun x => set_other u2 hne2 _
              have S3 := Lib.hid (show ∀ x : Int, ((we.setCell ⟨w.heap.size + 1, 0, none⟩ (.int .i64 x)).alloc (.cells #[.string L.entries[m4].lem, .string L.entries[m4].cls, .slice qf L.entries[m4].fs.length cf, .slice qm L.entries[m4].forms.length cm] 72)).cell? ⟨we.heap.size, 3, none⟩ = some (.slice qm L.entries[m4].forms.length cm) from fun x => set_new _ _ _ _ rfl)
              go_wp2_with (go_at_call 32; refine (GreatAt.feats ((HGm4.out.set _).alloc _) HRD.out).mono ?_; rintro e w7 ⟨rfl, hg7, hgr⟩; have HG7 := Lib.hid hg7; have HC7 := Lib.hid (grown_cell (S3.out _) hgr hne2); clear hg7 hgr)
              clear x3 n0 f0 v0 v1 v2 v3 n1 f1 u0 u1 u2 u3 s2
              go_loopw [12] (fun i wf => ∃ j4 : Nat, j4 ≤ L.entries[m4].forms.length ∧ i = .int .i64 j4 ∧ GreatAt L w wf ∧ wf.cell? ⟨we.heap.size, 3, none⟩ = some (.slice qm L.entries[m4].forms.length cm)) (fun i _ => L.entries[m4].forms.length - (intOf i).toNat)
              case atStart => exact ⟨0, by omega, rfl, HG7.out, HC7.out⟩
              case round =>
                obtain ⟨j4, hj4, rfl, hg4, hc4'⟩ := hrel
                rename World => wf
                have HGF := Lib.hid hg4; clear hg4
                have HWF := Lib.hid HGF.out.below
                obtain ⟨yf, hyf⟩ := HGF.out.2
                have n0 := hyf.cell
                have f0 := hyf.frozen
                clear hyf
                have HCS := Lib.hid (fun v => set_other hc4' hne2 v)
                by_cases hjt4 : j4 < L.entries[m4].forms.length
                · by_cases h100 : (j4 : Int) < 100
                  · obtain ⟨_, _, eI, _, _, hrowI⟩ := HIR.out
                    cases eI
                    obtain ⟨IA, rfl, hIA, hcellI⟩ := hrowI (by omega)
                    have i1 : wf.cell? { block := (IA.add (j4 * 2)).block, off := (IA.add (j4 * 2)).off + 1 } = some (.string L.entries[m4].forms[j4].word) := by
                      rw [HWF.out.cell (p := ⟨(IA.add (j4 * 2)).block, (IA.add (j4 * 2)).off + 1, none⟩) (by show (IA.add (j4 * 2)).block < _; rw [add_block]; exact hIA)]
                      have := cell_at 1 (by omega) (hcellI j4 1 hjt4 (by omega))
                      simpa [irrF, hjt4] using this
                    clear hcellI hrowI
                    go_wp2
                    go_still_tail 9, (by kernel_rfl)
                    go_wp2
                    go_roundw
                    case rel => exact ⟨j4 + 1, by omega, by go_num, (HGF.out.set _).drew1, HCS.out _⟩
                    case measure => simp [intOf]; omega
                  · go_wp2
                    go_roundw
                    case rel => exact ⟨m4 + 1, by omega, by go_num, HGF.out⟩
                    case measure => simp [intOf]; omega
                · go_wp2
                  go_roundw
                  case rel => exact ⟨m4 + 1, by omega, by go_num, HGF.out⟩
                  case measure => simp [intOf]; omega
            · have HGX := HGm4
              go_wp2
              clear x3 n0 f0
              go_loopw [13] (fun i ws => ∃ m5 : Nat, m5 ≤ L.spells.length ∧ i = .int .i64 m5 ∧ GreatAt L w ws) (fun i _ => L.spells.length - (intOf i).toNat)
              case atStart => exact ⟨0, by omega, rfl, HGX.out⟩
              case round =>
                obtain ⟨m5, hm5, rfl, hgm5⟩ := hrel
                rename World => ws
                have HGm5 := Lib.hid hgm5; clear hgm5
                have HWm5 := Lib.hid HGm5.out.below
                have x4 : ws.cell? ⟨w.heap.size, 4, none⟩ = some (.slice p4 L.spells.length c4) := by rw [HGm5.out.box 4, e4]; rfl
                obtain ⟨y5, hy5⟩ := HGm5.out.2
                have n0 := hy5.cell
                have f0 := hy5.frozen
                clear hy5
                by_cases hlt5 : m5 < L.spells.length
                · obtain ⟨_, _, eS, _, _, hrowS⟩ := (e4 ▸ HL.out.spes.1)
                  cases eS
                  obtain ⟨SA, rfl, hSA, hcellS⟩ := hrowS (by omega)
                  have v0 : ws.cell? (SA.add (m5 * 4)) = some (.string L.spells[m5].frm) := by
                    rw [HWm5.out.cell (p := SA.add (m5 * 4)) (by rw [add_block]; exact hSA)]
                    have := hcellS m5 0 hlt5 (by omega)
                    simpa [speF, hlt5] using this
                  have v1 : ws.cell? { block := (SA.add (m5 * 4)).block, off := (SA.add (m5 * 4)).off + 1 } = some (.string L.spells[m5].to) := by
                    rw [HWm5.out.cell (p := ⟨(SA.add (m5 * 4)).block, (SA.add (m5 * 4)).off + 1, none⟩) (by show (SA.add (m5 * 4)).block < _; rw [add_block]; exact hSA)]
                    have := cell_at 1 (by omega) (hcellS m5 1 hlt5 (by omega))
                    simpa [speF, hlt5] using this
                  have v2 : ws.cell? { block := (SA.add (m5 * 4)).block, off := (SA.add (m5 * 4)).off + 2 } = some (.string L.spells[m5].left) := by
                    rw [HWm5.out.cell (p := ⟨(SA.add (m5 * 4)).block, (SA.add (m5 * 4)).off + 2, none⟩) (by show (SA.add (m5 * 4)).block < _; rw [add_block]; exact hSA)]
                    have := cell_at 2 (by omega) (hcellS m5 2 hlt5 (by omega))
                    simpa [speF, hlt5] using this
                  have v3 : ws.cell? { block := (SA.add (m5 * 4)).block, off := (SA.add (m5 * 4)).off + 3 } = some (.string L.spells[m5].right) := by
                    rw [HWm5.out.cell (p := ⟨(SA.add (m5 * 4)).block, (SA.add (m5 * 4)).off + 3, none⟩) (by show (SA.add (m5 * 4)).block < _; rw [add_block]; exact hSA)]
                    have := cell_at 3 (by omega) (hcellS m5 3 hlt5 (by omega))
                    simpa [speF, hlt5] using this
                  clear hcellS hrowS
                  go_wp2
                  go_still_tail 33, (by kernel_rfl)
                  go_wp2
                  go_roundw
                  case rel => exact ⟨m5 + 1, by omega, by go_num, (HGm5.out.set _).drew1⟩
                  case measure => simp [intOf]; omega
                · have HGX := HGm5
                  go_wp2
                  clear x4 n0 f0
                  go_loopw [14] (fun i wl => ∃ m6 : Nat, m6 ≤ L.links.length ∧ i = .int .i64 m6 ∧ GreatAt L w wl) (fun i _ => L.links.length - (intOf i).toNat)
                  case atStart => exact ⟨0, by omega, rfl, HGX.out⟩
                  case round =>
                    obtain ⟨m6, hm6, rfl, hgm6⟩ := hrel
                    rename World => wl
                    have HGm6 := Lib.hid hgm6; clear hgm6
                    have HWm6 := Lib.hid HGm6.out.below
                    have x5 : wl.cell? ⟨w.heap.size, 5, none⟩ = some (.slice p5 L.links.length c5) := by rw [HGm6.out.box 5, e5]; rfl
                    obtain ⟨y6, hy6⟩ := HGm6.out.2
                    have n0 := hy6.cell
                    have f0 := hy6.frozen
                    clear hy6
                    by_cases hlt6 : m6 < L.links.length
                    · obtain ⟨_, _, eK, _, _, hrowK⟩ := (e5 ▸ HL.out.lins.1)
                      cases eK
                      obtain ⟨KA, rfl, hKA, hcellK⟩ := hrowK (by omega)
                      obtain ⟨hfr, hcls, hglue⟩ := HL.out.lins.2 L.links[m6] (List.getElem_mem _)
                      obtain ⟨qf, cf, hfv, _, _, _⟩ := open_row hfr
                      have v0 : wl.cell? (KA.add (m6 * 3)) = some (.string L.links[m6].cls) := by
                        rw [HWm6.out.cell (p := KA.add (m6 * 3)) (by rw [add_block]; exact hKA)]
                        have := hcellK m6 0 hlt6 (by omega)
                        simpa [linF, hlt6] using this
                      have v1 : wl.cell? { block := (KA.add (m6 * 3)).block, off := (KA.add (m6 * 3)).off + 1 } = some (.string L.links[m6].glue) := by
                        rw [HWm6.out.cell (p := ⟨(KA.add (m6 * 3)).block, (KA.add (m6 * 3)).off + 1, none⟩) (by show (KA.add (m6 * 3)).block < _; rw [add_block]; exact hKA)]
                        have := cell_at 1 (by omega) (hcellK m6 1 hlt6 (by omega))
                        simpa [linF, hlt6] using this
                      have hkb : (KA.add (m6 * 3)).block < w.heap.size := by rw [add_block]; exact hKA
                      have V2 := Lib.hid (show w.cell? { block := (KA.add (m6 * 3)).block, off := (KA.add (m6 * 3)).off + 2 } = some (.slice qf L.links[m6].fs.length cf) by
                        have := cell_at 2 (by omega) (hcellK m6 2 hlt6 (by omega))
                        simpa [linF, hlt6, hfv] using this)
                      have HRD := Lib.hid (hfv ▸ hfr)
                      clear hcellK hrowK hfr hfv
                      have X5 : ∀ x : Int, (wl.setCell ⟨w.heap.size + 1, 0, none⟩ (.int .i64 x)).drew.cell? ⟨w.heap.size, 5, none⟩ = some (.slice (some KA) L.links.length c5) := fun x => by rw [((HGm6.out.set x).drew1).box 5, e5]; rfl
                      have W2 : ∀ x : Int, (wl.setCell ⟨w.heap.size + 1, 0, none⟩ (.int .i64 x)).drew.cell? { block := (KA.add (m6 * 3)).block, off := (KA.add (m6 * 3)).off + 2 } = some (.slice qf L.links[m6].fs.length cf) := fun x => by
                        rw [((HGm6.out.set x).drew1).below.cell (p := ⟨(KA.add (m6 * 3)).block, (KA.add (m6 * 3)).off + 2, none⟩) hkb]; exact V2.out
                      have HKB := Lib.hid hkb; clear hkb
                      go_wp2
                      go_still_tail 17, (by kernel_rfl)
                      go_wp2_with (go_at_call 32; refine (GreatAt.feats ((HGm6.out.set _).drew1) HRD.out).mono ?_; rintro e w7 ⟨rfl, hg7, _⟩; have HG7 := Lib.hid hg7; clear hg7)
                      go_roundw
                      case rel => exact ⟨m6 + 1, by omega, by go_num, HG7.out⟩
                      case measure => simp [intOf]; omega
                    · go_wp2
                      go_ret
                      exact ⟨BoolEnd.mk _, HWm6.out⟩
theorem great_any (L : Lex) (w : World) (hL : LexAt w L) :
    Calls Tryz.prog 8 #[L.val] w fun e w' => BoolEnd e ∧ Below w.heap.size w w' := by
  by_cases h : (60 : Int) < (L.entries.length : Int)
  · exact great_big L w hL h
  · exact great_small L w hL h
end Go.Proofs.YtgddmegjncbndaaGreatDoor
