/- The program's checks of irregular forms and entries. -/
import Derived.Test.YtgddmegjncbndaaGreatDoorLex6
namespace Go.Proofs.YtgddmegjncbndaaGreatDoor
open Go Go.RowKit
def irregErr (I : List Irr) (n : Nat) (i : Nat) : Int := match I[i]? with
  | some f => if f.slot < 0 ∨ (n : Int) ≤ f.slot then 7 else if 0 ≤ irrIdx I i f.slot then 6 else if f.word.toList.isEmpty = false ∧ plainB f.word = false then 1 else 0
  | none => 0
def irregsErr (I : List Irr) (n : Nat) : Int := errOf I.length (irregErr I n)
theorem irregErr_at {I : List Irr} {n k : Nat} (hk : k < I.length) : irregErr I n k = if I[k].slot < 0 ∨ (n : Int) ≤ I[k].slot then 7 else if 0 ≤ irrIdx I k I[k].slot then 6 else if I[k].word.toList.isEmpty = false ∧ plainB I[k].word = false then 1 else 0 := by
  unfold irregErr
  rw [List.getElem?_eq_getElem hk]
set_option maxRecDepth 100000 in
set_option maxHeartbeats 4000000 in
theorem checkIrregulars_any (I : List Irr) (v : Value) (n : Nat) (w : World) (hv : SliceAt w.heap.size w v I.length 2 (irrF I)) (hI : ∀ f ∈ I, f.word.size ≤ maxLen) :
    Calls Tryz.prog 77 #[v, .int .i64 n] w fun e w' => e = .returned (.int .u8 (irregsErr I n)) ∧ Below w.heap.size w w' := by
  have hv0 := hv
  obtain ⟨p, cap, rfl, hcap, hmax, hrow⟩ := hv
  unfold maxLen at hmax
  have HV := Lib.hid hv0; clear hv0
  have HR := Lib.hid hrow; clear hrow
  have HI := Lib.hid hI; clear hI
  have ag := Tryz.isAgg74
  have zg := Tryz.sizeOf74
  go_enter Tryz.func77, Tryz.ntmps77
  go_wp2
  go_loopw [9] (fun i wr => ∃ k : Nat, k ≤ I.length ∧ i = .int .i64 k ∧ (∀ j, j < k → irregErr I n j = 0) ∧ Below w.heap.size w wr) (fun i _ => I.length - (intOf i).toNat)
  case atStart => exact ⟨0, by omega, rfl, fun i h => by omega, Below.refl _ _⟩
  case round =>
    obtain ⟨k, hk, rfl, hq, hB⟩ := hrel
    have HQ := Lib.hid hq; clear hq
    have HB := Lib.hid hB; clear hB
    by_cases hlt : k < I.length
    · obtain ⟨A, rfl, hA, hcell⟩ := HR.out (by omega)
      rename World => wr
      have x0 : wr.cell? (A.add (k * 2)) = some (.int .i64 I[k].slot) := by
        rw [HB.out.cell (p := A.add (k * 2)) (by rw [add_block]; exact hA)]
        have := hcell k 0 hlt (by omega)
        simpa [irrF, hlt] using this
      have x1 : wr.cell? { block := (A.add (k * 2)).block, off := (A.add (k * 2)).off + 1 } = some (.string I[k].word) := by
        rw [HB.out.cell (p := ⟨(A.add (k * 2)).block, (A.add (k * 2)).off + 1, none⟩) (by show (A.add (k * 2)).block < _; rw [add_block]; exact hA)]
        have := cell_next (hcell k 1 hlt (by omega))
        simpa [irrF, hlt] using this
      clear hcell
      have hsz := HI.out I[k] (List.getElem_mem _)
      have HF := Lib.hid (irregErr_at (n := n) hlt)
      have hkc : (k : Int) ≤ (cap : Int) := by omega
      by_cases h1 : I[k].slot < 0
      · have HX := Lib.hid (HF.out.trans (if_pos (.inl h1))); clear HF
        go_wp2
        go_ret
        exact ⟨ret_i (by unfold irregsErr; rw [errOf_at hlt HQ.out (by rw [HX.out]; decide), HX.out]), HB.out.alloc HB.out.size _⟩
      by_cases h2 : (n : Int) ≤ I[k].slot
      · have HX := Lib.hid (HF.out.trans (if_pos (.inr h2))); clear HF
        go_wp2
        go_ret
        exact ⟨ret_i (by unfold irregsErr; rw [errOf_at hlt HQ.out (by rw [HX.out]; decide), HX.out]), HB.out.alloc HB.out.size _⟩
      have HF2 := Lib.hid (HF.out.trans (if_neg (by omega))); clear HF
      go_wp2
      have hx2 : (wr.alloc (.cells #[.int .i64 I[k].slot, .string I[k].word] 74)).cell? ⟨wr.heap.size, 0, none⟩ = some (.int .i64 I[k].slot) := by rw [World.cell?_alloc_new]; rfl
      have hx3 : (wr.alloc (.cells #[.int .i64 I[k].slot, .string I[k].word] 74)).cell? ⟨wr.heap.size, 1, none⟩ = some (.string I[k].word) := by rw [World.cell?_alloc_new]; rfl
      have hbw : Below w.heap.size w (wr.alloc (.cells #[.int .i64 I[k].slot, .string I[k].word] 74)) := HB.out.alloc HB.out.size _
      have hlt3 : wr.heap.size < (wr.alloc (.cells #[.int .i64 I[k].slot, .string I[k].word] 74)).heap.size := by simp
      generalize wr.alloc (.cells #[.int .i64 I[k].slot, .string I[k].word] 74) = wx at hx2 hx3 hbw hlt3 ⊢
      have HBW := Lib.hid hbw; clear hbw
      have HUP := Lib.hid ((HV.out.step HBW.out).upto (k := k) (by omega))
      go_region_held3 (fun w' => w'.cell? ⟨wr.heap.size, 0, none⟩ = some (.int .i64 I[k].slot))
        (first
          | go_keep
          | (rw [hb2.cell (p := ⟨wr.heap.size, 0, none⟩) (by simp; omega)]; assumption))
        ((go_simp; go_at_call 88; refine (irregularOf_any I k _ I[k].slot _ (by exact HUP.out) (by omega)).mono ?_; rintro e w2 ⟨rfl, hb2⟩))
      rename_i hHeld
      have HBW2 := Lib.hid (HBW.out.drew.trans (hb2.mono HBW.out.size))
      have x3 : w2.cell? ⟨wr.heap.size, 1, none⟩ = some (.string I[k].word) := by
        rw [hb2.cell (p := ⟨wr.heap.size, 1, none⟩) hlt3]; exact hx3
      clear hHeld hx2 hx3 x0 x1 hb2
      by_cases hi : 0 ≤ irrIdx I k I[k].slot
      · have HX := Lib.hid (HF2.out.trans (if_pos hi)); clear HF2
        go_wp2
        go_ret
        exact ⟨ret_i (by unfold irregsErr; rw [errOf_at hlt HQ.out (by rw [HX.out]; decide), HX.out]), HBW2.out⟩
      have HF3 := Lib.hid (HF2.out.trans (if_neg hi)); clear HF2
      cases hem : I[k].word.toList.isEmpty
      · cases hpl : plainB I[k].word
        · have HX := Lib.hid (HF3.out.trans (if_pos ⟨hem, hpl⟩)); clear HF3
          go_wp2_with (go_at_call 75; refine (plain_any _ _ hsz).mono ?_; rintro e w' ⟨rfl, rfl⟩)
          go_ret
          exact ⟨ret_i (by unfold irregsErr; rw [errOf_at hlt HQ.out (by rw [HX.out]; decide), HX.out]), HBW2.out⟩
        · have HX := Lib.hid (HF3.out.trans (if_neg (by rw [hpl]; simp))); clear HF3
          go_wp2_with (go_at_call 75; refine (plain_any _ _ hsz).mono ?_; rintro e w' ⟨rfl, rfl⟩)
          go_roundw
          case rel => exact ⟨k + 1, by omega, by go_num, below_succ HQ.out HX.out, HBW2.out⟩
          case measure => simp [intOf]; omega
      · have HX := Lib.hid (HF3.out.trans (if_neg (by rw [hem]; simp))); clear HF3
        go_wp2
        go_roundw
        case rel => exact ⟨k + 1, by omega, by go_num, below_succ HQ.out HX.out, HBW2.out⟩
        case measure => simp [intOf]; omega
    · go_wp2
      go_ret
      exact ⟨ret_i (by unfold irregsErr; rw [errOf_none fun j hj => HQ.out j (by omega)]), HB.out⟩
def entryErr (T : List Tra) (C : List Cla) (E : List Ent) (i : Nat) : Int := match E[i]? with
  | some x => if plainB x.lem = false then 1 else if classIdx C C.length x.cls < 0 then 5 else if 0 ≤ entIdx E i x.lem x.cls then 6 else if bundleErr T x.fs ≠ 0 then bundleErr T x.fs
    else match C[(classIdx C C.length x.cls).toNat]? with
      | some c => if 0 ≤ sloIdx x.fs c.slots then 10 else irregsErr x.forms c.slots.length
      | none => 0
  | none => 0
def entriesErr (T : List Tra) (C : List Cla) (E : List Ent) : Int := if 128 < E.length then 3 else errOf E.length (entryErr T C E)
theorem entryErr_at {T : List Tra} {C : List Cla} {E : List Ent} {k : Nat} (hk : k < E.length) : entryErr T C E k = if plainB E[k].lem = false then 1 else if classIdx C C.length E[k].cls < 0 then 5 else if 0 ≤ entIdx E k E[k].lem E[k].cls then 6 else if bundleErr T E[k].fs ≠ 0 then bundleErr T E[k].fs
    else match C[(classIdx C C.length E[k].cls).toNat]? with
      | some c => if 0 ≤ sloIdx E[k].fs c.slots then 10 else irregsErr E[k].forms c.slots.length
      | none => 0 := by
  unfold entryErr
  rw [List.getElem?_eq_getElem hk]
theorem entryErr_in {T : List Tra} {C : List Cla} {E : List Ent} {k ci : Nat} (hk : k < E.length) (hc : ci < C.length) (h : classIdx C C.length E[k].cls = (ci : Int)) (hp : plainB E[k].lem = true) : entryErr T C E k = if 0 ≤ entIdx E k E[k].lem E[k].cls then 6 else if bundleErr T E[k].fs ≠ 0 then bundleErr T E[k].fs
    else if 0 ≤ sloIdx E[k].fs C[ci].slots then 10 else irregsErr E[k].forms C[ci].slots.length := by
  rw [entryErr_at hk, if_neg (by rw [hp]; simp), if_neg (by rw [h]; omega), h]
  simp only [Int.toNat_natCast, List.getElem?_eq_getElem hc]
theorem bundle_short {T : List Tra} {b : List Ft} (h : bundleErr T b = 0) : b.length ≤ 8 := by
  unfold bundleErr at h
  split at h
  · cases h
  · omega
/-- cells of a block of the call's own, at its making and later -/
theorem local_at {wr wx : World} {cs : Array Value} {t : TypeId} (hb : Below (wr.alloc (.cells cs t)).heap.size (wr.alloc (.cells cs t)) wx) (i : Nat) : wx.cell? ⟨wr.heap.size, i, none⟩ = cs[i]? := by
  rw [hb.cell (p := ⟨wr.heap.size, i, none⟩) (by simp)]
  exact World.cell?_alloc_new wr _ _ _
theorem EntsAt.forms {w : World} {v : Value} {E : List Ent} (h : EntsAt w v E) : ∀ t ∈ E, (∃ p m c, t.fv = .slice p m c) ∧ ∃ p m c, t.mv = .slice p m c := fun x hx => by
  obtain ⟨q, c, hq, _⟩ := open_row (h.2 x hx).1
  obtain ⟨p, c', e, _⟩ := (h.2 x hx).2.1
  exact ⟨⟨q, _, c, hq⟩, p, _, c', e⟩
set_option maxRecDepth 100000 in
set_option maxHeartbeats 8000000 in
theorem checkEntries_any (L : Lex) (w : World) (hL : LexAt w L) (hS : ∀ c ∈ L.classes, ∀ s ∈ c.slots, s.fs.length ≤ 100) :
    Calls Tryz.prog 37 #[L.val] w fun e w' => e = .returned (.int .u8 (entriesErr L.traits L.classes L.entries)) ∧ Below w.heap.size w w' := by
  obtain ⟨p1, c1, p2, c2, p3, c3, p4, c4, p5, c5, e1, e2, e3, e4, e5, hc1, hm1, hc2, hm2, hc3, hm3, _⟩ := lex_forms hL
  have HL := Lib.hid hL; clear hL
  have HSH := Lib.hid hS; clear hS
  have hval : L.val = .agg #[.string L.vowels, .slice p1 L.traits.length c1, .slice p2 L.classes.length c2, .slice p3 L.entries.length c3, .slice p4 L.spells.length c4, .slice p5 L.links.length c5] := by unfold Lex.val; rw [e1, e2, e3, e4, e5]
  have HO := Lib.hid (show boxed L = .cells #[.string L.vowels, .slice p1 L.traits.length c1, .slice p2 L.classes.length c2, .slice p3 L.entries.length c3, .slice p4 L.spells.length c4, .slice p5 L.links.length c5] 28 by unfold boxed; rw [e1, e2, e3, e4, e5])
  rw [hval]
  unfold maxLen at hm1 hm2 hm3
  have ag := Tryz.isAgg72
  have zg := Tryz.sizeOf72
  have ag2 := Tryz.isAgg67
  have zg2 := Tryz.sizeOf67
  by_cases h8 : (128 : Int) < (L.entries.length : Int)
  · go_enter Tryz.func37, Tryz.ntmps37
    go_wp2
    go_ret
    exact ⟨ret_i (by unfold entriesErr; rw [if_pos (by omega)]), below_one _ _⟩
  have HE : Hid (entriesErr L.traits L.classes L.entries = errOf L.entries.length (entryErr L.traits L.classes L.entries)) := Lib.hid (by unfold entriesErr; rw [if_neg (by omega)])
  go_enter Tryz.func37, Tryz.ntmps37
  go_wp2
  go_loopw [16] (fun i wr => ∃ k : Nat, k ≤ L.entries.length ∧ i = .int .i64 k ∧ (∀ j, j < k → entryErr L.traits L.classes L.entries j = 0) ∧ Below (w.alloc (boxed L)).heap.size (w.alloc (boxed L)) wr) (fun i _ => L.entries.length - (intOf i).toNat)
  case atStart => exact ⟨0, by omega, rfl, fun i h => by omega, by rw [HO.out]; exact Below.refl _ _⟩
  case round =>
    obtain ⟨k, hk, rfl, hq, hB⟩ := hrel
    have HQ := Lib.hid hq; clear hq
    have HB := Lib.hid hB; clear hB
    by_cases hlt : k < L.entries.length
    · rename World => wr
      have HW := Lib.hid ((below_one w (boxed L)).trans (HB.out.mono (by simp)))
      have hrow0 := (HL.out.ents.step HW.out).1
      rw [e3] at hrow0
      obtain ⟨_, _, es, _, _, hrow⟩ := hrow0
      cases es
      obtain ⟨A, rfl, hA, hcell⟩ := hrow (by omega)
      obtain ⟨hfr, hir, hlem, hcls, hwd⟩ := HL.out.ents.2 L.entries[k] (List.getElem_mem _)
      obtain ⟨q1, d1, hfv, _, _, _⟩ := open_row hfr
      obtain ⟨q2, d2, hmv, _, _⟩ := hir.form
      have x0 : wr.cell? (A.add (k * 4)) = some (.string L.entries[k].lem) := by
        have := hcell k 0 hlt (by omega)
        simpa [entF, hlt] using this
      have x1 : wr.cell? { block := (A.add (k * 4)).block, off := (A.add (k * 4)).off + 1 } = some (.string L.entries[k].cls) := by
        have := cell_at 1 (by omega) (hcell k 1 hlt (by omega))
        simpa [entF, hlt] using this
      have x2 : wr.cell? { block := (A.add (k * 4)).block, off := (A.add (k * 4)).off + 2 } = some (.slice q1 L.entries[k].fs.length d1) := by
        have := cell_at 2 (by omega) (hcell k 2 hlt (by omega))
        simpa [entF, hlt, hfv] using this
      have x3 : wr.cell? { block := (A.add (k * 4)).block, off := (A.add (k * 4)).off + 3 } = some (.slice q2 L.entries[k].forms.length d2) := by
        have := cell_at 3 (by omega) (hcell k 3 hlt (by omega))
        simpa [entF, hlt, hmv] using this
      have b2 : wr.cell? ⟨w.heap.size, 2, none⟩ = some (.slice p2 L.classes.length c2) := by rw [boxed_at w L HB.out 2, e2]; rfl
      have hkc : (k : Int) ≤ (c3 : Int) := by omega
      have hws : w.heap.size < wr.heap.size := by have := HB.out.size; simp at this; omega
      have HFR := Lib.hid hfr; clear hfr
      have HIR := Lib.hid hir; clear hir
      have HWD := Lib.hid hwd; clear hwd
      clear hcell hrow
      have HX0 := Lib.hid (HB.out.alloc HB.out.size (.cells #[.string L.entries[k].lem, .string L.entries[k].cls, .slice q1 L.entries[k].fs.length d1, .slice q2 L.entries[k].forms.length d2] 72))
      have HW0 := Lib.hid (HW.out.alloc HW.out.size (.cells #[.string L.entries[k].lem, .string L.entries[k].cls, .slice q1 L.entries[k].fs.length d1, .slice q2 L.entries[k].forms.length d2] 72))
      cases hpl : plainB L.entries[k].lem
      · have HX := Lib.hid ((entryErr_at (T := L.traits) (C := L.classes) hlt).trans (if_pos hpl))
        go_wp2_with (go_at_call 75; refine (plain_any _ _ hlem).mono ?_; rintro e w' ⟨rfl, rfl⟩)
        go_ret
        exact ⟨ret_i (by rw [HE.out, errOf_at hlt HQ.out (by rw [HX.out]; decide), HX.out]), HW0.out⟩
      have HCL := Lib.hid (e2 ▸ (HL.out.clas.step HW0.out).1)
      have HCF := Lib.hid HL.out.clas.forms
      rcases idxOf_cases L.classes.length (claQ L.classes L.entries[k].cls) with ⟨hneg, _⟩ | ⟨ci, hci, _, _, heq⟩
      · have HI : Hid (classIdx L.classes L.classes.length L.entries[k].cls = -1) := Lib.hid hneg
        clear hneg
        have HX := Lib.hid ((entryErr_at (T := L.traits) (C := L.classes) hlt).trans ((if_neg (by rw [hpl]; simp)).trans (if_pos (by rw [HI.out]; decide))))
        go_wp2_with (first
          | (go_at_call 75; refine (plain_any _ _ hlem).mono ?_; rintro e w' ⟨rfl, rfl⟩)
          | (go_at_call 73; refine (classOf_any L.classes L.classes.length _ L.entries[k].cls _ HCL.out (Nat.le_refl _) HCF.out).mono ?_; rintro e w2 ⟨he, hb2⟩; rw [HI.out] at he; subst he; have HB2 := Lib.hid (HW0.out.trans (hb2.mono HW0.out.size)); clear hb2))
        go_ret
        exact ⟨ret_i (by rw [HE.out, errOf_at hlt HQ.out (by rw [HX.out]; decide), HX.out]), HB2.out⟩
      · have HI : Hid (classIdx L.classes L.classes.length L.entries[k].cls = (ci : Int)) := Lib.hid heq
        clear heq
        have HF := Lib.hid (entryErr_in (T := L.traits) hlt hci HI.out hpl)
        obtain ⟨pc, cc, ec, _, _, hrowC⟩ := HL.out.clas.1
        rw [e2] at ec
        cases ec
        obtain ⟨CA, rfl, hbC, hcellC⟩ := hrowC (by omega)
        obtain ⟨⟨hsl4, hslr⟩, _⟩ := HL.out.clas.2 L.classes[ci] (List.getElem_mem _)
        obtain ⟨pS, cS, hsv, _, _⟩ := hsl4.form
        have HC1 := Lib.hid (show w.cell? { block := (CA.add (ci * 2)).block, off := (CA.add (ci * 2)).off + 1 } = some (.slice pS L.classes[ci].slots.length cS) by
          have := cell_next (hcellC ci 1 hci (by omega))
          simpa [claF, hci, hsv] using this)
        have HCB0 := Lib.hid (show (CA.add (ci * 2)).block < w.heap.size by rw [add_block]; exact hbC)
        have HS4 := Lib.hid (hsv ▸ hsl4)
        have HSR := Lib.hid (show ∀ s ∈ L.classes[ci].slots, ReadsIn w.heap.size w s.fv s.fs ∧ s.fs.length ≤ 100 from fun s hs => ⟨(hslr s hs).1, HSH.out _ (List.getElem_mem _) s hs⟩)
        clear hrowC hcellC hsl4 hslr hsv
        have hci2 : (0 : Int) ≤ (ci : Int) := by omega
        have hci0 : ¬ ((ci : Int) < 0) := by omega
        have hci1 : (ci : Int) < (L.classes.length : Int) := by omega
        go_wp2_with (first
          | (go_at_call 75; refine (plain_any _ _ hlem).mono ?_; rintro e w' ⟨rfl, rfl⟩)
          | (go_at_call 73; refine (classOf_any L.classes L.classes.length _ L.entries[k].cls _ HCL.out (Nat.le_refl _) HCF.out).mono ?_; rintro e w2 ⟨he, hb2⟩; rw [HI.out] at he; subst he; have HBX := Lib.hid (HX0.out.trans (hb2.mono HX0.out.size)); have HBW := Lib.hid (HW0.out.trans (hb2.mono HW0.out.size)); have HBL := Lib.hid hb2; clear hb2))
        have b3 : w2.cell? ⟨w.heap.size, 3, none⟩ = some (.slice (some A) L.entries.length c3) := by rw [boxed_at w L HBX.out 3, e3]; rfl
        have l0 : w2.cell? ⟨wr.heap.size, 0, none⟩ = some (.string L.entries[k].lem) := by rw [local_at HBL.out 0]; rfl
        have l1 : w2.cell? ⟨wr.heap.size, 1, none⟩ = some (.string L.entries[k].cls) := by rw [local_at HBL.out 1]; rfl
        have hsz2 : wr.heap.size < w2.heap.size := by have := HBL.out.size; simp at this; omega
        clear x0 x1 x2 x3 b2
        have HUP := Lib.hid ((e3 ▸ (HL.out.ents.step HBW.out).1).upto (k := k) (by omega))
        have HEF := Lib.hid HL.out.ents.forms
        go_region_held3 (fun w' => w'.cell? ⟨w.heap.size, 3, none⟩ = some (.slice (some A) L.entries.length c3) ∧ w'.cell? ⟨wr.heap.size, 0, none⟩ = some (.string L.entries[k].lem) ∧ w'.cell? ⟨wr.heap.size, 1, none⟩ = some (.string L.entries[k].cls))
          (first
            | go_keep
            | (refine ⟨?_, ?_, ?_⟩
               · (rw [hb3.cell (p := ⟨w.heap.size, 3, none⟩) (by simp; omega)]; assumption)
               · (rw [hb3.cell (p := ⟨wr.heap.size, 0, none⟩) (by simp; omega)]; assumption)
               · (rw [hb3.cell (p := ⟨wr.heap.size, 1, none⟩) (by simp; omega)]; assumption)))
          ((go_simp; go_at_call 63; refine (find_any L.entries k _ L.entries[k].lem L.entries[k].cls _ (by exact HUP.out) (by omega) HEF.out).mono ?_; rintro e w3 ⟨rfl, hb3⟩))
        rename_i hHeld
        have HBW3 := Lib.hid (HBW.out.drew.trans (hb3.mono HBW.out.size))
        have HBX3 := Lib.hid (HBX.out.drew.trans (hb3.mono HBX.out.size))
        have HBL3 := Lib.hid (HBL.out.drew.trans (hb3.mono HBL.out.size))
        clear hHeld b3 l0 l1 hb3 HBW HBX HBL
        by_cases hi : 0 ≤ entIdx L.entries k L.entries[k].lem L.entries[k].cls
        · have HX := Lib.hid (HF.out.trans (if_pos hi)); clear HF
          go_wp2
          go_ret
          exact ⟨ret_i (by rw [HE.out, errOf_at hlt HQ.out (by rw [HX.out]; decide), HX.out]), HBW3.out⟩
        have HF2 := Lib.hid (HF.out.trans (if_neg hi)); clear HF
        have b1 : w3.cell? ⟨w.heap.size, 1, none⟩ = some (.slice p1 L.traits.length c1) := by rw [boxed_at w L HBX3.out 1, e1]; rfl
        have l2 : w3.cell? ⟨wr.heap.size, 2, none⟩ = some (.slice q1 L.entries[k].fs.length d1) := by rw [local_at HBL3.out 2]; rfl
        have HCB := Lib.hid (checkBundle_any L.traits L.entries[k].fs _ _ w3 (e1 ▸ HL.out.tras.step HBW3.out) (hfv ▸ reads_step HBW3.out HFR.out))
        by_cases hbe : bundleErr L.traits L.entries[k].fs = 0
        · have HF3 := Lib.hid (HF2.out.trans (if_neg (by rw [hbe]; simp))); clear HF2
          have hshort := bundle_short hbe
          by_cases hsl : 0 ≤ sloIdx L.entries[k].fs L.classes[ci].slots
          · have HX := Lib.hid (HF3.out.trans (if_pos hsl)); clear HF3
            have hdec : decide (0 ≤ sloIdx L.entries[k].fs L.classes[ci].slots) = true := decide_eq_true hsl
            go_wp2_with (first | (go_at_call 46; refine HCB.out.mono ?_; rintro e w4 ⟨rfl, hb4⟩; have HBW := Lib.hid (HBW3.out.trans (hb4.mono HBW3.out.size)); have HBX := Lib.hid (HBX3.out.trans (hb4.mono HBX3.out.size)); have HBL := Lib.hid (HBL3.out.trans (hb4.mono HBL3.out.size)); clear hb4; have b2 := (show w4.cell? ⟨w.heap.size, 2, none⟩ = some (.slice (some CA) L.classes.length c2) by rw [boxed_at w L HBX.out 2, e2]; rfl); have l2' := (show w4.cell? ⟨wr.heap.size, 2, none⟩ = some (.slice q1 L.entries[k].fs.length d1) by rw [local_at HBL.out 2]; rfl); have k1 := (show w4.cell? { block := (CA.add (ci * 2)).block, off := (CA.add (ci * 2)).off + 1 } = some (.slice pS L.classes[ci].slots.length cS) by rw [HBW.out.cell (p := ⟨(CA.add (ci * 2)).block, (CA.add (ci * 2)).off + 1, none⟩) HCB0.out]; exact HC1.out); have HCO := Lib.hid (contradict_any L.classes[ci].slots _ L.entries[k].fs _ w4 (HS4.out.step HBW.out) (fun s hs => ⟨reads_step HBW.out (HSR.out s hs).1, (HSR.out s hs).2⟩) (hfv ▸ reads_step HBW.out HFR.out) (by omega))) | (go_at_call 76; refine HCO.out.mono ?_; rintro e w5 ⟨rfl, hb5⟩; have HBW5 := Lib.hid (HBW.out.trans (hb5.mono HBW.out.size)); have HBX5 := Lib.hid (HBX.out.trans (hb5.mono HBX.out.size)); have HBL5 := Lib.hid (HBL.out.trans (hb5.mono HBL.out.size)); clear hb5 b2 l2' k1; have l3 := (show w5.cell? ⟨wr.heap.size, 3, none⟩ = some (.slice q2 L.entries[k].forms.length d2) by rw [local_at HBL5.out 3]; rfl); have HCI := Lib.hid (checkIrregulars_any L.entries[k].forms _ L.classes[ci].slots.length w5 (hmv ▸ HIR.out.step HBW5.out) HWD.out)))
            go_ret
            exact ⟨ret_i (by rw [HE.out, errOf_at hlt HQ.out (by rw [HX.out]; decide), HX.out]), HBW5.out⟩
          · have HF4 := Lib.hid (HF3.out.trans (if_neg hsl)); clear HF3
            have hdec : decide (0 ≤ sloIdx L.entries[k].fs L.classes[ci].slots) = false := decide_eq_false hsl
            by_cases hir0 : irregsErr L.entries[k].forms L.classes[ci].slots.length = 0
            · have HX := Lib.hid (HF4.out.trans hir0); clear HF4
              go_wp2_with (first | (go_at_call 46; refine HCB.out.mono ?_; rintro e w4 ⟨rfl, hb4⟩; have HBW := Lib.hid (HBW3.out.trans (hb4.mono HBW3.out.size)); have HBX := Lib.hid (HBX3.out.trans (hb4.mono HBX3.out.size)); have HBL := Lib.hid (HBL3.out.trans (hb4.mono HBL3.out.size)); clear hb4; have b2 := (show w4.cell? ⟨w.heap.size, 2, none⟩ = some (.slice (some CA) L.classes.length c2) by rw [boxed_at w L HBX.out 2, e2]; rfl); have l2' := (show w4.cell? ⟨wr.heap.size, 2, none⟩ = some (.slice q1 L.entries[k].fs.length d1) by rw [local_at HBL.out 2]; rfl); have k1 := (show w4.cell? { block := (CA.add (ci * 2)).block, off := (CA.add (ci * 2)).off + 1 } = some (.slice pS L.classes[ci].slots.length cS) by rw [HBW.out.cell (p := ⟨(CA.add (ci * 2)).block, (CA.add (ci * 2)).off + 1, none⟩) HCB0.out]; exact HC1.out); have HCO := Lib.hid (contradict_any L.classes[ci].slots _ L.entries[k].fs _ w4 (HS4.out.step HBW.out) (fun s hs => ⟨reads_step HBW.out (HSR.out s hs).1, (HSR.out s hs).2⟩) (hfv ▸ reads_step HBW.out HFR.out) (by omega))) | (go_at_call 76; refine HCO.out.mono ?_; rintro e w5 ⟨rfl, hb5⟩; have HBW5 := Lib.hid (HBW.out.trans (hb5.mono HBW.out.size)); have HBX5 := Lib.hid (HBX.out.trans (hb5.mono HBX.out.size)); have HBL5 := Lib.hid (HBL.out.trans (hb5.mono HBL.out.size)); clear hb5 b2 l2' k1; have l3 := (show w5.cell? ⟨wr.heap.size, 3, none⟩ = some (.slice q2 L.entries[k].forms.length d2) by rw [local_at HBL5.out 3]; rfl); have HCI := Lib.hid (checkIrregulars_any L.entries[k].forms _ L.classes[ci].slots.length w5 (hmv ▸ HIR.out.step HBW5.out) HWD.out)) | (go_at_call 77; refine HCI.out.mono ?_; rintro e w6 ⟨rfl, hb6⟩; have HBW6 := Lib.hid (HBW5.out.trans (hb6.mono HBW5.out.size)); have HBX6 := Lib.hid (HBX5.out.trans (hb6.mono HBX5.out.size)); clear hb6))
              go_roundw
              case rel => exact ⟨k + 1, by omega, by go_num, below_succ HQ.out HX.out, HBX6.out⟩
              case measure => simp [intOf]; omega
            · have HNZ := Lib.hid hir0
              go_wp2_with (first | (go_at_call 46; refine HCB.out.mono ?_; rintro e w4 ⟨rfl, hb4⟩; have HBW := Lib.hid (HBW3.out.trans (hb4.mono HBW3.out.size)); have HBX := Lib.hid (HBX3.out.trans (hb4.mono HBX3.out.size)); have HBL := Lib.hid (HBL3.out.trans (hb4.mono HBL3.out.size)); clear hb4; have b2 := (show w4.cell? ⟨w.heap.size, 2, none⟩ = some (.slice (some CA) L.classes.length c2) by rw [boxed_at w L HBX.out 2, e2]; rfl); have l2' := (show w4.cell? ⟨wr.heap.size, 2, none⟩ = some (.slice q1 L.entries[k].fs.length d1) by rw [local_at HBL.out 2]; rfl); have k1 := (show w4.cell? { block := (CA.add (ci * 2)).block, off := (CA.add (ci * 2)).off + 1 } = some (.slice pS L.classes[ci].slots.length cS) by rw [HBW.out.cell (p := ⟨(CA.add (ci * 2)).block, (CA.add (ci * 2)).off + 1, none⟩) HCB0.out]; exact HC1.out); have HCO := Lib.hid (contradict_any L.classes[ci].slots _ L.entries[k].fs _ w4 (HS4.out.step HBW.out) (fun s hs => ⟨reads_step HBW.out (HSR.out s hs).1, (HSR.out s hs).2⟩) (hfv ▸ reads_step HBW.out HFR.out) (by omega))) | (go_at_call 76; refine HCO.out.mono ?_; rintro e w5 ⟨rfl, hb5⟩; have HBW5 := Lib.hid (HBW.out.trans (hb5.mono HBW.out.size)); have HBX5 := Lib.hid (HBX.out.trans (hb5.mono HBX.out.size)); have HBL5 := Lib.hid (HBL.out.trans (hb5.mono HBL.out.size)); clear hb5 b2 l2' k1; have l3 := (show w5.cell? ⟨wr.heap.size, 3, none⟩ = some (.slice q2 L.entries[k].forms.length d2) by rw [local_at HBL5.out 3]; rfl); have HCI := Lib.hid (checkIrregulars_any L.entries[k].forms _ L.classes[ci].slots.length w5 (hmv ▸ HIR.out.step HBW5.out) HWD.out)) | (go_at_call 77; refine HCI.out.mono ?_; rintro e w6 ⟨rfl, hb6⟩; have HBW6 := Lib.hid (HBW5.out.trans (hb6.mono HBW5.out.size)); have HBX6 := Lib.hid (HBX5.out.trans (hb6.mono HBX5.out.size)); clear hb6))
              go_ret
              exact ⟨ret_i (by rw [HE.out, errOf_at hlt HQ.out (by rw [HF4.out]; exact HNZ.out), HF4.out]), HBW6.out⟩
        · have HF3 := Lib.hid (HF2.out.trans (if_pos hbe)); clear HF2
          have HNZ := Lib.hid hbe
          go_wp2_with (go_at_call 46; refine HCB.out.mono ?_; rintro e w4 ⟨rfl, hb4⟩; have HBW := Lib.hid (HBW3.out.trans (hb4.mono HBW3.out.size)); clear hb4)
          go_ret
          exact ⟨ret_i (by rw [HE.out, errOf_at hlt HQ.out (by rw [HF3.out]; exact HNZ.out), HF3.out]), HBW.out⟩
    · go_wp2
      go_ret
      exact ⟨ret_i (by rw [HE.out, errOf_none fun j hj => HQ.out j (by omega)]), (below_one w (boxed L)).trans (HB.out.mono (by simp))⟩
end Go.Proofs.YtgddmegjncbndaaGreatDoor
