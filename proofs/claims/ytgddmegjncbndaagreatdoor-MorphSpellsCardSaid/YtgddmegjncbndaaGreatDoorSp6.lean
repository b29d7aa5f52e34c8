/- A spelling rule of a lexicon, applied to a string: the program's answer and the specification's. -/
import Derived.Test.YtgddmegjncbndaaGreatDoorSp5
namespace Go.Proofs.YtgddmegjncbndaaGreatDoor
open Go Go.RowKit
theorem vowels_letters {L : Lex} (h : checkErr L = 0) : allB isL L.vowels = true := by
  have h0 : vowelsErr L.vowels = 0 := errOf_zero h 0 (by omega)
  cases hx : allB isL L.vowels
  · rw [vowels_not hx] at h0; cases h0
  · rfl
structure SpellOk (r : Spe) : Prop where
  pos : 0 < r.frm.size
  frm : r.frm.size ≤ 6
  to : r.to.size ≤ 6
  left : r.left.size ≤ 6
  right : r.right.size ≤ 6
  frmP : allB isP r.frm = true
  toP : allB isP r.to = true
  leftS : allB isS r.left = true
  rightS : allB isS r.right = true
theorem pat_ok {p : Int → Bool} {s : ByteArray} (h : ¬ patB p s = false) : s.size ≤ 6 ∧ allB p s = true := by
  unfold patB at h
  simp at h
  exact h
theorem spell_ok {L : Lex} {k : Nat} (h : checkErr L = 0) (hk : k < L.spells.length) : SpellOk L.spells[k] := by
  have h4 : spellsErr L.spells = 0 := errOf_zero h 4 (by omega)
  unfold spellsErr at h4
  split at h4
  · cases h4
  have h5 := errOf_zero h4 k hk
  rw [spellErr_at hk] at h5
  split at h5
  · cases h5
  rename_i hn
  simp only [not_or] at hn
  obtain ⟨n1, n2, n3, n4, n5⟩ := hn
  obtain ⟨a1, b1⟩ := pat_ok n2
  obtain ⟨a2, b2⟩ := pat_ok n3
  obtain ⟨a3, b3⟩ := pat_ok n4
  obtain ⟨a4, b4⟩ := pat_ok n5
  refine ⟨?_, a1, a2, a3, a4, b1, b2, b3, b4⟩
  rcases Nat.eq_zero_or_pos L.spells[k].frm.size with h0 | h0
  · exact absurd (isempty (s := L.spells[k].frm) (by omega)) n1
  · exact h0
/-- What Spell answers. -/
def spellOf (L : Lex) (rule : Int) (s : ByteArray) : ByteArray × Int :=
  if checkErr L ≠ 0 then (⟨#[]⟩, checkErr L) else if rule < 0 ∨ (L.spells.length : Int) ≤ rule then (⟨#[]⟩, 7) else if allB isP s = false then (⟨#[]⟩, 1)
  else match L.spells[rule.toNat]? with
    | some r => (match respB L.vowels r s with | some x => (x, 0) | none => (⟨#[]⟩, 3))
    | none => (⟨#[]⟩, 7)
theorem spellOf_bad {L : Lex} {rule : Int} {s : ByteArray} (h : checkErr L ≠ 0) : spellOf L rule s = (⟨#[]⟩, checkErr L) := if_pos h
theorem spellOf_none {L : Lex} {rule : Int} {s : ByteArray} (h : checkErr L = 0) (hr : rule < 0 ∨ (L.spells.length : Int) ≤ rule) : spellOf L rule s = (⟨#[]⟩, 7) := (if_neg (by rw [h]; simp)).trans (if_pos hr)
theorem spellOf_arg {L : Lex} {rule : Int} {s : ByteArray} (h : checkErr L = 0) (hr : ¬ (rule < 0 ∨ (L.spells.length : Int) ≤ rule)) (hs : allB isP s = false) : spellOf L rule s = (⟨#[]⟩, 1) := (if_neg (by rw [h]; simp)).trans ((if_neg hr).trans (if_pos hs))
theorem spellOf_in {L : Lex} {k : Nat} {s : ByteArray} (h : checkErr L = 0) (hk : k < L.spells.length) (hs : allB isP s = true) : spellOf L (k : Int) s = match respB L.vowels L.spells[k] s with | some x => (x, 0) | none => (⟨#[]⟩, 3) := by
  unfold spellOf
  rw [if_neg (by rw [h]; simp), if_neg (by omega), if_neg (by rw [hs]; simp)]
  simp [hk]
def spellRet (p : ByteArray × Int) : Ending := .returned (.tuple #[.string p.1, .int .u8 p.2])
set_option maxRecDepth 100000 in
set_option maxHeartbeats 4000000 in
theorem spell_any (L : Lex) (rule : Int) (s : ByteArray) (w : World) (hL : LexAt w L) (hs : s.size ≤ 1000) :
    Calls Tryz.prog 14 #[L.val, .int .i64 rule, .string s] w fun e w' => e = spellRet (spellOf L rule s) ∧ Below w.heap.size w w' := by
  obtain ⟨p1, c1, p2, c2, p3, c3, p4, c4, p5, c5, e1, e2, e3, e4, e5, hc1, hm1, hc2, hm2, hc3, hm3, hc4, hm4, hc5, hm5⟩ := lex_forms hL
  have HL := Lib.hid hL; clear hL
  have hval : L.val = .agg #[.string L.vowels, .slice p1 L.traits.length c1, .slice p2 L.classes.length c2, .slice p3 L.entries.length c3, .slice p4 L.spells.length c4, .slice p5 L.links.length c5] := by unfold Lex.val; rw [e1, e2, e3, e4, e5]
  have HVAL := Lib.hid hval
  have HO := Lib.hid (show boxed L = .cells #[.string L.vowels, .slice p1 L.traits.length c1, .slice p2 L.classes.length c2, .slice p3 L.entries.length c3, .slice p4 L.spells.length c4, .slice p5 L.links.length c5] 28 by unfold boxed; rw [e1, e2, e3, e4, e5])
  rw [hval]
  clear hval
  have ag := Tryz.isAgg28
  have zg := Tryz.sizeOf28
  have agp := Tryz.isAgg76
  have zgp := Tryz.sizeOf76
  unfold maxLen at hm4
  have HS := Lib.hid (show s.size ≤ maxLen by unfold maxLen; omega)
  have HC := Lib.hid (HVAL.out ▸ HO.out ▸ check_any L (w.alloc (boxed L)) (HL.out.step (below_one w (boxed L))))
  by_cases hz : checkErr L = 0
  rotate_left
  · have HX := Lib.hid (spellOf_bad (rule := rule) (s := s) hz)
    go_enter Tryz.func14, Tryz.ntmps14
    go_wp2_with (go_at_call 10; refine (HC.out).mono ?_; rintro e w2 ⟨rfl, hb2⟩; rw [← HO.out] at hb2; have HB2 := Lib.hid hb2; have HW2 := Lib.hid ((below_one w (boxed L)).trans (hb2.mono (by simp))); clear hb2; skip)
    go_ret2
    exact ⟨by rw [HX.out]; rfl, HW2.out⟩
  by_cases hr1 : rule < 0
  · have HX := Lib.hid (spellOf_none (s := s) hz (.inl hr1))
    go_enter Tryz.func14, Tryz.ntmps14
    go_wp2_with (go_at_call 10; refine (HC.out).mono ?_; rintro e w2 ⟨rfl, hb2⟩; rw [← HO.out] at hb2; have HB2 := Lib.hid hb2; have HW2 := Lib.hid ((below_one w (boxed L)).trans (hb2.mono (by simp))); clear hb2; have x0 := (show w2.cell? ⟨w.heap.size, 0, none⟩ = some (.string L.vowels) by rw [boxed_at w L HB2.out 0]; rfl); have x1 := (show w2.cell? ⟨w.heap.size, 1, none⟩ = some (.slice p1 L.traits.length c1) by rw [boxed_at w L HB2.out 1, e1]; rfl); have x2 := (show w2.cell? ⟨w.heap.size, 2, none⟩ = some (.slice p2 L.classes.length c2) by rw [boxed_at w L HB2.out 2, e2]; rfl); have x3 := (show w2.cell? ⟨w.heap.size, 3, none⟩ = some (.slice p3 L.entries.length c3) by rw [boxed_at w L HB2.out 3, e3]; rfl); have x4 := (show w2.cell? ⟨w.heap.size, 4, none⟩ = some (.slice p4 L.spells.length c4) by rw [boxed_at w L HB2.out 4, e4]; rfl); have x5 := (show w2.cell? ⟨w.heap.size, 5, none⟩ = some (.slice p5 L.links.length c5) by rw [boxed_at w L HB2.out 5, e5]; rfl); skip)
    go_ret2
    exact ⟨by rw [HX.out]; rfl, HW2.out⟩
  by_cases hr2 : (L.spells.length : Int) ≤ rule
  · have HX := Lib.hid (spellOf_none (s := s) hz (.inr hr2))
    go_enter Tryz.func14, Tryz.ntmps14
    go_wp2_with (go_at_call 10; refine (HC.out).mono ?_; rintro e w2 ⟨rfl, hb2⟩; rw [← HO.out] at hb2; have HB2 := Lib.hid hb2; have HW2 := Lib.hid ((below_one w (boxed L)).trans (hb2.mono (by simp))); clear hb2; have x0 := (show w2.cell? ⟨w.heap.size, 0, none⟩ = some (.string L.vowels) by rw [boxed_at w L HB2.out 0]; rfl); have x1 := (show w2.cell? ⟨w.heap.size, 1, none⟩ = some (.slice p1 L.traits.length c1) by rw [boxed_at w L HB2.out 1, e1]; rfl); have x2 := (show w2.cell? ⟨w.heap.size, 2, none⟩ = some (.slice p2 L.classes.length c2) by rw [boxed_at w L HB2.out 2, e2]; rfl); have x3 := (show w2.cell? ⟨w.heap.size, 3, none⟩ = some (.slice p3 L.entries.length c3) by rw [boxed_at w L HB2.out 3, e3]; rfl); have x4 := (show w2.cell? ⟨w.heap.size, 4, none⟩ = some (.slice p4 L.spells.length c4) by rw [boxed_at w L HB2.out 4, e4]; rfl); have x5 := (show w2.cell? ⟨w.heap.size, 5, none⟩ = some (.slice p5 L.links.length c5) by rw [boxed_at w L HB2.out 5, e5]; rfl); skip)
    go_ret2
    exact ⟨by rw [HX.out]; rfl, HW2.out⟩
  obtain ⟨k, rfl⟩ := Int.eq_ofNat_of_zero_le (show 0 ≤ rule by omega)
  have hk : k < L.spells.length := by omega
  have hk2 : (k : Int) < (L.spells.length : Int) := by omega
  have hk3 : ¬ ((L.spells.length : Int) ≤ (k : Int)) := by omega
  have hk4 : ¬ ((k : Int) < 0) := by omega
  have SK := Lib.hid (spell_ok hz hk)
  obtain ⟨_, _, eS, _, _, hrowS⟩ := (e4 ▸ HL.out.spes.1)
  cases eS
  obtain ⟨SA, rfl, hSA, hcellS⟩ := hrowS (by omega)
  have HSA := Lib.hid (show (SA.add (k * 4)).block < w.heap.size by rw [add_block]; exact hSA)
  have S0 := Lib.hid (show w.cell? (SA.add (k * 4)) = some (.string L.spells[k].frm) by
    have := hcellS k 0 hk (by omega)
    simpa [speF, hk] using this)
  have S1 := Lib.hid (show w.cell? { block := (SA.add (k * 4)).block, off := (SA.add (k * 4)).off + 1 } = some (.string L.spells[k].to) by
    have := cell_at 1 (by omega) (hcellS k 1 hk (by omega))
    simpa [speF, hk] using this)
  have S2 := Lib.hid (show w.cell? { block := (SA.add (k * 4)).block, off := (SA.add (k * 4)).off + 2 } = some (.string L.spells[k].left) by
    have := cell_at 2 (by omega) (hcellS k 2 hk (by omega))
    simpa [speF, hk] using this)
  have S3 := Lib.hid (show w.cell? { block := (SA.add (k * 4)).block, off := (SA.add (k * 4)).off + 3 } = some (.string L.spells[k].right) by
    have := cell_at 3 (by omega) (hcellS k 3 hk (by omega))
    simpa [speF, hk] using this)
  clear hcellS hrowS
  cases hal : allB isP s
  · have HX := Lib.hid (spellOf_arg hz (by omega) hal : spellOf L (k : Int) s = _)
    go_enter Tryz.func14, Tryz.ntmps14
    go_wp2_with (first | (go_at_call 10; refine (HC.out).mono ?_; rintro e w2 ⟨rfl, hb2⟩; rw [← HO.out] at hb2; have HB2 := Lib.hid hb2; have HW2 := Lib.hid ((below_one w (boxed L)).trans (hb2.mono (by simp))); clear hb2; have x0 := (show w2.cell? ⟨w.heap.size, 0, none⟩ = some (.string L.vowels) by rw [boxed_at w L HB2.out 0]; rfl); have x1 := (show w2.cell? ⟨w.heap.size, 1, none⟩ = some (.slice p1 L.traits.length c1) by rw [boxed_at w L HB2.out 1, e1]; rfl); have x2 := (show w2.cell? ⟨w.heap.size, 2, none⟩ = some (.slice p2 L.classes.length c2) by rw [boxed_at w L HB2.out 2, e2]; rfl); have x3 := (show w2.cell? ⟨w.heap.size, 3, none⟩ = some (.slice p3 L.entries.length c3) by rw [boxed_at w L HB2.out 3, e3]; rfl); have x4 := (show w2.cell? ⟨w.heap.size, 4, none⟩ = some (.slice (some SA) L.spells.length c4) by rw [boxed_at w L HB2.out 4, e4]; rfl); have x5 := (show w2.cell? ⟨w.heap.size, 5, none⟩ = some (.slice p5 L.links.length c5) by rw [boxed_at w L HB2.out 5, e5]; rfl); have y0 := (show w2.cell? (SA.add (k * 4)) = some (.string L.spells[k].frm) by rw [HW2.out.cell (p := SA.add (k * 4)) HSA.out]; exact S0.out); have y1 := (show w2.cell? { block := (SA.add (k * 4)).block, off := (SA.add (k * 4)).off + 1 } = some (.string L.spells[k].to) by rw [HW2.out.cell (p := ⟨(SA.add (k * 4)).block, (SA.add (k * 4)).off + 1, none⟩) HSA.out]; exact S1.out); have y2 := (show w2.cell? { block := (SA.add (k * 4)).block, off := (SA.add (k * 4)).off + 2 } = some (.string L.spells[k].left) by rw [HW2.out.cell (p := ⟨(SA.add (k * 4)).block, (SA.add (k * 4)).off + 2, none⟩) HSA.out]; exact S2.out); have y3 := (show w2.cell? { block := (SA.add (k * 4)).block, off := (SA.add (k * 4)).off + 3 } = some (.string L.spells[k].right) by rw [HW2.out.cell (p := ⟨(SA.add (k * 4)).block, (SA.add (k * 4)).off + 3, none⟩) HSA.out]; exact S3.out); skip) | (go_at_call 47; refine (allAreP s _ HS.out).mono ?_; rintro e w' ⟨rfl, rfl⟩))
    go_ret2
    exact ⟨by rw [HX.out]; rfl, HW2.out⟩
  have HX := Lib.hid (spellOf_in hz hk hal)
  cases hrb : respB L.vowels L.spells[k] s with
  | none =>
    have HRB := Lib.hid hrb
    go_enter Tryz.func14, Tryz.ntmps14
    go_wp2_with (first | (go_at_call 10; refine (HC.out).mono ?_; rintro e w2 ⟨rfl, hb2⟩; rw [← HO.out] at hb2; have HB2 := Lib.hid hb2; have HW2 := Lib.hid ((below_one w (boxed L)).trans (hb2.mono (by simp))); clear hb2; have x0 := (show w2.cell? ⟨w.heap.size, 0, none⟩ = some (.string L.vowels) by rw [boxed_at w L HB2.out 0]; rfl); have x1 := (show w2.cell? ⟨w.heap.size, 1, none⟩ = some (.slice p1 L.traits.length c1) by rw [boxed_at w L HB2.out 1, e1]; rfl); have x2 := (show w2.cell? ⟨w.heap.size, 2, none⟩ = some (.slice p2 L.classes.length c2) by rw [boxed_at w L HB2.out 2, e2]; rfl); have x3 := (show w2.cell? ⟨w.heap.size, 3, none⟩ = some (.slice p3 L.entries.length c3) by rw [boxed_at w L HB2.out 3, e3]; rfl); have x4 := (show w2.cell? ⟨w.heap.size, 4, none⟩ = some (.slice (some SA) L.spells.length c4) by rw [boxed_at w L HB2.out 4, e4]; rfl); have x5 := (show w2.cell? ⟨w.heap.size, 5, none⟩ = some (.slice p5 L.links.length c5) by rw [boxed_at w L HB2.out 5, e5]; rfl); have y0 := (show w2.cell? (SA.add (k * 4)) = some (.string L.spells[k].frm) by rw [HW2.out.cell (p := SA.add (k * 4)) HSA.out]; exact S0.out); have y1 := (show w2.cell? { block := (SA.add (k * 4)).block, off := (SA.add (k * 4)).off + 1 } = some (.string L.spells[k].to) by rw [HW2.out.cell (p := ⟨(SA.add (k * 4)).block, (SA.add (k * 4)).off + 1, none⟩) HSA.out]; exact S1.out); have y2 := (show w2.cell? { block := (SA.add (k * 4)).block, off := (SA.add (k * 4)).off + 2 } = some (.string L.spells[k].left) by rw [HW2.out.cell (p := ⟨(SA.add (k * 4)).block, (SA.add (k * 4)).off + 2, none⟩) HSA.out]; exact S2.out); have y3 := (show w2.cell? { block := (SA.add (k * 4)).block, off := (SA.add (k * 4)).off + 3 } = some (.string L.spells[k].right) by rw [HW2.out.cell (p := ⟨(SA.add (k * 4)).block, (SA.add (k * 4)).off + 3, none⟩) HSA.out]; exact S3.out); skip) | (go_at_call 47; refine (allAreP s _ HS.out).mono ?_; rintro e w' ⟨rfl, rfl⟩))
    have HWD := Lib.hid (show Below w.heap.size w w2.drew from below_drewN 1 HW2.out)
    have HBD := Lib.hid (show Below (w.alloc (boxed L)).heap.size (w.alloc (boxed L)) w2.drew from below_drewN 1 HB2.out)
    go_region_held3 (fun w' => w'.cell? ⟨w.heap.size, 4, none⟩ = some (.slice (some SA) L.spells.length c4) ∧ w'.cell? ⟨w.heap.size, 0, none⟩ = some (.string L.vowels) ∧ w'.cell? (SA.add (k * 4)) = some (.string L.spells[k].frm) ∧ w'.cell? { block := (SA.add (k * 4)).block, off := (SA.add (k * 4)).off + 1 } = some (.string L.spells[k].to) ∧ w'.cell? { block := (SA.add (k * 4)).block, off := (SA.add (k * 4)).off + 2 } = some (.string L.spells[k].left) ∧ w'.cell? { block := (SA.add (k * 4)).block, off := (SA.add (k * 4)).off + 3 } = some (.string L.spells[k].right))
      (first
            | go_keep
            | (refine ⟨?_, ?_, ?_, ?_, ?_, ?_⟩
               · (rw [boxed_at w L HB3.out 4, e4]; rfl)
               · (rw [boxed_at w L HB3.out 0]; rfl)
               · (rw [HW3.out.cell (p := SA.add (k * 4)) HSA.out]; exact S0.out)
               · (rw [HW3.out.cell (p := ⟨(SA.add (k * 4)).block, (SA.add (k * 4)).off + 1, none⟩) HSA.out]; exact S1.out)
               · (rw [HW3.out.cell (p := ⟨(SA.add (k * 4)).block, (SA.add (k * 4)).off + 2, none⟩) HSA.out]; exact S2.out)
               · (rw [HW3.out.cell (p := ⟨(SA.add (k * 4)).block, (SA.add (k * 4)).off + 3, none⟩) HSA.out]; exact S3.out)))
      ((go_simp; go_at_call 49; refine (respell_any L.vowels L.spells[k] s _ (by omega) SK.out.pos (by have := SK.out.frm; omega) (by have := SK.out.to; omega) (by have := SK.out.left; omega) (by have := SK.out.right; omega)).mono ?_; rintro e w3 ⟨he, hb3⟩; (try rw [hrb] at he); obtain rfl : e = .returned (.tuple #[.string ⟨#[]⟩, .bool false]) := he; have HW3 := Lib.hid (HWD.out.trans (hb3.mono HWD.out.size)); have HB3 := Lib.hid (HBD.out.trans (hb3.mono HBD.out.size)); clear hb3))
    go_wp2
    go_ret2
    exact ⟨by rw [HX.out, HRB.out]; rfl, HW3.out⟩
  | some x =>
    have HRB := Lib.hid hrb
    go_enter Tryz.func14, Tryz.ntmps14
    go_wp2_with (first | (go_at_call 10; refine (HC.out).mono ?_; rintro e w2 ⟨rfl, hb2⟩; rw [← HO.out] at hb2; have HB2 := Lib.hid hb2; have HW2 := Lib.hid ((below_one w (boxed L)).trans (hb2.mono (by simp))); clear hb2; have x0 := (show w2.cell? ⟨w.heap.size, 0, none⟩ = some (.string L.vowels) by rw [boxed_at w L HB2.out 0]; rfl); have x1 := (show w2.cell? ⟨w.heap.size, 1, none⟩ = some (.slice p1 L.traits.length c1) by rw [boxed_at w L HB2.out 1, e1]; rfl); have x2 := (show w2.cell? ⟨w.heap.size, 2, none⟩ = some (.slice p2 L.classes.length c2) by rw [boxed_at w L HB2.out 2, e2]; rfl); have x3 := (show w2.cell? ⟨w.heap.size, 3, none⟩ = some (.slice p3 L.entries.length c3) by rw [boxed_at w L HB2.out 3, e3]; rfl); have x4 := (show w2.cell? ⟨w.heap.size, 4, none⟩ = some (.slice (some SA) L.spells.length c4) by rw [boxed_at w L HB2.out 4, e4]; rfl); have x5 := (show w2.cell? ⟨w.heap.size, 5, none⟩ = some (.slice p5 L.links.length c5) by rw [boxed_at w L HB2.out 5, e5]; rfl); have y0 := (show w2.cell? (SA.add (k * 4)) = some (.string L.spells[k].frm) by rw [HW2.out.cell (p := SA.add (k * 4)) HSA.out]; exact S0.out); have y1 := (show w2.cell? { block := (SA.add (k * 4)).block, off := (SA.add (k * 4)).off + 1 } = some (.string L.spells[k].to) by rw [HW2.out.cell (p := ⟨(SA.add (k * 4)).block, (SA.add (k * 4)).off + 1, none⟩) HSA.out]; exact S1.out); have y2 := (show w2.cell? { block := (SA.add (k * 4)).block, off := (SA.add (k * 4)).off + 2 } = some (.string L.spells[k].left) by rw [HW2.out.cell (p := ⟨(SA.add (k * 4)).block, (SA.add (k * 4)).off + 2, none⟩) HSA.out]; exact S2.out); have y3 := (show w2.cell? { block := (SA.add (k * 4)).block, off := (SA.add (k * 4)).off + 3 } = some (.string L.spells[k].right) by rw [HW2.out.cell (p := ⟨(SA.add (k * 4)).block, (SA.add (k * 4)).off + 3, none⟩) HSA.out]; exact S3.out); skip) | (go_at_call 47; refine (allAreP s _ HS.out).mono ?_; rintro e w' ⟨rfl, rfl⟩))
    have HWD := Lib.hid (show Below w.heap.size w w2.drew from below_drewN 1 HW2.out)
    have HBD := Lib.hid (show Below (w.alloc (boxed L)).heap.size (w.alloc (boxed L)) w2.drew from below_drewN 1 HB2.out)
    go_region_held3 (fun w' => w'.cell? ⟨w.heap.size, 4, none⟩ = some (.slice (some SA) L.spells.length c4) ∧ w'.cell? ⟨w.heap.size, 0, none⟩ = some (.string L.vowels) ∧ w'.cell? (SA.add (k * 4)) = some (.string L.spells[k].frm) ∧ w'.cell? { block := (SA.add (k * 4)).block, off := (SA.add (k * 4)).off + 1 } = some (.string L.spells[k].to) ∧ w'.cell? { block := (SA.add (k * 4)).block, off := (SA.add (k * 4)).off + 2 } = some (.string L.spells[k].left) ∧ w'.cell? { block := (SA.add (k * 4)).block, off := (SA.add (k * 4)).off + 3 } = some (.string L.spells[k].right))
      (first
            | go_keep
            | (refine ⟨?_, ?_, ?_, ?_, ?_, ?_⟩
               · (rw [boxed_at w L HB3.out 4, e4]; rfl)
               · (rw [boxed_at w L HB3.out 0]; rfl)
               · (rw [HW3.out.cell (p := SA.add (k * 4)) HSA.out]; exact S0.out)
               · (rw [HW3.out.cell (p := ⟨(SA.add (k * 4)).block, (SA.add (k * 4)).off + 1, none⟩) HSA.out]; exact S1.out)
               · (rw [HW3.out.cell (p := ⟨(SA.add (k * 4)).block, (SA.add (k * 4)).off + 2, none⟩) HSA.out]; exact S2.out)
               · (rw [HW3.out.cell (p := ⟨(SA.add (k * 4)).block, (SA.add (k * 4)).off + 3, none⟩) HSA.out]; exact S3.out)))
      ((go_simp; go_at_call 49; refine (respell_any L.vowels L.spells[k] s _ (by omega) SK.out.pos (by have := SK.out.frm; omega) (by have := SK.out.to; omega) (by have := SK.out.left; omega) (by have := SK.out.right; omega)).mono ?_; rintro e w3 ⟨he, hb3⟩; (try rw [hrb] at he); obtain rfl : e = .returned (.tuple #[.string x, .bool true]) := he; have HW3 := Lib.hid (HWD.out.trans (hb3.mono HWD.out.size)); have HB3 := Lib.hid (HBD.out.trans (hb3.mono HBD.out.size)); clear hb3))
    go_wp2
    go_ret2
    exact ⟨by rw [HX.out, HRB.out]; rfl, HW3.out⟩
theorem refOf_plus (s : ByteArray) (w : World) (hs : s.size ≤ maxLen) :
    Calls Tryz.prog 40 #[.string s, .string ⟨#[43]⟩] w fun e w' => e = .returned (.bool (allB isP s)) ∧ Below w.heap.size w w' := by
  refine (refOf_any s ⟨#[43]⟩ w hs (by unfold maxLen; decide)).mono ?_
  rintro e w' ⟨rfl, n, rfl⟩
  exact ⟨by rw [ofP], below_drewN n (Below.refl _ _)⟩
set_option maxRecDepth 100000 in
set_option maxHeartbeats 4000000 in
theorem refSpell_any (L : Lex) (rule : Int) (s : ByteArray) (w : World) (hL : LexAt w L) (hs : s.size ≤ 1000) :
    Calls Tryz.prog 15 #[L.val, .int .i64 rule, .string s] w fun e w' => e = spellRet (spellOf L rule s) ∧ Below w.heap.size w w' := by
  obtain ⟨p1, c1, p2, c2, p3, c3, p4, c4, p5, c5, e1, e2, e3, e4, e5, hc1, hm1, hc2, hm2, hc3, hm3, hc4, hm4, hc5, hm5⟩ := lex_forms hL
  have HL := Lib.hid hL; clear hL
  have hval : L.val = .agg #[.string L.vowels, .slice p1 L.traits.length c1, .slice p2 L.classes.length c2, .slice p3 L.entries.length c3, .slice p4 L.spells.length c4, .slice p5 L.links.length c5] := by unfold Lex.val; rw [e1, e2, e3, e4, e5]
  have HVAL := Lib.hid hval
  have HO := Lib.hid (show boxed L = .cells #[.string L.vowels, .slice p1 L.traits.length c1, .slice p2 L.classes.length c2, .slice p3 L.entries.length c3, .slice p4 L.spells.length c4, .slice p5 L.links.length c5] 28 by unfold boxed; rw [e1, e2, e3, e4, e5])
  rw [hval]
  clear hval
  have ag := Tryz.isAgg28
  have zg := Tryz.sizeOf28
  have agp := Tryz.isAgg76
  have zgp := Tryz.sizeOf76
  unfold maxLen at hm4
  have HS := Lib.hid (show s.size ≤ maxLen by unfold maxLen; omega)
  have HC := Lib.hid (HVAL.out ▸ HO.out ▸ refCheck_any L (w.alloc (boxed L)) (HL.out.step (below_one w (boxed L))))
  by_cases hz : checkErr L = 0
  rotate_left
  · have HX := Lib.hid (spellOf_bad (rule := rule) (s := s) hz)
    go_enter Tryz.func15, Tryz.ntmps15
    go_wp2_with (go_at_call 11; refine (HC.out).mono ?_; rintro e w2 ⟨rfl, hb2⟩; rw [← HO.out] at hb2; have HB2 := Lib.hid hb2; have HW2 := Lib.hid ((below_one w (boxed L)).trans (hb2.mono (by simp))); clear hb2; skip)
    go_ret2
    exact ⟨by rw [HX.out]; rfl, HW2.out⟩
  by_cases hr1 : rule < 0
  · have HX := Lib.hid (spellOf_none (s := s) hz (.inl hr1))
    go_enter Tryz.func15, Tryz.ntmps15
    go_wp2_with (go_at_call 11; refine (HC.out).mono ?_; rintro e w2 ⟨rfl, hb2⟩; rw [← HO.out] at hb2; have HB2 := Lib.hid hb2; have HW2 := Lib.hid ((below_one w (boxed L)).trans (hb2.mono (by simp))); clear hb2; have x0 := (show w2.cell? ⟨w.heap.size, 0, none⟩ = some (.string L.vowels) by rw [boxed_at w L HB2.out 0]; rfl); have x1 := (show w2.cell? ⟨w.heap.size, 1, none⟩ = some (.slice p1 L.traits.length c1) by rw [boxed_at w L HB2.out 1, e1]; rfl); have x2 := (show w2.cell? ⟨w.heap.size, 2, none⟩ = some (.slice p2 L.classes.length c2) by rw [boxed_at w L HB2.out 2, e2]; rfl); have x3 := (show w2.cell? ⟨w.heap.size, 3, none⟩ = some (.slice p3 L.entries.length c3) by rw [boxed_at w L HB2.out 3, e3]; rfl); have x4 := (show w2.cell? ⟨w.heap.size, 4, none⟩ = some (.slice p4 L.spells.length c4) by rw [boxed_at w L HB2.out 4, e4]; rfl); have x5 := (show w2.cell? ⟨w.heap.size, 5, none⟩ = some (.slice p5 L.links.length c5) by rw [boxed_at w L HB2.out 5, e5]; rfl); skip)
    go_ret2
    exact ⟨by rw [HX.out]; rfl, HW2.out⟩
  by_cases hr2 : (L.spells.length : Int) ≤ rule
  · have HX := Lib.hid (spellOf_none (s := s) hz (.inr hr2))
    go_enter Tryz.func15, Tryz.ntmps15
    go_wp2_with (go_at_call 11; refine (HC.out).mono ?_; rintro e w2 ⟨rfl, hb2⟩; rw [← HO.out] at hb2; have HB2 := Lib.hid hb2; have HW2 := Lib.hid ((below_one w (boxed L)).trans (hb2.mono (by simp))); clear hb2; have x0 := (show w2.cell? ⟨w.heap.size, 0, none⟩ = some (.string L.vowels) by rw [boxed_at w L HB2.out 0]; rfl); have x1 := (show w2.cell? ⟨w.heap.size, 1, none⟩ = some (.slice p1 L.traits.length c1) by rw [boxed_at w L HB2.out 1, e1]; rfl); have x2 := (show w2.cell? ⟨w.heap.size, 2, none⟩ = some (.slice p2 L.classes.length c2) by rw [boxed_at w L HB2.out 2, e2]; rfl); have x3 := (show w2.cell? ⟨w.heap.size, 3, none⟩ = some (.slice p3 L.entries.length c3) by rw [boxed_at w L HB2.out 3, e3]; rfl); have x4 := (show w2.cell? ⟨w.heap.size, 4, none⟩ = some (.slice p4 L.spells.length c4) by rw [boxed_at w L HB2.out 4, e4]; rfl); have x5 := (show w2.cell? ⟨w.heap.size, 5, none⟩ = some (.slice p5 L.links.length c5) by rw [boxed_at w L HB2.out 5, e5]; rfl); skip)
    go_ret2
    exact ⟨by rw [HX.out]; rfl, HW2.out⟩
  obtain ⟨k, rfl⟩ := Int.eq_ofNat_of_zero_le (show 0 ≤ rule by omega)
  have hk : k < L.spells.length := by omega
  have hk2 : (k : Int) < (L.spells.length : Int) := by omega
  have hk3 : ¬ ((L.spells.length : Int) ≤ (k : Int)) := by omega
  have hk4 : ¬ ((k : Int) < 0) := by omega
  have SK := Lib.hid (spell_ok hz hk)
  obtain ⟨_, _, eS, _, _, hrowS⟩ := (e4 ▸ HL.out.spes.1)
  cases eS
  obtain ⟨SA, rfl, hSA, hcellS⟩ := hrowS (by omega)
  have HSA := Lib.hid (show (SA.add (k * 4)).block < w.heap.size by rw [add_block]; exact hSA)
  have S0 := Lib.hid (show w.cell? (SA.add (k * 4)) = some (.string L.spells[k].frm) by
    have := hcellS k 0 hk (by omega)
    simpa [speF, hk] using this)
  have S1 := Lib.hid (show w.cell? { block := (SA.add (k * 4)).block, off := (SA.add (k * 4)).off + 1 } = some (.string L.spells[k].to) by
    have := cell_at 1 (by omega) (hcellS k 1 hk (by omega))
    simpa [speF, hk] using this)
  have S2 := Lib.hid (show w.cell? { block := (SA.add (k * 4)).block, off := (SA.add (k * 4)).off + 2 } = some (.string L.spells[k].left) by
    have := cell_at 2 (by omega) (hcellS k 2 hk (by omega))
    simpa [speF, hk] using this)
  have S3 := Lib.hid (show w.cell? { block := (SA.add (k * 4)).block, off := (SA.add (k * 4)).off + 3 } = some (.string L.spells[k].right) by
    have := cell_at 3 (by omega) (hcellS k 3 hk (by omega))
    simpa [speF, hk] using this)
  clear hcellS hrowS
  cases hal : allB isP s
  · have HX := Lib.hid (spellOf_arg hz (by omega) hal : spellOf L (k : Int) s = _)
    go_enter Tryz.func15, Tryz.ntmps15
    go_wp2_with (first | (go_at_call 11; refine (HC.out).mono ?_; rintro e w2 ⟨rfl, hb2⟩; rw [← HO.out] at hb2; have HB2 := Lib.hid hb2; have HW2 := Lib.hid ((below_one w (boxed L)).trans (hb2.mono (by simp))); clear hb2; have x0 := (show w2.cell? ⟨w.heap.size, 0, none⟩ = some (.string L.vowels) by rw [boxed_at w L HB2.out 0]; rfl); have x1 := (show w2.cell? ⟨w.heap.size, 1, none⟩ = some (.slice p1 L.traits.length c1) by rw [boxed_at w L HB2.out 1, e1]; rfl); have x2 := (show w2.cell? ⟨w.heap.size, 2, none⟩ = some (.slice p2 L.classes.length c2) by rw [boxed_at w L HB2.out 2, e2]; rfl); have x3 := (show w2.cell? ⟨w.heap.size, 3, none⟩ = some (.slice p3 L.entries.length c3) by rw [boxed_at w L HB2.out 3, e3]; rfl); have x4 := (show w2.cell? ⟨w.heap.size, 4, none⟩ = some (.slice (some SA) L.spells.length c4) by rw [boxed_at w L HB2.out 4, e4]; rfl); have x5 := (show w2.cell? ⟨w.heap.size, 5, none⟩ = some (.slice p5 L.links.length c5) by rw [boxed_at w L HB2.out 5, e5]; rfl); have y0 := (show w2.cell? (SA.add (k * 4)) = some (.string L.spells[k].frm) by rw [HW2.out.cell (p := SA.add (k * 4)) HSA.out]; exact S0.out); have y1 := (show w2.cell? { block := (SA.add (k * 4)).block, off := (SA.add (k * 4)).off + 1 } = some (.string L.spells[k].to) by rw [HW2.out.cell (p := ⟨(SA.add (k * 4)).block, (SA.add (k * 4)).off + 1, none⟩) HSA.out]; exact S1.out); have y2 := (show w2.cell? { block := (SA.add (k * 4)).block, off := (SA.add (k * 4)).off + 2 } = some (.string L.spells[k].left) by rw [HW2.out.cell (p := ⟨(SA.add (k * 4)).block, (SA.add (k * 4)).off + 2, none⟩) HSA.out]; exact S2.out); have y3 := (show w2.cell? { block := (SA.add (k * 4)).block, off := (SA.add (k * 4)).off + 3 } = some (.string L.spells[k].right) by rw [HW2.out.cell (p := ⟨(SA.add (k * 4)).block, (SA.add (k * 4)).off + 3, none⟩) HSA.out]; exact S3.out); skip) | (go_at_call 40; refine (refOf_plus s _ HS.out).mono ?_; rintro e w3 ⟨he, hb3⟩; rw [hal] at he; subst he; have HB3 := Lib.hid (HB2.out.trans (hb3.mono HB2.out.size)); have HW3 := Lib.hid (HW2.out.trans (hb3.mono HW2.out.size)); clear hb3; have u0 := (show w3.cell? ⟨w.heap.size, 0, none⟩ = some (.string L.vowels) by rw [boxed_at w L HB3.out 0]; rfl); have u1 := (show w3.cell? ⟨w.heap.size, 1, none⟩ = some (.slice p1 L.traits.length c1) by rw [boxed_at w L HB3.out 1, e1]; rfl); have u2 := (show w3.cell? ⟨w.heap.size, 2, none⟩ = some (.slice p2 L.classes.length c2) by rw [boxed_at w L HB3.out 2, e2]; rfl); have u3 := (show w3.cell? ⟨w.heap.size, 3, none⟩ = some (.slice p3 L.entries.length c3) by rw [boxed_at w L HB3.out 3, e3]; rfl); have u4 := (show w3.cell? ⟨w.heap.size, 4, none⟩ = some (.slice (some SA) L.spells.length c4) by rw [boxed_at w L HB3.out 4, e4]; rfl); have u5 := (show w3.cell? ⟨w.heap.size, 5, none⟩ = some (.slice p5 L.links.length c5) by rw [boxed_at w L HB3.out 5, e5]; rfl); have v0 := (show w3.cell? (SA.add (k * 4)) = some (.string L.spells[k].frm) by rw [HW3.out.cell (p := SA.add (k * 4)) HSA.out]; exact S0.out); have v1 := (show w3.cell? { block := (SA.add (k * 4)).block, off := (SA.add (k * 4)).off + 1 } = some (.string L.spells[k].to) by rw [HW3.out.cell (p := ⟨(SA.add (k * 4)).block, (SA.add (k * 4)).off + 1, none⟩) HSA.out]; exact S1.out); have v2 := (show w3.cell? { block := (SA.add (k * 4)).block, off := (SA.add (k * 4)).off + 2 } = some (.string L.spells[k].left) by rw [HW3.out.cell (p := ⟨(SA.add (k * 4)).block, (SA.add (k * 4)).off + 2, none⟩) HSA.out]; exact S2.out); have v3 := (show w3.cell? { block := (SA.add (k * 4)).block, off := (SA.add (k * 4)).off + 3 } = some (.string L.spells[k].right) by rw [HW3.out.cell (p := ⟨(SA.add (k * 4)).block, (SA.add (k * 4)).off + 3, none⟩) HSA.out]; exact S3.out); skip))
    go_ret2
    exact ⟨by rw [HX.out]; rfl, HW3.out⟩
  have HX := Lib.hid (spellOf_in hz hk hal)
  by_cases h512 : (512 : Int) < (s.size : Int)
  · have HRB := Lib.hid (show respB L.vowels L.spells[k] s = none by unfold respB; rw [if_neg (by omega)])
    go_enter Tryz.func15, Tryz.ntmps15
    go_wp2_with (first | (go_at_call 11; refine (HC.out).mono ?_; rintro e w2 ⟨rfl, hb2⟩; rw [← HO.out] at hb2; have HB2 := Lib.hid hb2; have HW2 := Lib.hid ((below_one w (boxed L)).trans (hb2.mono (by simp))); clear hb2; have x0 := (show w2.cell? ⟨w.heap.size, 0, none⟩ = some (.string L.vowels) by rw [boxed_at w L HB2.out 0]; rfl); have x1 := (show w2.cell? ⟨w.heap.size, 1, none⟩ = some (.slice p1 L.traits.length c1) by rw [boxed_at w L HB2.out 1, e1]; rfl); have x2 := (show w2.cell? ⟨w.heap.size, 2, none⟩ = some (.slice p2 L.classes.length c2) by rw [boxed_at w L HB2.out 2, e2]; rfl); have x3 := (show w2.cell? ⟨w.heap.size, 3, none⟩ = some (.slice p3 L.entries.length c3) by rw [boxed_at w L HB2.out 3, e3]; rfl); have x4 := (show w2.cell? ⟨w.heap.size, 4, none⟩ = some (.slice (some SA) L.spells.length c4) by rw [boxed_at w L HB2.out 4, e4]; rfl); have x5 := (show w2.cell? ⟨w.heap.size, 5, none⟩ = some (.slice p5 L.links.length c5) by rw [boxed_at w L HB2.out 5, e5]; rfl); have y0 := (show w2.cell? (SA.add (k * 4)) = some (.string L.spells[k].frm) by rw [HW2.out.cell (p := SA.add (k * 4)) HSA.out]; exact S0.out); have y1 := (show w2.cell? { block := (SA.add (k * 4)).block, off := (SA.add (k * 4)).off + 1 } = some (.string L.spells[k].to) by rw [HW2.out.cell (p := ⟨(SA.add (k * 4)).block, (SA.add (k * 4)).off + 1, none⟩) HSA.out]; exact S1.out); have y2 := (show w2.cell? { block := (SA.add (k * 4)).block, off := (SA.add (k * 4)).off + 2 } = some (.string L.spells[k].left) by rw [HW2.out.cell (p := ⟨(SA.add (k * 4)).block, (SA.add (k * 4)).off + 2, none⟩) HSA.out]; exact S2.out); have y3 := (show w2.cell? { block := (SA.add (k * 4)).block, off := (SA.add (k * 4)).off + 3 } = some (.string L.spells[k].right) by rw [HW2.out.cell (p := ⟨(SA.add (k * 4)).block, (SA.add (k * 4)).off + 3, none⟩) HSA.out]; exact S3.out); skip) | (go_at_call 40; refine (refOf_plus s _ HS.out).mono ?_; rintro e w3 ⟨he, hb3⟩; rw [hal] at he; subst he; have HB3 := Lib.hid (HB2.out.trans (hb3.mono HB2.out.size)); have HW3 := Lib.hid (HW2.out.trans (hb3.mono HW2.out.size)); clear hb3; have u0 := (show w3.cell? ⟨w.heap.size, 0, none⟩ = some (.string L.vowels) by rw [boxed_at w L HB3.out 0]; rfl); have u1 := (show w3.cell? ⟨w.heap.size, 1, none⟩ = some (.slice p1 L.traits.length c1) by rw [boxed_at w L HB3.out 1, e1]; rfl); have u2 := (show w3.cell? ⟨w.heap.size, 2, none⟩ = some (.slice p2 L.classes.length c2) by rw [boxed_at w L HB3.out 2, e2]; rfl); have u3 := (show w3.cell? ⟨w.heap.size, 3, none⟩ = some (.slice p3 L.entries.length c3) by rw [boxed_at w L HB3.out 3, e3]; rfl); have u4 := (show w3.cell? ⟨w.heap.size, 4, none⟩ = some (.slice (some SA) L.spells.length c4) by rw [boxed_at w L HB3.out 4, e4]; rfl); have u5 := (show w3.cell? ⟨w.heap.size, 5, none⟩ = some (.slice p5 L.links.length c5) by rw [boxed_at w L HB3.out 5, e5]; rfl); have v0 := (show w3.cell? (SA.add (k * 4)) = some (.string L.spells[k].frm) by rw [HW3.out.cell (p := SA.add (k * 4)) HSA.out]; exact S0.out); have v1 := (show w3.cell? { block := (SA.add (k * 4)).block, off := (SA.add (k * 4)).off + 1 } = some (.string L.spells[k].to) by rw [HW3.out.cell (p := ⟨(SA.add (k * 4)).block, (SA.add (k * 4)).off + 1, none⟩) HSA.out]; exact S1.out); have v2 := (show w3.cell? { block := (SA.add (k * 4)).block, off := (SA.add (k * 4)).off + 2 } = some (.string L.spells[k].left) by rw [HW3.out.cell (p := ⟨(SA.add (k * 4)).block, (SA.add (k * 4)).off + 2, none⟩) HSA.out]; exact S2.out); have v3 := (show w3.cell? { block := (SA.add (k * 4)).block, off := (SA.add (k * 4)).off + 3 } = some (.string L.spells[k].right) by rw [HW3.out.cell (p := ⟨(SA.add (k * 4)).block, (SA.add (k * 4)).off + 3, none⟩) HSA.out]; exact S3.out); skip))
    go_ret2
    exact ⟨by rw [HX.out, HRB.out]; rfl, HW3.out⟩
  have HAP := Lib.hid (fun a => refApp_eq (s := s) (a := a) (vowels_letters hz) SK.out.leftS SK.out.rightS)
  by_cases hlen : (rest L.vowels L.spells[k] s 0).length ≤ 512
  · have HRB := Lib.hid (show respB L.vowels L.spells[k] s = some ⟨(rest L.vowels L.spells[k] s 0).toArray⟩ by unfold respB; rw [if_pos (by omega)])
    have HDL := Lib.hid (decide_eq_true hlen)
    go_enter Tryz.func15, Tryz.ntmps15
    go_wp2_with (first | (go_at_call 11; refine (HC.out).mono ?_; rintro e w2 ⟨rfl, hb2⟩; rw [← HO.out] at hb2; have HB2 := Lib.hid hb2; have HW2 := Lib.hid ((below_one w (boxed L)).trans (hb2.mono (by simp))); clear hb2; have x0 := (show w2.cell? ⟨w.heap.size, 0, none⟩ = some (.string L.vowels) by rw [boxed_at w L HB2.out 0]; rfl); have x1 := (show w2.cell? ⟨w.heap.size, 1, none⟩ = some (.slice p1 L.traits.length c1) by rw [boxed_at w L HB2.out 1, e1]; rfl); have x2 := (show w2.cell? ⟨w.heap.size, 2, none⟩ = some (.slice p2 L.classes.length c2) by rw [boxed_at w L HB2.out 2, e2]; rfl); have x3 := (show w2.cell? ⟨w.heap.size, 3, none⟩ = some (.slice p3 L.entries.length c3) by rw [boxed_at w L HB2.out 3, e3]; rfl); have x4 := (show w2.cell? ⟨w.heap.size, 4, none⟩ = some (.slice (some SA) L.spells.length c4) by rw [boxed_at w L HB2.out 4, e4]; rfl); have x5 := (show w2.cell? ⟨w.heap.size, 5, none⟩ = some (.slice p5 L.links.length c5) by rw [boxed_at w L HB2.out 5, e5]; rfl); have y0 := (show w2.cell? (SA.add (k * 4)) = some (.string L.spells[k].frm) by rw [HW2.out.cell (p := SA.add (k * 4)) HSA.out]; exact S0.out); have y1 := (show w2.cell? { block := (SA.add (k * 4)).block, off := (SA.add (k * 4)).off + 1 } = some (.string L.spells[k].to) by rw [HW2.out.cell (p := ⟨(SA.add (k * 4)).block, (SA.add (k * 4)).off + 1, none⟩) HSA.out]; exact S1.out); have y2 := (show w2.cell? { block := (SA.add (k * 4)).block, off := (SA.add (k * 4)).off + 2 } = some (.string L.spells[k].left) by rw [HW2.out.cell (p := ⟨(SA.add (k * 4)).block, (SA.add (k * 4)).off + 2, none⟩) HSA.out]; exact S2.out); have y3 := (show w2.cell? { block := (SA.add (k * 4)).block, off := (SA.add (k * 4)).off + 3 } = some (.string L.spells[k].right) by rw [HW2.out.cell (p := ⟨(SA.add (k * 4)).block, (SA.add (k * 4)).off + 3, none⟩) HSA.out]; exact S3.out); skip) | (go_at_call 40; refine (refOf_plus s _ HS.out).mono ?_; rintro e w3 ⟨he, hb3⟩; rw [hal] at he; subst he; have HB3 := Lib.hid (HB2.out.trans (hb3.mono HB2.out.size)); have HW3 := Lib.hid (HW2.out.trans (hb3.mono HW2.out.size)); clear hb3; have u0 := (show w3.cell? ⟨w.heap.size, 0, none⟩ = some (.string L.vowels) by rw [boxed_at w L HB3.out 0]; rfl); have u1 := (show w3.cell? ⟨w.heap.size, 1, none⟩ = some (.slice p1 L.traits.length c1) by rw [boxed_at w L HB3.out 1, e1]; rfl); have u2 := (show w3.cell? ⟨w.heap.size, 2, none⟩ = some (.slice p2 L.classes.length c2) by rw [boxed_at w L HB3.out 2, e2]; rfl); have u3 := (show w3.cell? ⟨w.heap.size, 3, none⟩ = some (.slice p3 L.entries.length c3) by rw [boxed_at w L HB3.out 3, e3]; rfl); have u4 := (show w3.cell? ⟨w.heap.size, 4, none⟩ = some (.slice (some SA) L.spells.length c4) by rw [boxed_at w L HB3.out 4, e4]; rfl); have u5 := (show w3.cell? ⟨w.heap.size, 5, none⟩ = some (.slice p5 L.links.length c5) by rw [boxed_at w L HB3.out 5, e5]; rfl); have v0 := (show w3.cell? (SA.add (k * 4)) = some (.string L.spells[k].frm) by rw [HW3.out.cell (p := SA.add (k * 4)) HSA.out]; exact S0.out); have v1 := (show w3.cell? { block := (SA.add (k * 4)).block, off := (SA.add (k * 4)).off + 1 } = some (.string L.spells[k].to) by rw [HW3.out.cell (p := ⟨(SA.add (k * 4)).block, (SA.add (k * 4)).off + 1, none⟩) HSA.out]; exact S1.out); have v2 := (show w3.cell? { block := (SA.add (k * 4)).block, off := (SA.add (k * 4)).off + 2 } = some (.string L.spells[k].left) by rw [HW3.out.cell (p := ⟨(SA.add (k * 4)).block, (SA.add (k * 4)).off + 2, none⟩) HSA.out]; exact S2.out); have v3 := (show w3.cell? { block := (SA.add (k * 4)).block, off := (SA.add (k * 4)).off + 3 } = some (.string L.spells[k].right) by rw [HW3.out.cell (p := ⟨(SA.add (k * 4)).block, (SA.add (k * 4)).off + 3, none⟩) HSA.out]; exact S3.out); skip))
    have HWD := Lib.hid (show Below w.heap.size w w3.drew from below_drewN 1 HW3.out)
    have HBD := Lib.hid (show Below (w.alloc (boxed L)).heap.size (w.alloc (boxed L)) w3.drew from below_drewN 1 HB3.out)
    go_region_held3 (fun w' => w'.cell? ⟨w.heap.size, 0, none⟩ = some (.string L.vowels) ∧ w'.cell? ⟨w.heap.size, 1, none⟩ = some (.slice p1 L.traits.length c1) ∧ w'.cell? ⟨w.heap.size, 2, none⟩ = some (.slice p2 L.classes.length c2) ∧ w'.cell? ⟨w.heap.size, 3, none⟩ = some (.slice p3 L.entries.length c3) ∧ w'.cell? ⟨w.heap.size, 4, none⟩ = some (.slice (some SA) L.spells.length c4) ∧ w'.cell? ⟨w.heap.size, 5, none⟩ = some (.slice p5 L.links.length c5) ∧ w'.cell? (SA.add (k * 4)) = some (.string L.spells[k].frm) ∧ w'.cell? { block := (SA.add (k * 4)).block, off := (SA.add (k * 4)).off + 1 } = some (.string L.spells[k].to) ∧ w'.cell? { block := (SA.add (k * 4)).block, off := (SA.add (k * 4)).off + 2 } = some (.string L.spells[k].left) ∧ w'.cell? { block := (SA.add (k * 4)).block, off := (SA.add (k * 4)).off + 3 } = some (.string L.spells[k].right))
      (first
            | go_keep
            | (refine ⟨?_, ?_, ?_, ?_, ?_, ?_, ?_, ?_, ?_, ?_⟩
               · (rw [boxed_at w L HB4.out 0]; rfl)
               · (rw [boxed_at w L HB4.out 1, e1]; rfl)
               · (rw [boxed_at w L HB4.out 2, e2]; rfl)
               · (rw [boxed_at w L HB4.out 3, e3]; rfl)
               · (rw [boxed_at w L HB4.out 4, e4]; rfl)
               · (rw [boxed_at w L HB4.out 5, e5]; rfl)
               · (rw [HW4.out.cell (p := SA.add (k * 4)) HSA.out]; exact S0.out)
               · (rw [HW4.out.cell (p := ⟨(SA.add (k * 4)).block, (SA.add (k * 4)).off + 1, none⟩) HSA.out]; exact S1.out)
               · (rw [HW4.out.cell (p := ⟨(SA.add (k * 4)).block, (SA.add (k * 4)).off + 2, none⟩) HSA.out]; exact S2.out)
               · (rw [HW4.out.cell (p := ⟨(SA.add (k * 4)).block, (SA.add (k * 4)).off + 3, none⟩) HSA.out]; exact S3.out)))
      ((go_simp; go_at_call 50; refine (HVAL.out ▸ refRewrite_any L L.spells[k] s _ (HL.out.step HWD.out) (by omega) SK.out.pos (by have := SK.out.frm; omega) (by have := SK.out.to; omega) (by have := SK.out.left; omega) (by have := SK.out.right; omega) HAP.out).mono ?_; rintro e w4 ⟨he, hb4⟩; rw [HDL.out] at he; subst he; have HW4 := Lib.hid (HWD.out.trans (hb4.mono HWD.out.size)); have HB4 := Lib.hid (HBD.out.trans (hb4.mono HBD.out.size)); clear hb4))
    go_wp2
    go_ret2
    exact ⟨by rw [HX.out, HRB.out]; rfl, HW4.out⟩
  · have HRB := Lib.hid (show respB L.vowels L.spells[k] s = none by unfold respB; rw [if_neg (by omega)])
    have HDL := Lib.hid (decide_eq_false hlen)
    go_enter Tryz.func15, Tryz.ntmps15
    go_wp2_with (first | (go_at_call 11; refine (HC.out).mono ?_; rintro e w2 ⟨rfl, hb2⟩; rw [← HO.out] at hb2; have HB2 := Lib.hid hb2; have HW2 := Lib.hid ((below_one w (boxed L)).trans (hb2.mono (by simp))); clear hb2; have x0 := (show w2.cell? ⟨w.heap.size, 0, none⟩ = some (.string L.vowels) by rw [boxed_at w L HB2.out 0]; rfl); have x1 := (show w2.cell? ⟨w.heap.size, 1, none⟩ = some (.slice p1 L.traits.length c1) by rw [boxed_at w L HB2.out 1, e1]; rfl); have x2 := (show w2.cell? ⟨w.heap.size, 2, none⟩ = some (.slice p2 L.classes.length c2) by rw [boxed_at w L HB2.out 2, e2]; rfl); have x3 := (show w2.cell? ⟨w.heap.size, 3, none⟩ = some (.slice p3 L.entries.length c3) by rw [boxed_at w L HB2.out 3, e3]; rfl); have x4 := (show w2.cell? ⟨w.heap.size, 4, none⟩ = some (.slice (some SA) L.spells.length c4) by rw [boxed_at w L HB2.out 4, e4]; rfl); have x5 := (show w2.cell? ⟨w.heap.size, 5, none⟩ = some (.slice p5 L.links.length c5) by rw [boxed_at w L HB2.out 5, e5]; rfl); have y0 := (show w2.cell? (SA.add (k * 4)) = some (.string L.spells[k].frm) by rw [HW2.out.cell (p := SA.add (k * 4)) HSA.out]; exact S0.out); have y1 := (show w2.cell? { block := (SA.add (k * 4)).block, off := (SA.add (k * 4)).off + 1 } = some (.string L.spells[k].to) by rw [HW2.out.cell (p := ⟨(SA.add (k * 4)).block, (SA.add (k * 4)).off + 1, none⟩) HSA.out]; exact S1.out); have y2 := (show w2.cell? { block := (SA.add (k * 4)).block, off := (SA.add (k * 4)).off + 2 } = some (.string L.spells[k].left) by rw [HW2.out.cell (p := ⟨(SA.add (k * 4)).block, (SA.add (k * 4)).off + 2, none⟩) HSA.out]; exact S2.out); have y3 := (show w2.cell? { block := (SA.add (k * 4)).block, off := (SA.add (k * 4)).off + 3 } = some (.string L.spells[k].right) by rw [HW2.out.cell (p := ⟨(SA.add (k * 4)).block, (SA.add (k * 4)).off + 3, none⟩) HSA.out]; exact S3.out); skip) | (go_at_call 40; refine (refOf_plus s _ HS.out).mono ?_; rintro e w3 ⟨he, hb3⟩; rw [hal] at he; subst he; have HB3 := Lib.hid (HB2.out.trans (hb3.mono HB2.out.size)); have HW3 := Lib.hid (HW2.out.trans (hb3.mono HW2.out.size)); clear hb3; have u0 := (show w3.cell? ⟨w.heap.size, 0, none⟩ = some (.string L.vowels) by rw [boxed_at w L HB3.out 0]; rfl); have u1 := (show w3.cell? ⟨w.heap.size, 1, none⟩ = some (.slice p1 L.traits.length c1) by rw [boxed_at w L HB3.out 1, e1]; rfl); have u2 := (show w3.cell? ⟨w.heap.size, 2, none⟩ = some (.slice p2 L.classes.length c2) by rw [boxed_at w L HB3.out 2, e2]; rfl); have u3 := (show w3.cell? ⟨w.heap.size, 3, none⟩ = some (.slice p3 L.entries.length c3) by rw [boxed_at w L HB3.out 3, e3]; rfl); have u4 := (show w3.cell? ⟨w.heap.size, 4, none⟩ = some (.slice (some SA) L.spells.length c4) by rw [boxed_at w L HB3.out 4, e4]; rfl); have u5 := (show w3.cell? ⟨w.heap.size, 5, none⟩ = some (.slice p5 L.links.length c5) by rw [boxed_at w L HB3.out 5, e5]; rfl); have v0 := (show w3.cell? (SA.add (k * 4)) = some (.string L.spells[k].frm) by rw [HW3.out.cell (p := SA.add (k * 4)) HSA.out]; exact S0.out); have v1 := (show w3.cell? { block := (SA.add (k * 4)).block, off := (SA.add (k * 4)).off + 1 } = some (.string L.spells[k].to) by rw [HW3.out.cell (p := ⟨(SA.add (k * 4)).block, (SA.add (k * 4)).off + 1, none⟩) HSA.out]; exact S1.out); have v2 := (show w3.cell? { block := (SA.add (k * 4)).block, off := (SA.add (k * 4)).off + 2 } = some (.string L.spells[k].left) by rw [HW3.out.cell (p := ⟨(SA.add (k * 4)).block, (SA.add (k * 4)).off + 2, none⟩) HSA.out]; exact S2.out); have v3 := (show w3.cell? { block := (SA.add (k * 4)).block, off := (SA.add (k * 4)).off + 3 } = some (.string L.spells[k].right) by rw [HW3.out.cell (p := ⟨(SA.add (k * 4)).block, (SA.add (k * 4)).off + 3, none⟩) HSA.out]; exact S3.out); skip))
    have HWD := Lib.hid (show Below w.heap.size w w3.drew from below_drewN 1 HW3.out)
    have HBD := Lib.hid (show Below (w.alloc (boxed L)).heap.size (w.alloc (boxed L)) w3.drew from below_drewN 1 HB3.out)
    go_region_held3 (fun w' => w'.cell? ⟨w.heap.size, 0, none⟩ = some (.string L.vowels) ∧ w'.cell? ⟨w.heap.size, 1, none⟩ = some (.slice p1 L.traits.length c1) ∧ w'.cell? ⟨w.heap.size, 2, none⟩ = some (.slice p2 L.classes.length c2) ∧ w'.cell? ⟨w.heap.size, 3, none⟩ = some (.slice p3 L.entries.length c3) ∧ w'.cell? ⟨w.heap.size, 4, none⟩ = some (.slice (some SA) L.spells.length c4) ∧ w'.cell? ⟨w.heap.size, 5, none⟩ = some (.slice p5 L.links.length c5) ∧ w'.cell? (SA.add (k * 4)) = some (.string L.spells[k].frm) ∧ w'.cell? { block := (SA.add (k * 4)).block, off := (SA.add (k * 4)).off + 1 } = some (.string L.spells[k].to) ∧ w'.cell? { block := (SA.add (k * 4)).block, off := (SA.add (k * 4)).off + 2 } = some (.string L.spells[k].left) ∧ w'.cell? { block := (SA.add (k * 4)).block, off := (SA.add (k * 4)).off + 3 } = some (.string L.spells[k].right))
      (first
            | go_keep
            | (refine ⟨?_, ?_, ?_, ?_, ?_, ?_, ?_, ?_, ?_, ?_⟩
               · (rw [boxed_at w L HB4.out 0]; rfl)
               · (rw [boxed_at w L HB4.out 1, e1]; rfl)
               · (rw [boxed_at w L HB4.out 2, e2]; rfl)
               · (rw [boxed_at w L HB4.out 3, e3]; rfl)
               · (rw [boxed_at w L HB4.out 4, e4]; rfl)
               · (rw [boxed_at w L HB4.out 5, e5]; rfl)
               · (rw [HW4.out.cell (p := SA.add (k * 4)) HSA.out]; exact S0.out)
               · (rw [HW4.out.cell (p := ⟨(SA.add (k * 4)).block, (SA.add (k * 4)).off + 1, none⟩) HSA.out]; exact S1.out)
               · (rw [HW4.out.cell (p := ⟨(SA.add (k * 4)).block, (SA.add (k * 4)).off + 2, none⟩) HSA.out]; exact S2.out)
               · (rw [HW4.out.cell (p := ⟨(SA.add (k * 4)).block, (SA.add (k * 4)).off + 3, none⟩) HSA.out]; exact S3.out)))
      ((go_simp; go_at_call 50; refine (HVAL.out ▸ refRewrite_any L L.spells[k] s _ (HL.out.step HWD.out) (by omega) SK.out.pos (by have := SK.out.frm; omega) (by have := SK.out.to; omega) (by have := SK.out.left; omega) (by have := SK.out.right; omega) HAP.out).mono ?_; rintro e w4 ⟨he, hb4⟩; rw [HDL.out] at he; subst he; have HW4 := Lib.hid (HWD.out.trans (hb4.mono HWD.out.size)); have HB4 := Lib.hid (HBD.out.trans (hb4.mono HBD.out.size)); clear hb4))
    go_wp2
    go_ret2
    exact ⟨by rw [HX.out, HRB.out]; rfl, HW4.out⟩
end Go.Proofs.YtgddmegjncbndaaGreatDoor
