/- The specification's check of a lexicon. -/
import Derived.Test.YtgddmegjncbndaaGreatDoorRef5
import Derived.Test.YtgddmegjncbndaaGreatDoorLex10
namespace Go.Proofs.YtgddmegjncbndaaGreatDoor
open Go Go.RowKit
theorem errOf_one {n k : Nat} {f : Nat → Int} (h : ∀ i, i < n → f i = 0 ∨ f i = 1) (hk : k < n) (hf : f k = 1) : errOf n f = 1 := by
  induction k using Nat.strongRecOn with
  | ind k ih =>
    by_cases hp : ∀ j, j < k → f j = 0
    · rw [errOf_at hk hp (by rw [hf]; decide), hf]
    · rcases Classical.not_forall.1 hp with ⟨j, hj⟩
      rcases Classical.not_imp.1 hj with ⟨h1, h2⟩
      exact ih j h1 (by omega) ((h j (by omega)).resolve_left h2)
theorem vowelErr_01 (v : ByteArray) (i : Nat) (hi : i < v.size) : vowelErr v i = 0 ∨ vowelErr v i = 1 := by
  rw [vowelErr_at hi]; split <;> simp
theorem vowels_not {v : ByteArray} (h : allB isL v = false) : vowelsErr v = 1 := by
  have : ∃ k, ∃ h : k < v.size, isL (v[k].toNat : Int) = false := by
    apply Classical.byContradiction
    intro hn
    have hu : upTo isL v v.size := fun i hi _ => by
      cases hx : isL (v[i].toNat : Int)
      · exact absurd ⟨i, hi, hx⟩ hn
      · rfl
    rw [allB_true hu (Nat.le_refl _)] at h; cases h
  obtain ⟨k, hk, hx⟩ := this
  exact errOf_one (vowelErr_01 v) hk (by rw [vowelErr_at hk, if_pos (.inl hx)])
theorem vowels_falls {v : ByteArray} {k : Nat} (hk : k < v.size) (h0 : 0 < k) (h : (v[k].toNat : Int) ≤ ((v[k - 1]'(by omega)).toNat : Int)) : vowelsErr v = 1 :=
  errOf_one (vowelErr_01 v) hk (by rw [vowelErr_at hk, if_pos (.inr ⟨h0, h⟩)])
def Rises (v : ByteArray) (k : Nat) : Prop := ∀ i (h : i < v.size), 0 < i → i < k → ((v[i - 1]'(by omega)).toNat : Int) < (v[i].toNat : Int)
theorem vowels_ok {v : ByteArray} {k : Nat} (h : allB isL v = true) (hr : Rises v k) (hk : v.size ≤ k) : vowelsErr v = 0 := by
  refine errOf_none fun i hi => ?_
  rw [vowelErr_at hi, if_neg]
  rintro (h1 | ⟨h1, h2⟩)
  · rw [upTo_of_allB h i hi hi] at h1; cases h1
  · have := hr i hi h1 (by omega); omega
theorem check_at {L : Lex} {k : Nat} (hk : k < 6) (h : ∀ j, j < k → errAt L j = 0) (hf : errAt L k ≠ 0) : checkErr L = errAt L k := errOf_at hk h hf
theorem ofP : ofB ⟨#[43]⟩ = isP := by
  funext c
  unfold ofB isP inTo
  rw [show (⟨#[43]⟩ : ByteArray).size = 1 from rfl]
  simp
theorem ofS : ofB ⟨#[43, 35, 86, 67]⟩ = isS := by
  funext c
  unfold ofB isS isP inTo
  rw [show (⟨#[43, 35, 86, 67]⟩ : ByteArray).size = 4 from rfl]
  simp [Bool.or_assoc]
set_option maxRecDepth 100000 in
set_option maxHeartbeats 16000000 in
theorem refCheck_any (L : Lex) (w : World) (hL : LexAt w L) :
    Calls Tryz.prog 11 #[L.val] w fun e w' => e = .returned (.int .u8 (checkErr L)) ∧ Below w.heap.size w w' := by
  obtain ⟨p1, c1, p2, c2, p3, c3, p4, c4, p5, c5, e1, e2, e3, e4, e5, hc1, hm1, hc2, hm2, hc3, hm3, hc4, hm4, hc5, hm5⟩ := lex_forms hL
  have HL := Lib.hid hL; clear hL
  have hval : L.val = .agg #[.string L.vowels, .slice p1 L.traits.length c1, .slice p2 L.classes.length c2, .slice p3 L.entries.length c3, .slice p4 L.spells.length c4, .slice p5 L.links.length c5] := by unfold Lex.val; rw [e1, e2, e3, e4, e5]
  have HVAL := Lib.hid hval
  have HO := Lib.hid (show boxed L = .cells #[.string L.vowels, .slice p1 L.traits.length c1, .slice p2 L.classes.length c2, .slice p3 L.entries.length c3, .slice p4 L.spells.length c4, .slice p5 L.links.length c5] 28 by unfold boxed; rw [e1, e2, e3, e4, e5])
  rw [hval]
  clear hval
  have ag := Tryz.isAgg28
  have zg := Tryz.sizeOf28
  have hvs := HL.out.vow
  unfold maxLen at hm4 hm5 hvs
  have ags := Tryz.isAgg76
  have zgs := Tryz.sizeOf76
  have agk := Tryz.isAgg78
  have zgk := Tryz.sizeOf78
  cases hof : allB isL L.vowels
  · have HX := Lib.hid (show errAt L 0 = 1 from vowels_not hof)
    go_enter Tryz.func11, Tryz.ntmps11
    go_wp2_with (go_at_call 40; refine (of_any L.vowels _ HL.out.vow).mono ?_; rintro e w' ⟨rfl, rfl⟩)
    go_ret
    exact ⟨ret_i (by rw [check_at (k := 0) (by omega) (fun j hj => absurd hj (by omega)) (by rw [HX.out]; decide), HX.out]), below_one _ _⟩
  have HOF := Lib.hid hof
  go_enter Tryz.func11, Tryz.ntmps11
  go_wp2_with (go_at_call 40; refine (of_any L.vowels _ HL.out.vow).mono ?_; rintro e w' ⟨rfl, rfl⟩)
  go_loopw [3] (fun i wr => ∃ k : Nat, 1 ≤ k ∧ (k ≤ L.vowels.size ∨ k = 1) ∧ i = .int .i64 k ∧ Rises L.vowels k ∧ Below (w.alloc (boxed L)).heap.size (w.alloc (boxed L)) wr) (fun i _ => L.vowels.size - (intOf i).toNat)
  case atStart => exact ⟨1, by omega, by omega, rfl, fun i _ h0 h1 => by omega, by rw [HO.out]; exact Below.refl _ _⟩
  case round =>
    obtain ⟨k, hk1, hk, rfl, hr, hB⟩ := hrel
    have HR := Lib.hid hr; clear hr
    have HB := Lib.hid hB; clear hB
    rename World => wr
    have HW := Lib.hid ((below_one w (boxed L)).trans (HB.out.mono (by simp)))
    have x0 : wr.cell? ⟨w.heap.size, 0, none⟩ = some (.string L.vowels) := by rw [boxed_at w L HB.out 0]; rfl
    have x1 : wr.cell? ⟨w.heap.size, 1, none⟩ = some (.slice p1 L.traits.length c1) := by rw [boxed_at w L HB.out 1, e1]; rfl
    have x2 : wr.cell? ⟨w.heap.size, 2, none⟩ = some (.slice p2 L.classes.length c2) := by rw [boxed_at w L HB.out 2, e2]; rfl
    have x3 : wr.cell? ⟨w.heap.size, 3, none⟩ = some (.slice p3 L.entries.length c3) := by rw [boxed_at w L HB.out 3, e3]; rfl
    have x4 : wr.cell? ⟨w.heap.size, 4, none⟩ = some (.slice p4 L.spells.length c4) := by rw [boxed_at w L HB.out 4, e4]; rfl
    have x5 : wr.cell? ⟨w.heap.size, 5, none⟩ = some (.slice p5 L.links.length c5) := by rw [boxed_at w L HB.out 5, e5]; rfl
    by_cases hlt : k < L.vowels.size
    · have hk2 : (0 : Int) ≤ (k : Int) - 1 := by omega
      have hk3 : (k : Int) - 1 < (L.vowels.size : Int) := by omega
      have hkp : k - 1 < L.vowels.size := by omega
      have hkp2 : ((k - 1 : Nat) : Int) < (L.vowels.size : Int) := by omega
      have hk5 : IntKind.i64.wrap ((k : Int) - 1) = ((k - 1 : Nat) : Int) := by rw [IntKind.wrap_i64]; omega
      by_cases hfall : (L.vowels[k].toNat : Int) ≤ (L.vowels[k - 1].toNat : Int)
      · have HX := Lib.hid (show errAt L 0 = 1 from vowels_falls hlt (by omega) hfall)
        go_wp2
        go_quiet (fail)
        go_wp2
        go_ret
        exact ⟨ret_i (by rw [check_at (k := 0) (by omega) (fun j hj => absurd hj (by omega)) (by rw [HX.out]; decide), HX.out]), by repeat (first | exact HW.out | apply below_drewN)⟩
      · have HX := Lib.hid (show Rises L.vowels (k + 1) from fun i hi h0 h1 => by
          by_cases e : i = k
          · subst e; omega
          · exact HR.out i hi h0 (by omega))
        go_wp2
        go_quiet (fail)
        go_wp2
        go_roundw
        case rel => exact ⟨k + 1, by omega, by omega, by go_num, HX.out, by repeat (first | exact HB.out | apply below_drewN)⟩
        case measure => simp [intOf]; omega
    · have H0 := Lib.hid (show errAt L 0 = 0 from vowels_ok HOF.out HR.out (by omega))
      have HTS := Lib.hid (HVAL.out ▸ refTraits_any L wr (HL.out.step HW.out))
      by_cases ht : traitsErr L.traits = 0
      · have H1 := Lib.hid (show ∀ j, j < 2 → errAt L j = 0 from below_succ (below_succ (fun j hj => absurd hj (by omega)) H0.out) ht)
        by_cases hc : classesErr L.traits L.classes = 0
        · have H2 := Lib.hid (show ∀ j, j < 3 → errAt L j = 0 from below_succ H1.out hc)
          have HSH := Lib.hid (classes_short hc)
          by_cases he : entriesErr L.traits L.classes L.entries = 0
          · have H3 := Lib.hid (show ∀ j, j < 4 → errAt L j = 0 from below_succ H2.out he)
            by_cases h16 : (16 : Int) < (L.spells.length : Int)
            · have HX := Lib.hid (show errAt L 4 = 3 from if_pos (by omega))
              go_wp2_with (first | (go_at_call 41; refine (HTS.out).mono ?_; rintro e w2 ⟨rfl, hb2⟩; have HB2 := Lib.hid (HB.out.trans (hb2.mono HB.out.size)); have HW2 := Lib.hid (HW.out.trans (hb2.mono HW.out.size)); clear hb2; have pp0 := (show w2.cell? ⟨w.heap.size, 0, none⟩ = some (.string L.vowels) by rw [boxed_at w L HB2.out 0]; rfl); have pp1 := (show w2.cell? ⟨w.heap.size, 1, none⟩ = some (.slice p1 L.traits.length c1) by rw [boxed_at w L HB2.out 1, e1]; rfl); have pp2 := (show w2.cell? ⟨w.heap.size, 2, none⟩ = some (.slice p2 L.classes.length c2) by rw [boxed_at w L HB2.out 2, e2]; rfl); have pp3 := (show w2.cell? ⟨w.heap.size, 3, none⟩ = some (.slice p3 L.entries.length c3) by rw [boxed_at w L HB2.out 3, e3]; rfl); have pp4 := (show w2.cell? ⟨w.heap.size, 4, none⟩ = some (.slice p4 L.spells.length c4) by rw [boxed_at w L HB2.out 4, e4]; rfl); have pp5 := (show w2.cell? ⟨w.heap.size, 5, none⟩ = some (.slice p5 L.links.length c5) by rw [boxed_at w L HB2.out 5, e5]; rfl); have HCS := Lib.hid (HVAL.out ▸ refClasses_any L w2 (HL.out.step HW2.out))) | (go_at_call 42; refine (HCS.out).mono ?_; rintro e w3 ⟨rfl, hb3⟩; have HB3 := Lib.hid (HB2.out.trans (hb3.mono HB2.out.size)); have HW3 := Lib.hid (HW2.out.trans (hb3.mono HW2.out.size)); clear hb3; have qq0 := (show w3.cell? ⟨w.heap.size, 0, none⟩ = some (.string L.vowels) by rw [boxed_at w L HB3.out 0]; rfl); have qq1 := (show w3.cell? ⟨w.heap.size, 1, none⟩ = some (.slice p1 L.traits.length c1) by rw [boxed_at w L HB3.out 1, e1]; rfl); have qq2 := (show w3.cell? ⟨w.heap.size, 2, none⟩ = some (.slice p2 L.classes.length c2) by rw [boxed_at w L HB3.out 2, e2]; rfl); have qq3 := (show w3.cell? ⟨w.heap.size, 3, none⟩ = some (.slice p3 L.entries.length c3) by rw [boxed_at w L HB3.out 3, e3]; rfl); have qq4 := (show w3.cell? ⟨w.heap.size, 4, none⟩ = some (.slice p4 L.spells.length c4) by rw [boxed_at w L HB3.out 4, e4]; rfl); have qq5 := (show w3.cell? ⟨w.heap.size, 5, none⟩ = some (.slice p5 L.links.length c5) by rw [boxed_at w L HB3.out 5, e5]; rfl);) | (go_at_call 43; refine (HVAL.out ▸ refEntries_any L w3 (HL.out.step HW3.out) (fun c hc' s hs => Nat.le_trans (HSH.out c hc' s hs) (by omega))).mono ?_; rintro e w4 ⟨rfl, hb4⟩; have HB4 := Lib.hid (HB3.out.trans (hb4.mono HB3.out.size)); have HW4 := Lib.hid (HW3.out.trans (hb4.mono HW3.out.size)); clear hb4; have rr0 := (show w4.cell? ⟨w.heap.size, 0, none⟩ = some (.string L.vowels) by rw [boxed_at w L HB4.out 0]; rfl); have rr1 := (show w4.cell? ⟨w.heap.size, 1, none⟩ = some (.slice p1 L.traits.length c1) by rw [boxed_at w L HB4.out 1, e1]; rfl); have rr2 := (show w4.cell? ⟨w.heap.size, 2, none⟩ = some (.slice p2 L.classes.length c2) by rw [boxed_at w L HB4.out 2, e2]; rfl); have rr3 := (show w4.cell? ⟨w.heap.size, 3, none⟩ = some (.slice p3 L.entries.length c3) by rw [boxed_at w L HB4.out 3, e3]; rfl); have rr4 := (show w4.cell? ⟨w.heap.size, 4, none⟩ = some (.slice p4 L.spells.length c4) by rw [boxed_at w L HB4.out 4, e4]; rfl); have rr5 := (show w4.cell? ⟨w.heap.size, 5, none⟩ = some (.slice p5 L.links.length c5) by rw [boxed_at w L HB4.out 5, e5]; rfl);))
              go_ret
              exact ⟨ret_i (by rw [check_at (k := 4) (by omega) H3.out (by rw [HX.out]; decide), HX.out]), HW4.out⟩
            have hS16 : errAt L 4 = errOf L.spells.length (spellErr L.spells) := if_neg (by omega)
            go_wp2_with (first | (go_at_call 41; refine (HTS.out).mono ?_; rintro e w2 ⟨rfl, hb2⟩; have HB2 := Lib.hid (HB.out.trans (hb2.mono HB.out.size)); have HW2 := Lib.hid (HW.out.trans (hb2.mono HW.out.size)); clear hb2; have pp0 := (show w2.cell? ⟨w.heap.size, 0, none⟩ = some (.string L.vowels) by rw [boxed_at w L HB2.out 0]; rfl); have pp1 := (show w2.cell? ⟨w.heap.size, 1, none⟩ = some (.slice p1 L.traits.length c1) by rw [boxed_at w L HB2.out 1, e1]; rfl); have pp2 := (show w2.cell? ⟨w.heap.size, 2, none⟩ = some (.slice p2 L.classes.length c2) by rw [boxed_at w L HB2.out 2, e2]; rfl); have pp3 := (show w2.cell? ⟨w.heap.size, 3, none⟩ = some (.slice p3 L.entries.length c3) by rw [boxed_at w L HB2.out 3, e3]; rfl); have pp4 := (show w2.cell? ⟨w.heap.size, 4, none⟩ = some (.slice p4 L.spells.length c4) by rw [boxed_at w L HB2.out 4, e4]; rfl); have pp5 := (show w2.cell? ⟨w.heap.size, 5, none⟩ = some (.slice p5 L.links.length c5) by rw [boxed_at w L HB2.out 5, e5]; rfl); have HCS := Lib.hid (HVAL.out ▸ refClasses_any L w2 (HL.out.step HW2.out))) | (go_at_call 42; refine (HCS.out).mono ?_; rintro e w3 ⟨rfl, hb3⟩; have HB3 := Lib.hid (HB2.out.trans (hb3.mono HB2.out.size)); have HW3 := Lib.hid (HW2.out.trans (hb3.mono HW2.out.size)); clear hb3; have qq0 := (show w3.cell? ⟨w.heap.size, 0, none⟩ = some (.string L.vowels) by rw [boxed_at w L HB3.out 0]; rfl); have qq1 := (show w3.cell? ⟨w.heap.size, 1, none⟩ = some (.slice p1 L.traits.length c1) by rw [boxed_at w L HB3.out 1, e1]; rfl); have qq2 := (show w3.cell? ⟨w.heap.size, 2, none⟩ = some (.slice p2 L.classes.length c2) by rw [boxed_at w L HB3.out 2, e2]; rfl); have qq3 := (show w3.cell? ⟨w.heap.size, 3, none⟩ = some (.slice p3 L.entries.length c3) by rw [boxed_at w L HB3.out 3, e3]; rfl); have qq4 := (show w3.cell? ⟨w.heap.size, 4, none⟩ = some (.slice p4 L.spells.length c4) by rw [boxed_at w L HB3.out 4, e4]; rfl); have qq5 := (show w3.cell? ⟨w.heap.size, 5, none⟩ = some (.slice p5 L.links.length c5) by rw [boxed_at w L HB3.out 5, e5]; rfl);) | (go_at_call 43; refine (HVAL.out ▸ refEntries_any L w3 (HL.out.step HW3.out) (fun c hc' s hs => Nat.le_trans (HSH.out c hc' s hs) (by omega))).mono ?_; rintro e w4 ⟨rfl, hb4⟩; have HB4 := Lib.hid (HB3.out.trans (hb4.mono HB3.out.size)); have HW4 := Lib.hid (HW3.out.trans (hb4.mono HW3.out.size)); clear hb4; have rr0 := (show w4.cell? ⟨w.heap.size, 0, none⟩ = some (.string L.vowels) by rw [boxed_at w L HB4.out 0]; rfl); have rr1 := (show w4.cell? ⟨w.heap.size, 1, none⟩ = some (.slice p1 L.traits.length c1) by rw [boxed_at w L HB4.out 1, e1]; rfl); have rr2 := (show w4.cell? ⟨w.heap.size, 2, none⟩ = some (.slice p2 L.classes.length c2) by rw [boxed_at w L HB4.out 2, e2]; rfl); have rr3 := (show w4.cell? ⟨w.heap.size, 3, none⟩ = some (.slice p3 L.entries.length c3) by rw [boxed_at w L HB4.out 3, e3]; rfl); have rr4 := (show w4.cell? ⟨w.heap.size, 4, none⟩ = some (.slice p4 L.spells.length c4) by rw [boxed_at w L HB4.out 4, e4]; rfl); have rr5 := (show w4.cell? ⟨w.heap.size, 5, none⟩ = some (.slice p5 L.links.length c5) by rw [boxed_at w L HB4.out 5, e5]; rfl);))
            clear x0 x1 x2 x3 x4 x5 pp0 pp1 pp2 pp3 pp4 pp5 qq0 qq1 qq2 qq3 qq4 qq5 rr0 rr1 rr2 rr3 rr4 rr5
            go_loopw [7] (fun i ws => ∃ m : Nat, m ≤ L.spells.length ∧ i = .int .i64 m ∧ (∀ j, j < m → spellErr L.spells j = 0) ∧ Below (w.alloc (boxed L)).heap.size (w.alloc (boxed L)) ws) (fun i _ => L.spells.length - (intOf i).toNat)
            case atStart => exact ⟨0, by omega, rfl, fun i h => by omega, HB4.out⟩
            case round =>
              obtain ⟨m, hm, rfl, hqm, hbs⟩ := hrel
              have HM := Lib.hid hqm; clear hqm
              rename World => ws
              have HBS := Lib.hid hbs; clear hbs
              have HWS := Lib.hid ((below_one w (boxed L)).trans (HBS.out.mono (by simp)))
              have x4 : ws.cell? ⟨w.heap.size, 4, none⟩ = some (.slice p4 L.spells.length c4) := by rw [boxed_at w L HBS.out 4, e4]; rfl
              by_cases hmt : m < L.spells.length
              · obtain ⟨_, _, eS, _, _, hrowS⟩ := (e4 ▸ HL.out.spes.1)
                cases eS
                obtain ⟨SA, rfl, hSA, hcellS⟩ := hrowS (by omega)
                obtain ⟨hf, ht0, hl, hr⟩ := HL.out.spes.2 L.spells[m] (List.getElem_mem _)
                have v0 : ws.cell? (SA.add (m * 4)) = some (.string L.spells[m].frm) := by
                  rw [HWS.out.cell (p := SA.add (m * 4)) (by rw [add_block]; exact hSA)]
                  have := hcellS m 0 hmt (by omega)
                  simpa [speF, hmt] using this
                have v1 : ws.cell? { block := (SA.add (m * 4)).block, off := (SA.add (m * 4)).off + 1 } = some (.string L.spells[m].to) := by
                  rw [HWS.out.cell (p := ⟨(SA.add (m * 4)).block, (SA.add (m * 4)).off + 1, none⟩) (by show (SA.add (m * 4)).block < _; rw [add_block]; exact hSA)]
                  have := cell_at 1 (by omega) (hcellS m 1 hmt (by omega))
                  simpa [speF, hmt] using this
                have v2 : ws.cell? { block := (SA.add (m * 4)).block, off := (SA.add (m * 4)).off + 2 } = some (.string L.spells[m].left) := by
                  rw [HWS.out.cell (p := ⟨(SA.add (m * 4)).block, (SA.add (m * 4)).off + 2, none⟩) (by show (SA.add (m * 4)).block < _; rw [add_block]; exact hSA)]
                  have := cell_at 2 (by omega) (hcellS m 2 hmt (by omega))
                  simpa [speF, hmt] using this
                have v3 : ws.cell? { block := (SA.add (m * 4)).block, off := (SA.add (m * 4)).off + 3 } = some (.string L.spells[m].right) := by
                  rw [HWS.out.cell (p := ⟨(SA.add (m * 4)).block, (SA.add (m * 4)).off + 3, none⟩) (by show (SA.add (m * 4)).block < _; rw [add_block]; exact hSA)]
                  have := cell_at 3 (by omega) (hcellS m 3 hmt (by omega))
                  simpa [speF, hmt] using this
                clear hcellS hrowS
                have HSE := Lib.hid (spellErr_at hmt)
                generalize L.spells[m] = sp at *
                have HWA := Lib.hid (HWS.out.alloc HWS.out.size (.cells #[.string sp.frm, .string sp.to, .string sp.left, .string sp.right] 76))
                have HBA := Lib.hid (HBS.out.alloc HBS.out.size (.cells #[.string sp.frm, .string sp.to, .string sp.left, .string sp.right] 76))
                cases h1 : sp.frm.toList.isEmpty
                · skip
                  cases h2 : allB (ofB ⟨#[43]⟩) sp.frm
                  · skip
                    have HS := Lib.hid (HSE.out.trans (if_pos (show sp.frm.toList.isEmpty = true ∨ patB isP sp.frm = false ∨ patB isP sp.to = false ∨ patB isS sp.left = false ∨ patB isS sp.right = false from .inr (.inl (by unfold patB; rw [← ofP, h2]; simp)))))
                    go_wp2_with (first | (go_at_call 40; with_reducible refine (refOf_any sp.frm ⟨#[43]⟩ _ hf (by decide)).mono ?_; rintro e w' ⟨rfl, n_f, rfl⟩) | (go_at_call 40; with_reducible refine (refOf_any sp.to ⟨#[43]⟩ _ ht0 (by decide)).mono ?_; rintro e w' ⟨rfl, n_t, rfl⟩) | (go_at_call 40; with_reducible refine (refOf_any sp.left ⟨#[43, 35, 86, 67]⟩ _ hl (by decide)).mono ?_; rintro e w' ⟨rfl, n_l, rfl⟩) | (go_at_call 40; with_reducible refine (refOf_any sp.right ⟨#[43, 35, 86, 67]⟩ _ hr (by decide)).mono ?_; rintro e w' ⟨rfl, n_r, rfl⟩))
                    go_ret
                    exact ⟨ret_i (by have hE1 : errAt L 4 = 1 := (hS16.trans (errOf_at hmt HM.out (by rw [HS.out]; decide))).trans HS.out; rw [check_at (k := 4) (by omega) H3.out (by rw [hE1]; decide), hE1]), by repeat (first | exact HWA.out | apply below_drewN)⟩
                  cases h3 : allB (ofB ⟨#[43]⟩) sp.to
                  · skip
                    have HS := Lib.hid (HSE.out.trans (if_pos (show sp.frm.toList.isEmpty = true ∨ patB isP sp.frm = false ∨ patB isP sp.to = false ∨ patB isS sp.left = false ∨ patB isS sp.right = false from .inr (.inr (.inl (by unfold patB; rw [← ofP, h3]; simp))))))
                    go_wp2_with (first | (go_at_call 40; with_reducible refine (refOf_any sp.frm ⟨#[43]⟩ _ hf (by decide)).mono ?_; rintro e w' ⟨rfl, n_f, rfl⟩) | (go_at_call 40; with_reducible refine (refOf_any sp.to ⟨#[43]⟩ _ ht0 (by decide)).mono ?_; rintro e w' ⟨rfl, n_t, rfl⟩) | (go_at_call 40; with_reducible refine (refOf_any sp.left ⟨#[43, 35, 86, 67]⟩ _ hl (by decide)).mono ?_; rintro e w' ⟨rfl, n_l, rfl⟩) | (go_at_call 40; with_reducible refine (refOf_any sp.right ⟨#[43, 35, 86, 67]⟩ _ hr (by decide)).mono ?_; rintro e w' ⟨rfl, n_r, rfl⟩))
                    go_ret
                    exact ⟨ret_i (by have hE1 : errAt L 4 = 1 := (hS16.trans (errOf_at hmt HM.out (by rw [HS.out]; decide))).trans HS.out; rw [check_at (k := 4) (by omega) H3.out (by rw [hE1]; decide), hE1]), by repeat (first | exact HWA.out | apply below_drewN)⟩
                  cases h4 : allB (ofB ⟨#[43, 35, 86, 67]⟩) sp.left
                  · skip
                    have HS := Lib.hid (HSE.out.trans (if_pos (show sp.frm.toList.isEmpty = true ∨ patB isP sp.frm = false ∨ patB isP sp.to = false ∨ patB isS sp.left = false ∨ patB isS sp.right = false from .inr (.inr (.inr (.inl (by unfold patB; rw [← ofS, h4]; simp)))))))
                    go_wp2_with (first | (go_at_call 40; with_reducible refine (refOf_any sp.frm ⟨#[43]⟩ _ hf (by decide)).mono ?_; rintro e w' ⟨rfl, n_f, rfl⟩) | (go_at_call 40; with_reducible refine (refOf_any sp.to ⟨#[43]⟩ _ ht0 (by decide)).mono ?_; rintro e w' ⟨rfl, n_t, rfl⟩) | (go_at_call 40; with_reducible refine (refOf_any sp.left ⟨#[43, 35, 86, 67]⟩ _ hl (by decide)).mono ?_; rintro e w' ⟨rfl, n_l, rfl⟩) | (go_at_call 40; with_reducible refine (refOf_any sp.right ⟨#[43, 35, 86, 67]⟩ _ hr (by decide)).mono ?_; rintro e w' ⟨rfl, n_r, rfl⟩))
                    go_ret
                    exact ⟨ret_i (by have hE1 : errAt L 4 = 1 := (hS16.trans (errOf_at hmt HM.out (by rw [HS.out]; decide))).trans HS.out; rw [check_at (k := 4) (by omega) H3.out (by rw [hE1]; decide), hE1]), by repeat (first | exact HWA.out | apply below_drewN)⟩
                  cases h5 : allB (ofB ⟨#[43, 35, 86, 67]⟩) sp.right
                  · skip
                    have HS := Lib.hid (HSE.out.trans (if_pos (show sp.frm.toList.isEmpty = true ∨ patB isP sp.frm = false ∨ patB isP sp.to = false ∨ patB isS sp.left = false ∨ patB isS sp.right = false from .inr (.inr (.inr (.inr (by unfold patB; rw [← ofS, h5]; simp)))))))
                    go_wp2_with (first | (go_at_call 40; with_reducible refine (refOf_any sp.frm ⟨#[43]⟩ _ hf (by decide)).mono ?_; rintro e w' ⟨rfl, n_f, rfl⟩) | (go_at_call 40; with_reducible refine (refOf_any sp.to ⟨#[43]⟩ _ ht0 (by decide)).mono ?_; rintro e w' ⟨rfl, n_t, rfl⟩) | (go_at_call 40; with_reducible refine (refOf_any sp.left ⟨#[43, 35, 86, 67]⟩ _ hl (by decide)).mono ?_; rintro e w' ⟨rfl, n_l, rfl⟩) | (go_at_call 40; with_reducible refine (refOf_any sp.right ⟨#[43, 35, 86, 67]⟩ _ hr (by decide)).mono ?_; rintro e w' ⟨rfl, n_r, rfl⟩))
                    go_ret
                    exact ⟨ret_i (by have hE1 : errAt L 4 = 1 := (hS16.trans (errOf_at hmt HM.out (by rw [HS.out]; decide))).trans HS.out; rw [check_at (k := 4) (by omega) H3.out (by rw [hE1]; decide), hE1]), by repeat (first | exact HWA.out | apply below_drewN)⟩
                  by_cases h6 : (6 : Int) < (sp.frm.size : Int)
                  · skip
                    have HS := Lib.hid (HSE.out.trans (if_pos (show sp.frm.toList.isEmpty = true ∨ patB isP sp.frm = false ∨ patB isP sp.to = false ∨ patB isS sp.left = false ∨ patB isS sp.right = false from .inr (.inl (by unfold patB; rw [decide_eq_false (by omega)]; rfl)))))
                    go_wp2_with (first | (go_at_call 40; with_reducible refine (refOf_any sp.frm ⟨#[43]⟩ _ hf (by decide)).mono ?_; rintro e w' ⟨rfl, n_f, rfl⟩) | (go_at_call 40; with_reducible refine (refOf_any sp.to ⟨#[43]⟩ _ ht0 (by decide)).mono ?_; rintro e w' ⟨rfl, n_t, rfl⟩) | (go_at_call 40; with_reducible refine (refOf_any sp.left ⟨#[43, 35, 86, 67]⟩ _ hl (by decide)).mono ?_; rintro e w' ⟨rfl, n_l, rfl⟩) | (go_at_call 40; with_reducible refine (refOf_any sp.right ⟨#[43, 35, 86, 67]⟩ _ hr (by decide)).mono ?_; rintro e w' ⟨rfl, n_r, rfl⟩))
                    go_ret
                    exact ⟨ret_i (by have hE1 : errAt L 4 = 1 := (hS16.trans (errOf_at hmt HM.out (by rw [HS.out]; decide))).trans HS.out; rw [check_at (k := 4) (by omega) H3.out (by rw [hE1]; decide), hE1]), by repeat (first | exact HWA.out | apply below_drewN)⟩
                  by_cases h7 : (6 : Int) < (sp.to.size : Int)
                  · skip
                    have HS := Lib.hid (HSE.out.trans (if_pos (show sp.frm.toList.isEmpty = true ∨ patB isP sp.frm = false ∨ patB isP sp.to = false ∨ patB isS sp.left = false ∨ patB isS sp.right = false from .inr (.inr (.inl (by unfold patB; rw [decide_eq_false (by omega)]; rfl))))))
                    go_wp2_with (first | (go_at_call 40; with_reducible refine (refOf_any sp.frm ⟨#[43]⟩ _ hf (by decide)).mono ?_; rintro e w' ⟨rfl, n_f, rfl⟩) | (go_at_call 40; with_reducible refine (refOf_any sp.to ⟨#[43]⟩ _ ht0 (by decide)).mono ?_; rintro e w' ⟨rfl, n_t, rfl⟩) | (go_at_call 40; with_reducible refine (refOf_any sp.left ⟨#[43, 35, 86, 67]⟩ _ hl (by decide)).mono ?_; rintro e w' ⟨rfl, n_l, rfl⟩) | (go_at_call 40; with_reducible refine (refOf_any sp.right ⟨#[43, 35, 86, 67]⟩ _ hr (by decide)).mono ?_; rintro e w' ⟨rfl, n_r, rfl⟩))
                    go_ret
                    exact ⟨ret_i (by have hE1 : errAt L 4 = 1 := (hS16.trans (errOf_at hmt HM.out (by rw [HS.out]; decide))).trans HS.out; rw [check_at (k := 4) (by omega) H3.out (by rw [hE1]; decide), hE1]), by repeat (first | exact HWA.out | apply below_drewN)⟩
                  by_cases h8 : (6 : Int) < (sp.left.size : Int)
                  · skip
                    have HS := Lib.hid (HSE.out.trans (if_pos (show sp.frm.toList.isEmpty = true ∨ patB isP sp.frm = false ∨ patB isP sp.to = false ∨ patB isS sp.left = false ∨ patB isS sp.right = false from .inr (.inr (.inr (.inl (by unfold patB; rw [decide_eq_false (by omega)]; rfl)))))))
                    go_wp2_with (first | (go_at_call 40; with_reducible refine (refOf_any sp.frm ⟨#[43]⟩ _ hf (by decide)).mono ?_; rintro e w' ⟨rfl, n_f, rfl⟩) | (go_at_call 40; with_reducible refine (refOf_any sp.to ⟨#[43]⟩ _ ht0 (by decide)).mono ?_; rintro e w' ⟨rfl, n_t, rfl⟩) | (go_at_call 40; with_reducible refine (refOf_any sp.left ⟨#[43, 35, 86, 67]⟩ _ hl (by decide)).mono ?_; rintro e w' ⟨rfl, n_l, rfl⟩) | (go_at_call 40; with_reducible refine (refOf_any sp.right ⟨#[43, 35, 86, 67]⟩ _ hr (by decide)).mono ?_; rintro e w' ⟨rfl, n_r, rfl⟩))
                    go_ret
                    exact ⟨ret_i (by have hE1 : errAt L 4 = 1 := (hS16.trans (errOf_at hmt HM.out (by rw [HS.out]; decide))).trans HS.out; rw [check_at (k := 4) (by omega) H3.out (by rw [hE1]; decide), hE1]), by repeat (first | exact HWA.out | apply below_drewN)⟩
                  by_cases h9 : (6 : Int) < (sp.right.size : Int)
                  · skip
                    have HS := Lib.hid (HSE.out.trans (if_pos (show sp.frm.toList.isEmpty = true ∨ patB isP sp.frm = false ∨ patB isP sp.to = false ∨ patB isS sp.left = false ∨ patB isS sp.right = false from .inr (.inr (.inr (.inr (by unfold patB; rw [decide_eq_false (by omega)]; rfl)))))))
                    go_wp2_with (first | (go_at_call 40; with_reducible refine (refOf_any sp.frm ⟨#[43]⟩ _ hf (by decide)).mono ?_; rintro e w' ⟨rfl, n_f, rfl⟩) | (go_at_call 40; with_reducible refine (refOf_any sp.to ⟨#[43]⟩ _ ht0 (by decide)).mono ?_; rintro e w' ⟨rfl, n_t, rfl⟩) | (go_at_call 40; with_reducible refine (refOf_any sp.left ⟨#[43, 35, 86, 67]⟩ _ hl (by decide)).mono ?_; rintro e w' ⟨rfl, n_l, rfl⟩) | (go_at_call 40; with_reducible refine (refOf_any sp.right ⟨#[43, 35, 86, 67]⟩ _ hr (by decide)).mono ?_; rintro e w' ⟨rfl, n_r, rfl⟩))
                    go_ret
                    exact ⟨ret_i (by have hE1 : errAt L 4 = 1 := (hS16.trans (errOf_at hmt HM.out (by rw [HS.out]; decide))).trans HS.out; rw [check_at (k := 4) (by omega) H3.out (by rw [hE1]; decide), hE1]), by repeat (first | exact HWA.out | apply below_drewN)⟩
                  have HS := Lib.hid (HSE.out.trans (if_neg (by unfold patB; rw [← ofP, ← ofS, h1, h2, h3, h4, h5, decide_eq_true (show sp.frm.size ≤ 6 by omega), decide_eq_true (show sp.to.size ≤ 6 by omega), decide_eq_true (show sp.left.size ≤ 6 by omega), decide_eq_true (show sp.right.size ≤ 6 by omega)]; simp)))
                  go_wp2_with (first | (go_at_call 40; with_reducible refine (refOf_any sp.frm ⟨#[43]⟩ _ hf (by decide)).mono ?_; rintro e w' ⟨rfl, n_f, rfl⟩) | (go_at_call 40; with_reducible refine (refOf_any sp.to ⟨#[43]⟩ _ ht0 (by decide)).mono ?_; rintro e w' ⟨rfl, n_t, rfl⟩) | (go_at_call 40; with_reducible refine (refOf_any sp.left ⟨#[43, 35, 86, 67]⟩ _ hl (by decide)).mono ?_; rintro e w' ⟨rfl, n_l, rfl⟩) | (go_at_call 40; with_reducible refine (refOf_any sp.right ⟨#[43, 35, 86, 67]⟩ _ hr (by decide)).mono ?_; rintro e w' ⟨rfl, n_r, rfl⟩))
                  go_roundw
                  case rel => exact ⟨m + 1, by omega, by go_num, below_succ HM.out HS.out, by repeat (first | exact HBA.out | apply below_drewN)⟩
                  case measure => simp [intOf]; omega
                · skip
                  have HS := Lib.hid (HSE.out.trans (if_pos (show sp.frm.toList.isEmpty = true ∨ patB isP sp.frm = false ∨ patB isP sp.to = false ∨ patB isS sp.left = false ∨ patB isS sp.right = false from .inl h1)))
                  go_wp2_with (first | (go_at_call 40; with_reducible refine (refOf_any sp.frm ⟨#[43]⟩ _ hf (by decide)).mono ?_; rintro e w' ⟨rfl, n_f, rfl⟩) | (go_at_call 40; with_reducible refine (refOf_any sp.to ⟨#[43]⟩ _ ht0 (by decide)).mono ?_; rintro e w' ⟨rfl, n_t, rfl⟩) | (go_at_call 40; with_reducible refine (refOf_any sp.left ⟨#[43, 35, 86, 67]⟩ _ hl (by decide)).mono ?_; rintro e w' ⟨rfl, n_l, rfl⟩) | (go_at_call 40; with_reducible refine (refOf_any sp.right ⟨#[43, 35, 86, 67]⟩ _ hr (by decide)).mono ?_; rintro e w' ⟨rfl, n_r, rfl⟩))
                  go_ret
                  exact ⟨ret_i (by have hE1 : errAt L 4 = 1 := (hS16.trans (errOf_at hmt HM.out (by rw [HS.out]; decide))).trans HS.out; rw [check_at (k := 4) (by omega) H3.out (by rw [hE1]; decide), hE1]), by repeat (first | exact HWA.out | apply below_drewN)⟩
              · have H4 := Lib.hid (show ∀ j, j < 5 → errAt L j = 0 from below_succ H3.out (hS16.trans (errOf_none fun j hj => HM.out j (by omega))))
                have x0 : ws.cell? ⟨w.heap.size, 0, none⟩ = some (.string L.vowels) := by rw [boxed_at w L HBS.out 0]; rfl
                have x1 : ws.cell? ⟨w.heap.size, 1, none⟩ = some (.slice p1 L.traits.length c1) := by rw [boxed_at w L HBS.out 1, e1]; rfl
                have x2 : ws.cell? ⟨w.heap.size, 2, none⟩ = some (.slice p2 L.classes.length c2) := by rw [boxed_at w L HBS.out 2, e2]; rfl
                have x3 : ws.cell? ⟨w.heap.size, 3, none⟩ = some (.slice p3 L.entries.length c3) := by rw [boxed_at w L HBS.out 3, e3]; rfl
                have x4 : ws.cell? ⟨w.heap.size, 4, none⟩ = some (.slice p4 L.spells.length c4) := by rw [boxed_at w L HBS.out 4, e4]; rfl
                have x5 : ws.cell? ⟨w.heap.size, 5, none⟩ = some (.slice p5 L.links.length c5) := by rw [boxed_at w L HBS.out 5, e5]; rfl
                by_cases h8 : (8 : Int) < (L.links.length : Int)
                · have HX := Lib.hid (show errAt L 5 = 3 from if_pos (by omega))
                  go_wp2
                  go_ret
                  exact ⟨ret_i (by rw [check_at (k := 5) (by omega) H4.out (by rw [HX.out]; decide), HX.out]), HWS.out⟩
                have hS8 : errAt L 5 = errOf L.links.length (linkErr L.traits L.classes L.links) := if_neg (by omega)
                go_wp2
                clear x0 x1 x2 x3 x4 x5
                go_loopw [9] (fun i wl => ∃ n : Nat, n ≤ L.links.length ∧ i = .int .i64 n ∧ (∀ j, j < n → linkErr L.traits L.classes L.links j = 0) ∧ Below (w.alloc (boxed L)).heap.size (w.alloc (boxed L)) wl) (fun i _ => L.links.length - (intOf i).toNat)
                case atStart => exact ⟨0, by omega, rfl, fun i h => by omega, HBS.out⟩
                case round =>
                  obtain ⟨n, hn, rfl, hqn, hbl⟩ := hrel
                  have HN := Lib.hid hqn; clear hqn
                  rename World => wl
                  have HBL := Lib.hid hbl; clear hbl
                  have HWL := Lib.hid ((below_one w (boxed L)).trans (HBL.out.mono (by simp)))
                  have x5 : wl.cell? ⟨w.heap.size, 5, none⟩ = some (.slice p5 L.links.length c5) := by rw [boxed_at w L HBL.out 5, e5]; rfl
                  by_cases hnt : n < L.links.length
                  · obtain ⟨_, _, eK, _, _, hrowK⟩ := (e5 ▸ HL.out.lins.1)
                    cases eK
                    obtain ⟨KA, rfl, hKA, hcellK⟩ := hrowK (by omega)
                    obtain ⟨hfr, hcls, hglue⟩ := HL.out.lins.2 L.links[n] (List.getElem_mem _)
                    obtain ⟨qf, cf, hfv, _, _, _⟩ := open_row hfr
                    have v0 : wl.cell? (KA.add (n * 3)) = some (.string L.links[n].cls) := by
                      rw [HWL.out.cell (p := KA.add (n * 3)) (by rw [add_block]; exact hKA)]
                      have := hcellK n 0 hnt (by omega)
                      simpa [linF, hnt] using this
                    have v1 : wl.cell? { block := (KA.add (n * 3)).block, off := (KA.add (n * 3)).off + 1 } = some (.string L.links[n].glue) := by
                      rw [HWL.out.cell (p := ⟨(KA.add (n * 3)).block, (KA.add (n * 3)).off + 1, none⟩) (by show (KA.add (n * 3)).block < _; rw [add_block]; exact hKA)]
                      have := cell_at 1 (by omega) (hcellK n 1 hnt (by omega))
                      simpa [linF, hnt] using this
                    have v2 : wl.cell? { block := (KA.add (n * 3)).block, off := (KA.add (n * 3)).off + 2 } = some (.slice qf L.links[n].fs.length cf) := by
                      rw [HWL.out.cell (p := ⟨(KA.add (n * 3)).block, (KA.add (n * 3)).off + 2, none⟩) (by show (KA.add (n * 3)).block < _; rw [add_block]; exact hKA)]
                      have := cell_at 2 (by omega) (hcellK n 2 hnt (by omega))
                      simpa [linF, hnt, hfv] using this
                    clear hcellK hrowK
                    have HLE := Lib.hid (linkErr_at (T := L.traits) (C := L.classes) hnt)
                    have HFR := Lib.hid (reads_step HWL.out hfr); clear hfr
                    have HFV := Lib.hid hfv; clear hfv
                    have hlk := (rfl : L.links[n] = L.links[n])
                    generalize L.links[n] = lk at *
                    clear hlk
                    have HWA := Lib.hid (HWL.out.alloc HWL.out.size (.cells #[.string lk.cls, .string lk.glue, .slice qf lk.fs.length cf] 78))
                    have HBA := Lib.hid (HBL.out.alloc HBL.out.size (.cells #[.string lk.cls, .string lk.glue, .slice qf lk.fs.length cf] 78))
                    have y0 : (wl.alloc (.cells #[.string lk.cls, .string lk.glue, .slice qf lk.fs.length cf] 78)).cell? ⟨w.heap.size, 0, none⟩ = some (.string L.vowels) := by rw [boxed_at w L HBA.out 0]; rfl
                    have y1 : (wl.alloc (.cells #[.string lk.cls, .string lk.glue, .slice qf lk.fs.length cf] 78)).cell? ⟨w.heap.size, 1, none⟩ = some (.slice p1 L.traits.length c1) := by rw [boxed_at w L HBA.out 1, e1]; rfl
                    have y2 : (wl.alloc (.cells #[.string lk.cls, .string lk.glue, .slice qf lk.fs.length cf] 78)).cell? ⟨w.heap.size, 2, none⟩ = some (.slice p2 L.classes.length c2) := by rw [boxed_at w L HBA.out 2, e2]; rfl
                    have y3 : (wl.alloc (.cells #[.string lk.cls, .string lk.glue, .slice qf lk.fs.length cf] 78)).cell? ⟨w.heap.size, 3, none⟩ = some (.slice p3 L.entries.length c3) := by rw [boxed_at w L HBA.out 3, e3]; rfl
                    have y4 : (wl.alloc (.cells #[.string lk.cls, .string lk.glue, .slice qf lk.fs.length cf] 78)).cell? ⟨w.heap.size, 4, none⟩ = some (.slice p4 L.spells.length c4) := by rw [boxed_at w L HBA.out 4, e4]; rfl
                    have y5 : (wl.alloc (.cells #[.string lk.cls, .string lk.glue, .slice qf lk.fs.length cf] 78)).cell? ⟨w.heap.size, 5, none⟩ = some (.slice (some KA) L.links.length c5) := by rw [boxed_at w L HBA.out 5, e5]; rfl
                    have HCL := Lib.hid (HVAL.out ▸ refClass_any L lk.cls _ (HL.out.step HWA.out))
                    rcases idxOf_cases L.classes.length (claQ L.classes lk.cls) with ⟨hneg, _⟩ | ⟨ci, hci, _, _, heq⟩
                    · have HI : Hid (classIdx L.classes L.classes.length lk.cls = -1) := Lib.hid hneg
                      clear hneg
                      have HX := Lib.hid (HLE.out.trans (if_pos (by rw [HI.out]; decide)))
                      go_wp2_with (go_at_call 44; refine (HCL.out).mono ?_; rintro e w5 ⟨he, hb5⟩; rw [HI.out] at he; subst he; have HW5 := Lib.hid (HWA.out.trans (hb5.mono HWA.out.size)); have HB5 := Lib.hid (HBA.out.trans (hb5.mono HBA.out.size)); have g0 := (show w5.cell? ⟨wl.heap.size, 0, none⟩ = some (.string lk.cls) by rw [hb5.cell (p := ⟨wl.heap.size, 0, none⟩) (by simp), World.cell?_alloc_new]; rfl); have g1 := (show w5.cell? ⟨wl.heap.size, 1, none⟩ = some (.string lk.glue) by rw [hb5.cell (p := ⟨wl.heap.size, 1, none⟩) (by simp), World.cell?_alloc_new]; rfl); have g2 := (show w5.cell? ⟨wl.heap.size, 2, none⟩ = some (.slice qf lk.fs.length cf) by rw [hb5.cell (p := ⟨wl.heap.size, 2, none⟩) (by simp), World.cell?_alloc_new]; rfl); have k0 := (show w5.cell? ⟨w.heap.size, 0, none⟩ = some (.string L.vowels) by rw [boxed_at w L HB5.out 0]; rfl); have k1 := (show w5.cell? ⟨w.heap.size, 1, none⟩ = some (.slice p1 L.traits.length c1) by rw [boxed_at w L HB5.out 1, e1]; rfl); have k2 := (show w5.cell? ⟨w.heap.size, 2, none⟩ = some (.slice p2 L.classes.length c2) by rw [boxed_at w L HB5.out 2, e2]; rfl); have k3 := (show w5.cell? ⟨w.heap.size, 3, none⟩ = some (.slice p3 L.entries.length c3) by rw [boxed_at w L HB5.out 3, e3]; rfl); have k4 := (show w5.cell? ⟨w.heap.size, 4, none⟩ = some (.slice p4 L.spells.length c4) by rw [boxed_at w L HB5.out 4, e4]; rfl); have k5 := (show w5.cell? ⟨w.heap.size, 5, none⟩ = some (.slice (some KA) L.links.length c5) by rw [boxed_at w L HB5.out 5, e5]; rfl); have HFR5 := Lib.hid (reads_step (below_one wl (.cells #[.string lk.cls, .string lk.glue, .slice qf lk.fs.length cf] 78)) HFR.out); have HFR6 := Lib.hid (reads_step hb5 HFR5.out); clear hb5)
                      go_ret
                      exact ⟨ret_i (by have hE1 : errAt L 5 = linkErr L.traits L.classes L.links n := hS8.trans (errOf_at hnt HN.out (by rw [HX.out]; decide)); rw [HX.out] at hE1; rw [check_at (k := 5) (by omega) H4.out (by rw [hE1]; decide), hE1]), HW5.out⟩
                    have HI : Hid (classIdx L.classes L.classes.length lk.cls = (ci : Int)) := Lib.hid heq
                    clear heq
                    have HLE2 := Lib.hid (HLE.out.trans (if_neg (by rw [HI.out]; omega)))
                    have hci0 : ¬ ((ci : Int) < 0) := by omega
                    cases h1 : allB isL lk.glue
                    · have HX := Lib.hid (HLE2.out.trans (if_pos (by unfold patB; rw [h1]; simp)))
                      go_wp2_with (first | (go_at_call 44; refine (HCL.out).mono ?_; rintro e w5 ⟨he, hb5⟩; rw [HI.out] at he; subst he; have HW5 := Lib.hid (HWA.out.trans (hb5.mono HWA.out.size)); have HB5 := Lib.hid (HBA.out.trans (hb5.mono HBA.out.size)); have g0 := (show w5.cell? ⟨wl.heap.size, 0, none⟩ = some (.string lk.cls) by rw [hb5.cell (p := ⟨wl.heap.size, 0, none⟩) (by simp), World.cell?_alloc_new]; rfl); have g1 := (show w5.cell? ⟨wl.heap.size, 1, none⟩ = some (.string lk.glue) by rw [hb5.cell (p := ⟨wl.heap.size, 1, none⟩) (by simp), World.cell?_alloc_new]; rfl); have g2 := (show w5.cell? ⟨wl.heap.size, 2, none⟩ = some (.slice qf lk.fs.length cf) by rw [hb5.cell (p := ⟨wl.heap.size, 2, none⟩) (by simp), World.cell?_alloc_new]; rfl); have k0 := (show w5.cell? ⟨w.heap.size, 0, none⟩ = some (.string L.vowels) by rw [boxed_at w L HB5.out 0]; rfl); have k1 := (show w5.cell? ⟨w.heap.size, 1, none⟩ = some (.slice p1 L.traits.length c1) by rw [boxed_at w L HB5.out 1, e1]; rfl); have k2 := (show w5.cell? ⟨w.heap.size, 2, none⟩ = some (.slice p2 L.classes.length c2) by rw [boxed_at w L HB5.out 2, e2]; rfl); have k3 := (show w5.cell? ⟨w.heap.size, 3, none⟩ = some (.slice p3 L.entries.length c3) by rw [boxed_at w L HB5.out 3, e3]; rfl); have k4 := (show w5.cell? ⟨w.heap.size, 4, none⟩ = some (.slice p4 L.spells.length c4) by rw [boxed_at w L HB5.out 4, e4]; rfl); have k5 := (show w5.cell? ⟨w.heap.size, 5, none⟩ = some (.slice (some KA) L.links.length c5) by rw [boxed_at w L HB5.out 5, e5]; rfl); have HFR5 := Lib.hid (reads_step (below_one wl (.cells #[.string lk.cls, .string lk.glue, .slice qf lk.fs.length cf] 78)) HFR.out); have HFR6 := Lib.hid (reads_step hb5 HFR5.out); clear hb5) | (go_at_call 40; with_reducible refine (of_any lk.glue _ hglue).mono ?_; rintro e w' ⟨rfl, rfl⟩))
                      go_ret
                      exact ⟨ret_i (by have hE1 : errAt L 5 = linkErr L.traits L.classes L.links n := hS8.trans (errOf_at hnt HN.out (by rw [HX.out]; decide)); rw [HX.out] at hE1; rw [check_at (k := 5) (by omega) H4.out (by rw [hE1]; decide), hE1]), HW5.out⟩
                    by_cases h2 : (6 : Int) < (lk.glue.size : Int)
                    · have HX := Lib.hid (HLE2.out.trans (if_pos (by unfold patB; rw [decide_eq_false (by omega)]; rfl)))
                      go_wp2_with (first | (go_at_call 44; refine (HCL.out).mono ?_; rintro e w5 ⟨he, hb5⟩; rw [HI.out] at he; subst he; have HW5 := Lib.hid (HWA.out.trans (hb5.mono HWA.out.size)); have HB5 := Lib.hid (HBA.out.trans (hb5.mono HBA.out.size)); have g0 := (show w5.cell? ⟨wl.heap.size, 0, none⟩ = some (.string lk.cls) by rw [hb5.cell (p := ⟨wl.heap.size, 0, none⟩) (by simp), World.cell?_alloc_new]; rfl); have g1 := (show w5.cell? ⟨wl.heap.size, 1, none⟩ = some (.string lk.glue) by rw [hb5.cell (p := ⟨wl.heap.size, 1, none⟩) (by simp), World.cell?_alloc_new]; rfl); have g2 := (show w5.cell? ⟨wl.heap.size, 2, none⟩ = some (.slice qf lk.fs.length cf) by rw [hb5.cell (p := ⟨wl.heap.size, 2, none⟩) (by simp), World.cell?_alloc_new]; rfl); have k0 := (show w5.cell? ⟨w.heap.size, 0, none⟩ = some (.string L.vowels) by rw [boxed_at w L HB5.out 0]; rfl); have k1 := (show w5.cell? ⟨w.heap.size, 1, none⟩ = some (.slice p1 L.traits.length c1) by rw [boxed_at w L HB5.out 1, e1]; rfl); have k2 := (show w5.cell? ⟨w.heap.size, 2, none⟩ = some (.slice p2 L.classes.length c2) by rw [boxed_at w L HB5.out 2, e2]; rfl); have k3 := (show w5.cell? ⟨w.heap.size, 3, none⟩ = some (.slice p3 L.entries.length c3) by rw [boxed_at w L HB5.out 3, e3]; rfl); have k4 := (show w5.cell? ⟨w.heap.size, 4, none⟩ = some (.slice p4 L.spells.length c4) by rw [boxed_at w L HB5.out 4, e4]; rfl); have k5 := (show w5.cell? ⟨w.heap.size, 5, none⟩ = some (.slice (some KA) L.links.length c5) by rw [boxed_at w L HB5.out 5, e5]; rfl); have HFR5 := Lib.hid (reads_step (below_one wl (.cells #[.string lk.cls, .string lk.glue, .slice qf lk.fs.length cf] 78)) HFR.out); have HFR6 := Lib.hid (reads_step hb5 HFR5.out); clear hb5) | (go_at_call 40; with_reducible refine (of_any lk.glue _ hglue).mono ?_; rintro e w' ⟨rfl, rfl⟩))
                      go_ret
                      exact ⟨ret_i (by have hE1 : errAt L 5 = linkErr L.traits L.classes L.links n := hS8.trans (errOf_at hnt HN.out (by rw [HX.out]; decide)); rw [HX.out] at hE1; rw [check_at (k := 5) (by omega) H4.out (by rw [hE1]; decide), hE1]), HW5.out⟩
                    have HX := Lib.hid (HLE2.out.trans (if_neg (by unfold patB; rw [h1, decide_eq_true (show lk.glue.size ≤ 6 by omega)]; simp)))
                    by_cases hbe : bundleErr L.traits lk.fs = 0
                    · have HZ := Lib.hid (HX.out.trans hbe)
                      go_wp2_with (first | (go_at_call 44; refine (HCL.out).mono ?_; rintro e w5 ⟨he, hb5⟩; rw [HI.out] at he; subst he; have HW5 := Lib.hid (HWA.out.trans (hb5.mono HWA.out.size)); have HB5 := Lib.hid (HBA.out.trans (hb5.mono HBA.out.size)); have g0 := (show w5.cell? ⟨wl.heap.size, 0, none⟩ = some (.string lk.cls) by rw [hb5.cell (p := ⟨wl.heap.size, 0, none⟩) (by simp), World.cell?_alloc_new]; rfl); have g1 := (show w5.cell? ⟨wl.heap.size, 1, none⟩ = some (.string lk.glue) by rw [hb5.cell (p := ⟨wl.heap.size, 1, none⟩) (by simp), World.cell?_alloc_new]; rfl); have g2 := (show w5.cell? ⟨wl.heap.size, 2, none⟩ = some (.slice qf lk.fs.length cf) by rw [hb5.cell (p := ⟨wl.heap.size, 2, none⟩) (by simp), World.cell?_alloc_new]; rfl); have k0 := (show w5.cell? ⟨w.heap.size, 0, none⟩ = some (.string L.vowels) by rw [boxed_at w L HB5.out 0]; rfl); have k1 := (show w5.cell? ⟨w.heap.size, 1, none⟩ = some (.slice p1 L.traits.length c1) by rw [boxed_at w L HB5.out 1, e1]; rfl); have k2 := (show w5.cell? ⟨w.heap.size, 2, none⟩ = some (.slice p2 L.classes.length c2) by rw [boxed_at w L HB5.out 2, e2]; rfl); have k3 := (show w5.cell? ⟨w.heap.size, 3, none⟩ = some (.slice p3 L.entries.length c3) by rw [boxed_at w L HB5.out 3, e3]; rfl); have k4 := (show w5.cell? ⟨w.heap.size, 4, none⟩ = some (.slice p4 L.spells.length c4) by rw [boxed_at w L HB5.out 4, e4]; rfl); have k5 := (show w5.cell? ⟨w.heap.size, 5, none⟩ = some (.slice (some KA) L.links.length c5) by rw [boxed_at w L HB5.out 5, e5]; rfl); have HFR5 := Lib.hid (reads_step (below_one wl (.cells #[.string lk.cls, .string lk.glue, .slice qf lk.fs.length cf] 78)) HFR.out); have HFR6 := Lib.hid (reads_step hb5 HFR5.out); clear hb5) | (go_at_call 40; with_reducible refine (of_any lk.glue _ hglue).mono ?_; rintro e w' ⟨rfl, rfl⟩) | (go_at_call 45; refine (HVAL.out ▸ refBundle_any L lk.fs _ w5 (HL.out.step HW5.out) (HFV.out ▸ HFR6.out)).mono ?_; rintro e w6 ⟨rfl, hb6⟩; have HW6 := Lib.hid (HW5.out.trans (hb6.mono HW5.out.size)); have HB6 := Lib.hid (HB5.out.trans (hb6.mono HB5.out.size)); clear hb6))
                      go_roundw
                      case rel => exact ⟨n + 1, by omega, by go_num, below_succ HN.out HZ.out, HB6.out⟩
                      case measure => simp [intOf]; omega
                    · have HNZ := Lib.hid hbe
                      go_wp2_with (first | (go_at_call 44; refine (HCL.out).mono ?_; rintro e w5 ⟨he, hb5⟩; rw [HI.out] at he; subst he; have HW5 := Lib.hid (HWA.out.trans (hb5.mono HWA.out.size)); have HB5 := Lib.hid (HBA.out.trans (hb5.mono HBA.out.size)); have g0 := (show w5.cell? ⟨wl.heap.size, 0, none⟩ = some (.string lk.cls) by rw [hb5.cell (p := ⟨wl.heap.size, 0, none⟩) (by simp), World.cell?_alloc_new]; rfl); have g1 := (show w5.cell? ⟨wl.heap.size, 1, none⟩ = some (.string lk.glue) by rw [hb5.cell (p := ⟨wl.heap.size, 1, none⟩) (by simp), World.cell?_alloc_new]; rfl); have g2 := (show w5.cell? ⟨wl.heap.size, 2, none⟩ = some (.slice qf lk.fs.length cf) by rw [hb5.cell (p := ⟨wl.heap.size, 2, none⟩) (by simp), World.cell?_alloc_new]; rfl); have k0 := (show w5.cell? ⟨w.heap.size, 0, none⟩ = some (.string L.vowels) by rw [boxed_at w L HB5.out 0]; rfl); have k1 := (show w5.cell? ⟨w.heap.size, 1, none⟩ = some (.slice p1 L.traits.length c1) by rw [boxed_at w L HB5.out 1, e1]; rfl); have k2 := (show w5.cell? ⟨w.heap.size, 2, none⟩ = some (.slice p2 L.classes.length c2) by rw [boxed_at w L HB5.out 2, e2]; rfl); have k3 := (show w5.cell? ⟨w.heap.size, 3, none⟩ = some (.slice p3 L.entries.length c3) by rw [boxed_at w L HB5.out 3, e3]; rfl); have k4 := (show w5.cell? ⟨w.heap.size, 4, none⟩ = some (.slice p4 L.spells.length c4) by rw [boxed_at w L HB5.out 4, e4]; rfl); have k5 := (show w5.cell? ⟨w.heap.size, 5, none⟩ = some (.slice (some KA) L.links.length c5) by rw [boxed_at w L HB5.out 5, e5]; rfl); have HFR5 := Lib.hid (reads_step (below_one wl (.cells #[.string lk.cls, .string lk.glue, .slice qf lk.fs.length cf] 78)) HFR.out); have HFR6 := Lib.hid (reads_step hb5 HFR5.out); clear hb5) | (go_at_call 40; with_reducible refine (of_any lk.glue _ hglue).mono ?_; rintro e w' ⟨rfl, rfl⟩) | (go_at_call 45; refine (HVAL.out ▸ refBundle_any L lk.fs _ w5 (HL.out.step HW5.out) (HFV.out ▸ HFR6.out)).mono ?_; rintro e w6 ⟨rfl, hb6⟩; have HW6 := Lib.hid (HW5.out.trans (hb6.mono HW5.out.size)); have HB6 := Lib.hid (HB5.out.trans (hb6.mono HB5.out.size)); clear hb6))
                      go_ret
                      exact ⟨ret_i (by have hE1 : errAt L 5 = linkErr L.traits L.classes L.links n := hS8.trans (errOf_at hnt HN.out (by rw [HX.out]; exact HNZ.out)); rw [HX.out] at hE1; rw [check_at (k := 5) (by omega) H4.out (by rw [hE1]; exact HNZ.out), hE1]), HW6.out⟩
                  · have HX := Lib.hid (show ∀ j, j < 6 → errAt L j = 0 from below_succ H4.out (hS8.trans (errOf_none fun j hj => HN.out j (by omega))))
                    go_wp2
                    go_ret
                    exact ⟨ret_i (by unfold checkErr; rw [errOf_none HX.out]), HWL.out⟩
          · have HX := Lib.hid (show errAt L 3 ≠ 0 from he)
            go_wp2_with (first | (go_at_call 41; refine (HTS.out).mono ?_; rintro e w2 ⟨rfl, hb2⟩; have HB2 := Lib.hid (HB.out.trans (hb2.mono HB.out.size)); have HW2 := Lib.hid (HW.out.trans (hb2.mono HW.out.size)); clear hb2; have pp0 := (show w2.cell? ⟨w.heap.size, 0, none⟩ = some (.string L.vowels) by rw [boxed_at w L HB2.out 0]; rfl); have pp1 := (show w2.cell? ⟨w.heap.size, 1, none⟩ = some (.slice p1 L.traits.length c1) by rw [boxed_at w L HB2.out 1, e1]; rfl); have pp2 := (show w2.cell? ⟨w.heap.size, 2, none⟩ = some (.slice p2 L.classes.length c2) by rw [boxed_at w L HB2.out 2, e2]; rfl); have pp3 := (show w2.cell? ⟨w.heap.size, 3, none⟩ = some (.slice p3 L.entries.length c3) by rw [boxed_at w L HB2.out 3, e3]; rfl); have pp4 := (show w2.cell? ⟨w.heap.size, 4, none⟩ = some (.slice p4 L.spells.length c4) by rw [boxed_at w L HB2.out 4, e4]; rfl); have pp5 := (show w2.cell? ⟨w.heap.size, 5, none⟩ = some (.slice p5 L.links.length c5) by rw [boxed_at w L HB2.out 5, e5]; rfl); have HCS := Lib.hid (HVAL.out ▸ refClasses_any L w2 (HL.out.step HW2.out))) | (go_at_call 42; refine (HCS.out).mono ?_; rintro e w3 ⟨rfl, hb3⟩; have HB3 := Lib.hid (HB2.out.trans (hb3.mono HB2.out.size)); have HW3 := Lib.hid (HW2.out.trans (hb3.mono HW2.out.size)); clear hb3; have qq0 := (show w3.cell? ⟨w.heap.size, 0, none⟩ = some (.string L.vowels) by rw [boxed_at w L HB3.out 0]; rfl); have qq1 := (show w3.cell? ⟨w.heap.size, 1, none⟩ = some (.slice p1 L.traits.length c1) by rw [boxed_at w L HB3.out 1, e1]; rfl); have qq2 := (show w3.cell? ⟨w.heap.size, 2, none⟩ = some (.slice p2 L.classes.length c2) by rw [boxed_at w L HB3.out 2, e2]; rfl); have qq3 := (show w3.cell? ⟨w.heap.size, 3, none⟩ = some (.slice p3 L.entries.length c3) by rw [boxed_at w L HB3.out 3, e3]; rfl); have qq4 := (show w3.cell? ⟨w.heap.size, 4, none⟩ = some (.slice p4 L.spells.length c4) by rw [boxed_at w L HB3.out 4, e4]; rfl); have qq5 := (show w3.cell? ⟨w.heap.size, 5, none⟩ = some (.slice p5 L.links.length c5) by rw [boxed_at w L HB3.out 5, e5]; rfl);) | (go_at_call 43; refine (HVAL.out ▸ refEntries_any L w3 (HL.out.step HW3.out) (fun c hc' s hs => Nat.le_trans (HSH.out c hc' s hs) (by omega))).mono ?_; rintro e w4 ⟨rfl, hb4⟩; have HB4 := Lib.hid (HB3.out.trans (hb4.mono HB3.out.size)); have HW4 := Lib.hid (HW3.out.trans (hb4.mono HW3.out.size)); clear hb4; have rr0 := (show w4.cell? ⟨w.heap.size, 0, none⟩ = some (.string L.vowels) by rw [boxed_at w L HB4.out 0]; rfl); have rr1 := (show w4.cell? ⟨w.heap.size, 1, none⟩ = some (.slice p1 L.traits.length c1) by rw [boxed_at w L HB4.out 1, e1]; rfl); have rr2 := (show w4.cell? ⟨w.heap.size, 2, none⟩ = some (.slice p2 L.classes.length c2) by rw [boxed_at w L HB4.out 2, e2]; rfl); have rr3 := (show w4.cell? ⟨w.heap.size, 3, none⟩ = some (.slice p3 L.entries.length c3) by rw [boxed_at w L HB4.out 3, e3]; rfl); have rr4 := (show w4.cell? ⟨w.heap.size, 4, none⟩ = some (.slice p4 L.spells.length c4) by rw [boxed_at w L HB4.out 4, e4]; rfl); have rr5 := (show w4.cell? ⟨w.heap.size, 5, none⟩ = some (.slice p5 L.links.length c5) by rw [boxed_at w L HB4.out 5, e5]; rfl);))
            go_ret
            exact ⟨ret_i (by rw [check_at (k := 3) (by omega) H2.out HX.out]; rfl), HW4.out⟩
        · have HX := Lib.hid (show errAt L 2 ≠ 0 from hc)
          go_wp2_with (first | (go_at_call 41; refine (HTS.out).mono ?_; rintro e w2 ⟨rfl, hb2⟩; have HB2 := Lib.hid (HB.out.trans (hb2.mono HB.out.size)); have HW2 := Lib.hid (HW.out.trans (hb2.mono HW.out.size)); clear hb2; have pp0 := (show w2.cell? ⟨w.heap.size, 0, none⟩ = some (.string L.vowels) by rw [boxed_at w L HB2.out 0]; rfl); have pp1 := (show w2.cell? ⟨w.heap.size, 1, none⟩ = some (.slice p1 L.traits.length c1) by rw [boxed_at w L HB2.out 1, e1]; rfl); have pp2 := (show w2.cell? ⟨w.heap.size, 2, none⟩ = some (.slice p2 L.classes.length c2) by rw [boxed_at w L HB2.out 2, e2]; rfl); have pp3 := (show w2.cell? ⟨w.heap.size, 3, none⟩ = some (.slice p3 L.entries.length c3) by rw [boxed_at w L HB2.out 3, e3]; rfl); have pp4 := (show w2.cell? ⟨w.heap.size, 4, none⟩ = some (.slice p4 L.spells.length c4) by rw [boxed_at w L HB2.out 4, e4]; rfl); have pp5 := (show w2.cell? ⟨w.heap.size, 5, none⟩ = some (.slice p5 L.links.length c5) by rw [boxed_at w L HB2.out 5, e5]; rfl); have HCS := Lib.hid (HVAL.out ▸ refClasses_any L w2 (HL.out.step HW2.out))) | (go_at_call 42; refine (HCS.out).mono ?_; rintro e w3 ⟨rfl, hb3⟩; have HB3 := Lib.hid (HB2.out.trans (hb3.mono HB2.out.size)); have HW3 := Lib.hid (HW2.out.trans (hb3.mono HW2.out.size)); clear hb3; have qq0 := (show w3.cell? ⟨w.heap.size, 0, none⟩ = some (.string L.vowels) by rw [boxed_at w L HB3.out 0]; rfl); have qq1 := (show w3.cell? ⟨w.heap.size, 1, none⟩ = some (.slice p1 L.traits.length c1) by rw [boxed_at w L HB3.out 1, e1]; rfl); have qq2 := (show w3.cell? ⟨w.heap.size, 2, none⟩ = some (.slice p2 L.classes.length c2) by rw [boxed_at w L HB3.out 2, e2]; rfl); have qq3 := (show w3.cell? ⟨w.heap.size, 3, none⟩ = some (.slice p3 L.entries.length c3) by rw [boxed_at w L HB3.out 3, e3]; rfl); have qq4 := (show w3.cell? ⟨w.heap.size, 4, none⟩ = some (.slice p4 L.spells.length c4) by rw [boxed_at w L HB3.out 4, e4]; rfl); have qq5 := (show w3.cell? ⟨w.heap.size, 5, none⟩ = some (.slice p5 L.links.length c5) by rw [boxed_at w L HB3.out 5, e5]; rfl);))
          go_ret
          exact ⟨ret_i (by rw [check_at (k := 2) (by omega) H1.out HX.out]; rfl), HW3.out⟩
      · have HX := Lib.hid (show errAt L 1 ≠ 0 from ht)
        go_wp2_with (go_at_call 41; refine (HTS.out).mono ?_; rintro e w2 ⟨rfl, hb2⟩; have HB2 := Lib.hid (HB.out.trans (hb2.mono HB.out.size)); have HW2 := Lib.hid (HW.out.trans (hb2.mono HW.out.size)); clear hb2; have pp0 := (show w2.cell? ⟨w.heap.size, 0, none⟩ = some (.string L.vowels) by rw [boxed_at w L HB2.out 0]; rfl); have pp1 := (show w2.cell? ⟨w.heap.size, 1, none⟩ = some (.slice p1 L.traits.length c1) by rw [boxed_at w L HB2.out 1, e1]; rfl); have pp2 := (show w2.cell? ⟨w.heap.size, 2, none⟩ = some (.slice p2 L.classes.length c2) by rw [boxed_at w L HB2.out 2, e2]; rfl); have pp3 := (show w2.cell? ⟨w.heap.size, 3, none⟩ = some (.slice p3 L.entries.length c3) by rw [boxed_at w L HB2.out 3, e3]; rfl); have pp4 := (show w2.cell? ⟨w.heap.size, 4, none⟩ = some (.slice p4 L.spells.length c4) by rw [boxed_at w L HB2.out 4, e4]; rfl); have pp5 := (show w2.cell? ⟨w.heap.size, 5, none⟩ = some (.slice p5 L.links.length c5) by rw [boxed_at w L HB2.out 5, e5]; rfl); have HCS := Lib.hid (HVAL.out ▸ refClasses_any L w2 (HL.out.step HW2.out)))
        go_ret
        exact ⟨ret_i (by rw [check_at (k := 1) (by omega) (below_succ (fun j hj => absurd hj (by omega)) H0.out) HX.out]; rfl), HW2.out⟩
set_option maxRecDepth 100000 in
set_option maxHeartbeats 2000000 in
theorem refBundle_of (L : Lex) (b : List Ft) (bv : Value) (w : World) (hL : LexAt w L) (hb : ReadsIn w.heap.size w bv b) :
    Calls Tryz.prog 13 #[L.val, bv] w fun e w' => e = .returned (.int .u8 (bundleOf L b)) ∧ Below w.heap.size w w' := by
  obtain ⟨p1, c1, p2, c2, p3, c3, p4, c4, p5, c5, e1, e2, e3, e4, e5, hc1, hm1, hc2, hm2, hc3, hm3, hc4, hm4, hc5, hm5⟩ := lex_forms hL
  have HL := Lib.hid hL; clear hL
  have hval : L.val = .agg #[.string L.vowels, .slice p1 L.traits.length c1, .slice p2 L.classes.length c2, .slice p3 L.entries.length c3, .slice p4 L.spells.length c4, .slice p5 L.links.length c5] := by unfold Lex.val; rw [e1, e2, e3, e4, e5]
  have HVAL := Lib.hid hval
  have HO := Lib.hid (show boxed L = .cells #[.string L.vowels, .slice p1 L.traits.length c1, .slice p2 L.classes.length c2, .slice p3 L.entries.length c3, .slice p4 L.spells.length c4, .slice p5 L.links.length c5] 28 by unfold boxed; rw [e1, e2, e3, e4, e5])
  rw [hval]
  clear hval
  have ag := Tryz.isAgg28
  have zg := Tryz.sizeOf28
  have HBV := Lib.hid hb; clear hb
  have HW := Lib.hid (HO.out ▸ below_one w (boxed L))
  have HC := Lib.hid (HVAL.out ▸ refCheck_any L _ (HL.out.step HW.out))
  by_cases hz : checkErr L = 0
  · have HX := Lib.hid (show bundleOf L b = bundleErr L.traits b from if_pos hz)
    go_enter Tryz.func13, Tryz.ntmps13
    go_wp2_with (first
      | (go_at_call 11; refine (HC.out).mono ?_; rintro e w2 ⟨rfl, hb2⟩; rw [← HO.out] at hb2; have HB2 := Lib.hid (hb2); have HW2 := Lib.hid ((below_one w (boxed L)).trans (hb2.mono (by simp))); have k0 := (show w2.cell? ⟨w.heap.size, 0, none⟩ = some (.string L.vowels) by rw [boxed_at w L HB2.out 0]; rfl); have k1 := (show w2.cell? ⟨w.heap.size, 1, none⟩ = some (.slice p1 L.traits.length c1) by rw [boxed_at w L HB2.out 1, e1]; rfl); have k2 := (show w2.cell? ⟨w.heap.size, 2, none⟩ = some (.slice p2 L.classes.length c2) by rw [boxed_at w L HB2.out 2, e2]; rfl); have k3 := (show w2.cell? ⟨w.heap.size, 3, none⟩ = some (.slice p3 L.entries.length c3) by rw [boxed_at w L HB2.out 3, e3]; rfl); have k4 := (show w2.cell? ⟨w.heap.size, 4, none⟩ = some (.slice p4 L.spells.length c4) by rw [boxed_at w L HB2.out 4, e4]; rfl); have k5 := (show w2.cell? ⟨w.heap.size, 5, none⟩ = some (.slice p5 L.links.length c5) by rw [boxed_at w L HB2.out 5, e5]; rfl); clear hb2; have HCB := Lib.hid (HVAL.out ▸ refBundle_any L b _ w2 (HL.out.step HW2.out) (reads_step HW2.out HBV.out)))
      | (go_at_call 45; refine (HCB.out).mono ?_; rintro e w3 ⟨rfl, hb3⟩; have HB3 := Lib.hid (HW2.out.trans (hb3.mono HW2.out.size)); clear hb3))
    go_ret
    exact ⟨ret_i HX.out, HB3.out⟩
  · have HX := Lib.hid (show bundleOf L b = checkErr L from if_neg hz)
    go_enter Tryz.func13, Tryz.ntmps13
    go_wp2_with (go_at_call 11; refine (HC.out).mono ?_; rintro e w2 ⟨rfl, hb2⟩; have HB2 := Lib.hid (HW.out.trans (hb2.mono HW.out.size)); clear hb2)
    go_ret
    exact ⟨ret_i HX.out, HB2.out⟩
end Go.Proofs.YtgddmegjncbndaaGreatDoor
