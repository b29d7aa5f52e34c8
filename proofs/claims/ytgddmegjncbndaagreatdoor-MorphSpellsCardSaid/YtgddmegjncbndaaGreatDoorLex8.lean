/- The program's checks of spelling rules, links and vowels. -/
import Derived.Test.YtgddmegjncbndaaGreatDoorLex7
namespace Go.Proofs.YtgddmegjncbndaaGreatDoor
open Go Go.RowKit
def isP (c : Int) : Bool := isL c || decide (c = 43)
def isS (c : Int) : Bool := isP c || decide (c = 35) || decide (c = 86) || decide (c = 67)
theorem plainByte_any (c : Int) (w : World) : Calls Tryz.prog 48 #[.int .u8 c] w fun e w' => e = .returned (.bool (isP c)) ∧ w = w' := by
  have e1 : isP c = (isL c || decide (c = 43)) := rfl
  have HS := Lib.hid e1; clear e1
  cases h1 : isL c <;> by_cases h2 : c = 43
  all_goals
    have H1 := Lib.hid h1
    have H2 := Lib.hid h2
    go_enter Tryz.func48, Tryz.ntmps48
    go_wp2_with (go_at_call 69; refine (letter_any _ _).mono ?_; rintro e w' ⟨rfl, rfl⟩)
    go_ret
    exact ⟨by rw [HS.out, H1.out]; simp [H2.out], rfl⟩
theorem symbolByte_any (c : Int) (w : World) : Calls Tryz.prog 79 #[.int .u8 c] w fun e w' => e = .returned (.bool (isS c)) ∧ w = w' := by
  have e1 : isS c = (isP c || decide (c = 35) || decide (c = 86) || decide (c = 67)) := rfl
  have HS := Lib.hid e1; clear e1
  cases h1 : isP c <;> by_cases h2 : c = 35 <;> by_cases h3 : c = 86 <;> by_cases h4 : c = 67
  all_goals first
    | (exfalso; omega)
    | (have H1 := Lib.hid h1
       have H2 := Lib.hid h2
       have H3 := Lib.hid h3
       have H4 := Lib.hid h4
       go_enter Tryz.func79, Tryz.ntmps79
       go_wp2_with (go_at_call 48; refine (plainByte_any _ _).mono ?_; rintro e w' ⟨rfl, rfl⟩)
       go_ret
       exact ⟨by rw [HS.out, H1.out]; simp [H2.out, H3.out, H4.out], rfl⟩)
theorem allAreP (s : ByteArray) (w : World) (hs : s.size ≤ maxLen) :
    Calls Tryz.prog 47 #[.string s, .func (.func 48) #[] #[]] w fun e w' => e = .returned (.bool (allB isP s)) ∧ w = w' := by
  unfold maxLen at hs
  go_enter Tryz.func47, Tryz.ntmps47
  go_wp2
  go_loop [8] (fun i => ∃ k : Nat, k ≤ s.size ∧ i = .int .i64 k ∧ upTo isP s k) (fun i => s.size - (intOf i).toNat)
  case atStart => exact ⟨0, Nat.zero_le _, rfl, upTo_zero _ _⟩
  case round =>
    obtain ⟨k, hk, rfl, hu⟩ := hrel
    by_cases hlt : k < s.size
    · have HU := Lib.hid hu; clear hu
      cases hp : isP (s[k].toNat : Int)
      · have HP := Lib.hid hp
        go_wp2_with (go_at_call 48; refine (plainByte_any _ _).mono ?_; rintro e w' ⟨rfl, rfl⟩)
        go_ret
        exact ⟨ret_bool (allB_false hlt HP.out).symm, rfl⟩
      · have HP := Lib.hid hp
        go_wp2_with (go_at_call 48; refine (plainByte_any _ _).mono ?_; rintro e w' ⟨rfl, rfl⟩)
        go_round
        case rel => exact ⟨k + 1, by omega, by go_num, upTo_succ HU.out hlt HP.out⟩
        case measure => simp [intOf]; omega
    · go_wp2
      go_ret
      exact ⟨ret_bool (allB_true hu (by omega)).symm, rfl⟩
theorem isPatternP (s : ByteArray) (w : World) (hs : s.size ≤ maxLen) :
    Calls Tryz.prog 78 #[.string s, .func (.func 48) #[] #[]] w fun e w' => e = .returned (.bool (patB isP s)) ∧ w' = w := by
  by_cases h : s.size ≤ 6
  · have hp : patB isP s = allB isP s := by unfold patB; simp [h]
    have HP := Lib.hid hp; clear hp
    have h' : (s.size : Int) ≤ 6 := by omega
    go_enter Tryz.func78, Tryz.ntmps78
    go_wp2_with (go_at_call 47; refine (allAreP s _ hs).mono ?_; rintro e w' ⟨rfl, rfl⟩)
    go_ret
    exact ⟨ret_bool HP.out.symm, rfl⟩
  · have hp : patB isP s = false := by unfold patB; simp [h]
    have HP := Lib.hid hp; clear hp
    have h' : ¬ (s.size : Int) ≤ 6 := by omega
    go_enter Tryz.func78, Tryz.ntmps78
    go_wp2
    go_ret
    exact ⟨ret_bool HP.out.symm, rfl⟩
theorem allAreS (s : ByteArray) (w : World) (hs : s.size ≤ maxLen) :
    Calls Tryz.prog 47 #[.string s, .func (.func 79) #[] #[]] w fun e w' => e = .returned (.bool (allB isS s)) ∧ w = w' := by
  unfold maxLen at hs
  go_enter Tryz.func47, Tryz.ntmps47
  go_wp2
  go_loop [8] (fun i => ∃ k : Nat, k ≤ s.size ∧ i = .int .i64 k ∧ upTo isS s k) (fun i => s.size - (intOf i).toNat)
  case atStart => exact ⟨0, Nat.zero_le _, rfl, upTo_zero _ _⟩
  case round =>
    obtain ⟨k, hk, rfl, hu⟩ := hrel
    by_cases hlt : k < s.size
    · have HU := Lib.hid hu; clear hu
      cases hp : isS (s[k].toNat : Int)
      · have HP := Lib.hid hp
        go_wp2_with (go_at_call 79; refine (symbolByte_any _ _).mono ?_; rintro e w' ⟨rfl, rfl⟩)
        go_ret
        exact ⟨ret_bool (allB_false hlt HP.out).symm, rfl⟩
      · have HP := Lib.hid hp
        go_wp2_with (go_at_call 79; refine (symbolByte_any _ _).mono ?_; rintro e w' ⟨rfl, rfl⟩)
        go_round
        case rel => exact ⟨k + 1, by omega, by go_num, upTo_succ HU.out hlt HP.out⟩
        case measure => simp [intOf]; omega
    · go_wp2
      go_ret
      exact ⟨ret_bool (allB_true hu (by omega)).symm, rfl⟩
theorem isPatternS (s : ByteArray) (w : World) (hs : s.size ≤ maxLen) :
    Calls Tryz.prog 78 #[.string s, .func (.func 79) #[] #[]] w fun e w' => e = .returned (.bool (patB isS s)) ∧ w' = w := by
  by_cases h : s.size ≤ 6
  · have hp : patB isS s = allB isS s := by unfold patB; simp [h]
    have HP := Lib.hid hp; clear hp
    have h' : (s.size : Int) ≤ 6 := by omega
    go_enter Tryz.func78, Tryz.ntmps78
    go_wp2_with (go_at_call 47; refine (allAreS s _ hs).mono ?_; rintro e w' ⟨rfl, rfl⟩)
    go_ret
    exact ⟨ret_bool HP.out.symm, rfl⟩
  · have hp : patB isS s = false := by unfold patB; simp [h]
    have HP := Lib.hid hp; clear hp
    have h' : ¬ (s.size : Int) ≤ 6 := by omega
    go_enter Tryz.func78, Tryz.ntmps78
    go_wp2
    go_ret
    exact ⟨ret_bool HP.out.symm, rfl⟩
def spellErr (S : List Spe) (i : Nat) : Int := match S[i]? with
  | some r => if r.frm.toList.isEmpty = true ∨ patB isP r.frm = false ∨ patB isP r.to = false ∨ patB isS r.left = false ∨ patB isS r.right = false then 1 else 0
  | none => 0
def spellsErr (S : List Spe) : Int := if 16 < S.length then 3 else errOf S.length (spellErr S)
theorem spellErr_at {S : List Spe} {k : Nat} (hk : k < S.length) : spellErr S k = if S[k].frm.toList.isEmpty = true ∨ patB isP S[k].frm = false ∨ patB isP S[k].to = false ∨ patB isS S[k].left = false ∨ patB isS S[k].right = false then 1 else 0 := by
  unfold spellErr
  rw [List.getElem?_eq_getElem hk]
set_option maxRecDepth 100000 in
set_option maxHeartbeats 8000000 in
theorem checkSpells_any (L : Lex) (w : World) (hL : LexAt w L) :
    Calls Tryz.prog 38 #[L.val] w fun e w' => e = .returned (.int .u8 (spellsErr L.spells)) ∧ Below w.heap.size w w' := by
  obtain ⟨p1, c1, p2, c2, p3, c3, p4, c4, p5, c5, e1, e2, e3, e4, e5, hc1, hm1, hc2, hm2, hc3, hm3, hc4, hm4, hc5, hm5⟩ := lex_forms hL
  have HL := Lib.hid hL; clear hL
  have hval : L.val = .agg #[.string L.vowels, .slice p1 L.traits.length c1, .slice p2 L.classes.length c2, .slice p3 L.entries.length c3, .slice p4 L.spells.length c4, .slice p5 L.links.length c5] := by unfold Lex.val; rw [e1, e2, e3, e4, e5]
  have HO := Lib.hid (show boxed L = .cells #[.string L.vowels, .slice p1 L.traits.length c1, .slice p2 L.classes.length c2, .slice p3 L.entries.length c3, .slice p4 L.spells.length c4, .slice p5 L.links.length c5] 28 by unfold boxed; rw [e1, e2, e3, e4, e5])
  rw [hval]
  unfold maxLen at hm1 hm2 hm4 hm5
  have ag := Tryz.isAgg76
  have zg := Tryz.sizeOf76
  by_cases h8 : (16 : Int) < (L.spells.length : Int)
  · go_enter Tryz.func38, Tryz.ntmps38
    go_wp2
    go_ret
    exact ⟨ret_i (by unfold spellsErr; rw [if_pos (by omega)]), below_one _ _⟩
  have HE : Hid (spellsErr L.spells = errOf L.spells.length (spellErr L.spells)) := Lib.hid (by unfold spellsErr; rw [if_neg (by omega)])
  go_enter Tryz.func38, Tryz.ntmps38
  go_wp2
  go_loopw [13] (fun i wr => ∃ k : Nat, k ≤ L.spells.length ∧ i = .int .i64 k ∧ (∀ j, j < k → spellErr L.spells j = 0) ∧ Below (w.alloc (boxed L)).heap.size (w.alloc (boxed L)) wr) (fun i _ => L.spells.length - (intOf i).toNat)
  case atStart => exact ⟨0, by omega, rfl, fun i h => by omega, by rw [HO.out]; exact Below.refl _ _⟩
  case round =>
    obtain ⟨k, hk, rfl, hq, hB⟩ := hrel
    have HQ := Lib.hid hq; clear hq
    have HB := Lib.hid hB; clear hB
    by_cases hlt : k < L.spells.length
    · rename World => wr
      have HW := Lib.hid ((below_one w (boxed L)).trans (HB.out.mono (by simp)))
      have hrow0 := (HL.out.spes.step HW.out).1
      rw [e4] at hrow0
      obtain ⟨_, _, es, _, _, hrow⟩ := hrow0
      cases es
      obtain ⟨A, rfl, hA, hcell⟩ := hrow (by omega)
      obtain ⟨z1, z2, z3, z4⟩ := HL.out.spes.2 L.spells[k] (List.getElem_mem _)
      have x0 : wr.cell? (A.add (k * 4)) = some (.string L.spells[k].frm) := by
        have := hcell k 0 hlt (by omega)
        simpa [speF, hlt] using this
      have x1 : wr.cell? { block := (A.add (k * 4)).block, off := (A.add (k * 4)).off + 1 } = some (.string L.spells[k].to) := by
        have := cell_at 1 (by omega) (hcell k 1 hlt (by omega))
        simpa [speF, hlt] using this
      have x2 : wr.cell? { block := (A.add (k * 4)).block, off := (A.add (k * 4)).off + 2 } = some (.string L.spells[k].left) := by
        have := cell_at 2 (by omega) (hcell k 2 hlt (by omega))
        simpa [speF, hlt] using this
      have x3 : wr.cell? { block := (A.add (k * 4)).block, off := (A.add (k * 4)).off + 3 } = some (.string L.spells[k].right) := by
        have := cell_at 3 (by omega) (hcell k 3 hlt (by omega))
        simpa [speF, hlt] using this
      clear hcell hrow
      have HX0 := Lib.hid (HB.out.alloc HB.out.size (.cells #[.string L.spells[k].frm, .string L.spells[k].to, .string L.spells[k].left, .string L.spells[k].right] 76))
      have HW0 := Lib.hid (HW.out.alloc HW.out.size (.cells #[.string L.spells[k].frm, .string L.spells[k].to, .string L.spells[k].left, .string L.spells[k].right] 76))
      have HF := Lib.hid (spellErr_at hlt)
      cases hem : L.spells[k].frm.toList.isEmpty <;> cases q1 : patB isP L.spells[k].frm <;> cases q2 : patB isP L.spells[k].to <;> cases q3 : patB isS L.spells[k].left <;> cases q4 : patB isS L.spells[k].right
      all_goals
        first
          | (have HX := Lib.hid (HF.out.trans (if_neg (by rw [hem, q1, q2, q3, q4]; simp)))
             clear HF
             go_wp2_with (first | (go_at_call 78; with_reducible refine (isPatternP L.spells[k].frm _ z1).mono ?_; rintro e w' ⟨rfl, rfl⟩) | (go_at_call 78; with_reducible refine (isPatternP L.spells[k].to _ z2).mono ?_; rintro e w' ⟨rfl, rfl⟩) | (go_at_call 78; with_reducible refine (isPatternS L.spells[k].left _ z3).mono ?_; rintro e w' ⟨rfl, rfl⟩) | (go_at_call 78; with_reducible refine (isPatternS L.spells[k].right _ z4).mono ?_; rintro e w' ⟨rfl, rfl⟩))
             go_roundw
             case rel => exact ⟨k + 1, by omega, by go_num, below_succ HQ.out HX.out, HX0.out⟩
             case measure => simp [intOf]; omega)
          | (have HX := Lib.hid (HF.out.trans (if_pos (by rw [hem, q1, q2, q3, q4]; simp)))
             clear HF
             go_wp2_with (first | (go_at_call 78; with_reducible refine (isPatternP L.spells[k].frm _ z1).mono ?_; rintro e w' ⟨rfl, rfl⟩) | (go_at_call 78; with_reducible refine (isPatternP L.spells[k].to _ z2).mono ?_; rintro e w' ⟨rfl, rfl⟩) | (go_at_call 78; with_reducible refine (isPatternS L.spells[k].left _ z3).mono ?_; rintro e w' ⟨rfl, rfl⟩) | (go_at_call 78; with_reducible refine (isPatternS L.spells[k].right _ z4).mono ?_; rintro e w' ⟨rfl, rfl⟩))
             go_ret
             exact ⟨ret_i (by rw [HE.out, errOf_at hlt HQ.out (by rw [HX.out]; decide), HX.out]), HW0.out⟩)
    · go_wp2
      go_ret
      exact ⟨ret_i (by rw [HE.out, errOf_none fun j hj => HQ.out j (by omega)]), (below_one w (boxed L)).trans (HB.out.mono (by simp))⟩
def linkErr (T : List Tra) (C : List Cla) (K : List Lin) (i : Nat) : Int := match K[i]? with
  | some r => if classIdx C C.length r.cls < 0 then 5 else if patB isL r.glue = false then 1 else bundleErr T r.fs
  | none => 0
def linksErr (T : List Tra) (C : List Cla) (K : List Lin) : Int := if 8 < K.length then 3 else errOf K.length (linkErr T C K)
theorem linkErr_at {T : List Tra} {C : List Cla} {K : List Lin} {k : Nat} (hk : k < K.length) : linkErr T C K k = if classIdx C C.length K[k].cls < 0 then 5 else if patB isL K[k].glue = false then 1 else bundleErr T K[k].fs := by
  unfold linkErr
  rw [List.getElem?_eq_getElem hk]
set_option maxRecDepth 100000 in
set_option maxHeartbeats 8000000 in
theorem checkLinks_any (L : Lex) (w : World) (hL : LexAt w L) :
    Calls Tryz.prog 39 #[L.val] w fun e w' => e = .returned (.int .u8 (linksErr L.traits L.classes L.links)) ∧ Below w.heap.size w w' := by
  obtain ⟨p1, c1, p2, c2, p3, c3, p4, c4, p5, c5, e1, e2, e3, e4, e5, hc1, hm1, hc2, hm2, hc3, hm3, hc4, hm4, hc5, hm5⟩ := lex_forms hL
  have HL := Lib.hid hL; clear hL
  have hval : L.val = .agg #[.string L.vowels, .slice p1 L.traits.length c1, .slice p2 L.classes.length c2, .slice p3 L.entries.length c3, .slice p4 L.spells.length c4, .slice p5 L.links.length c5] := by unfold Lex.val; rw [e1, e2, e3, e4, e5]
  have HO := Lib.hid (show boxed L = .cells #[.string L.vowels, .slice p1 L.traits.length c1, .slice p2 L.classes.length c2, .slice p3 L.entries.length c3, .slice p4 L.spells.length c4, .slice p5 L.links.length c5] 28 by unfold boxed; rw [e1, e2, e3, e4, e5])
  rw [hval]
  unfold maxLen at hm1 hm2 hm4 hm5
  have ag := Tryz.isAgg78
  have zg := Tryz.sizeOf78
  by_cases h8 : (8 : Int) < (L.links.length : Int)
  · go_enter Tryz.func39, Tryz.ntmps39
    go_wp2
    go_ret
    exact ⟨ret_i (by unfold linksErr; rw [if_pos (by omega)]), below_one _ _⟩
  have HE : Hid (linksErr L.traits L.classes L.links = errOf L.links.length (linkErr L.traits L.classes L.links)) := Lib.hid (by unfold linksErr; rw [if_neg (by omega)])
  go_enter Tryz.func39, Tryz.ntmps39
  go_wp2
  go_loopw [13] (fun i wr => ∃ k : Nat, k ≤ L.links.length ∧ i = .int .i64 k ∧ (∀ j, j < k → linkErr L.traits L.classes L.links j = 0) ∧ Below (w.alloc (boxed L)).heap.size (w.alloc (boxed L)) wr) (fun i _ => L.links.length - (intOf i).toNat)
  case atStart => exact ⟨0, by omega, rfl, fun i h => by omega, by rw [HO.out]; exact Below.refl _ _⟩
  case round =>
    obtain ⟨k, hk, rfl, hq, hB⟩ := hrel
    have HQ := Lib.hid hq; clear hq
    have HB := Lib.hid hB; clear hB
    by_cases hlt : k < L.links.length
    · rename World => wr
      have HW := Lib.hid ((below_one w (boxed L)).trans (HB.out.mono (by simp)))
      have hrow0 := (HL.out.lins.step HW.out).1
      rw [e5] at hrow0
      obtain ⟨_, _, es, _, _, hrow⟩ := hrow0
      cases es
      obtain ⟨A, rfl, hA, hcell⟩ := hrow (by omega)
      obtain ⟨hfr, zc, zg1⟩ := HL.out.lins.2 L.links[k] (List.getElem_mem _)
      obtain ⟨q1, d1, hfv, _, _, _⟩ := open_row hfr
      have x0 : wr.cell? (A.add (k * 3)) = some (.string L.links[k].cls) := by
        have := hcell k 0 hlt (by omega)
        simpa [linF, hlt] using this
      have x1 : wr.cell? { block := (A.add (k * 3)).block, off := (A.add (k * 3)).off + 1 } = some (.string L.links[k].glue) := by
        have := cell_at 1 (by omega) (hcell k 1 hlt (by omega))
        simpa [linF, hlt] using this
      have x2 : wr.cell? { block := (A.add (k * 3)).block, off := (A.add (k * 3)).off + 2 } = some (.slice q1 L.links[k].fs.length d1) := by
        have := cell_at 2 (by omega) (hcell k 2 hlt (by omega))
        simpa [linF, hlt, hfv] using this
      have b2 : wr.cell? ⟨w.heap.size, 2, none⟩ = some (.slice p2 L.classes.length c2) := by rw [boxed_at w L HB.out 2, e2]; rfl
      have hws : w.heap.size < wr.heap.size := by have := HB.out.size; simp at this; omega
      have HFR := Lib.hid hfr; clear hfr
      clear hcell hrow
      have HX0 := Lib.hid (HB.out.alloc HB.out.size (.cells #[.string L.links[k].cls, .string L.links[k].glue, .slice q1 L.links[k].fs.length d1] 78))
      have HW0 := Lib.hid (HW.out.alloc HW.out.size (.cells #[.string L.links[k].cls, .string L.links[k].glue, .slice q1 L.links[k].fs.length d1] 78))
      have HF := Lib.hid (linkErr_at (T := L.traits) (C := L.classes) hlt)
      have HCL := Lib.hid (e2 ▸ (HL.out.clas.step HW0.out).1)
      have HCF := Lib.hid HL.out.clas.forms
      by_cases hci : classIdx L.classes L.classes.length L.links[k].cls < 0
      · have HX := Lib.hid (HF.out.trans (if_pos hci)); clear HF
        go_wp2_with (first | (go_at_call 73; refine (classOf_any L.classes L.classes.length _ L.links[k].cls _ HCL.out (Nat.le_refl _) HCF.out).mono ?_; rintro e w2 ⟨rfl, hb2⟩; have HBW := Lib.hid (HW0.out.trans (hb2.mono HW0.out.size)); have HBX := Lib.hid (HX0.out.trans (hb2.mono HX0.out.size)); have HBL := Lib.hid hb2; clear hb2; have l1 := (show w2.cell? ⟨wr.heap.size, 1, none⟩ = some (.string L.links[k].glue) by rw [local_at HBL.out 1]; rfl); have l2 := (show w2.cell? ⟨wr.heap.size, 2, none⟩ = some (.slice q1 L.links[k].fs.length d1) by rw [local_at HBL.out 2]; rfl); have b1 := (show w2.cell? ⟨w.heap.size, 1, none⟩ = some (.slice p1 L.traits.length c1) by rw [boxed_at w L HBX.out 1, e1]; rfl); have HCB := Lib.hid (checkBundle_any L.traits L.links[k].fs _ _ w2 (e1 ▸ HL.out.tras.step HBW.out) (hfv ▸ reads_step HBW.out HFR.out))) | (go_at_call 78; refine (isPattern_letters L.links[k].glue _ zg1).mono ?_; rintro e w' ⟨rfl, rfl⟩) | (go_at_call 46; refine HCB.out.mono ?_; rintro e w4 ⟨rfl, hb4⟩; have HBW4 := Lib.hid (HBW.out.trans (hb4.mono HBW.out.size)); have HBX4 := Lib.hid (HBX.out.trans (hb4.mono HBX.out.size)); clear hb4))
        go_ret
        exact ⟨ret_i (by rw [HE.out, errOf_at hlt HQ.out (by rw [HX.out]; decide), HX.out]), HBW.out⟩
      have HF2 := Lib.hid (HF.out.trans (if_neg hci)); clear HF
      cases hgl : patB isL L.links[k].glue
      · have HX := Lib.hid (HF2.out.trans (if_pos hgl)); clear HF2
        go_wp2_with (first | (go_at_call 73; refine (classOf_any L.classes L.classes.length _ L.links[k].cls _ HCL.out (Nat.le_refl _) HCF.out).mono ?_; rintro e w2 ⟨rfl, hb2⟩; have HBW := Lib.hid (HW0.out.trans (hb2.mono HW0.out.size)); have HBX := Lib.hid (HX0.out.trans (hb2.mono HX0.out.size)); have HBL := Lib.hid hb2; clear hb2; have l1 := (show w2.cell? ⟨wr.heap.size, 1, none⟩ = some (.string L.links[k].glue) by rw [local_at HBL.out 1]; rfl); have l2 := (show w2.cell? ⟨wr.heap.size, 2, none⟩ = some (.slice q1 L.links[k].fs.length d1) by rw [local_at HBL.out 2]; rfl); have b1 := (show w2.cell? ⟨w.heap.size, 1, none⟩ = some (.slice p1 L.traits.length c1) by rw [boxed_at w L HBX.out 1, e1]; rfl); have HCB := Lib.hid (checkBundle_any L.traits L.links[k].fs _ _ w2 (e1 ▸ HL.out.tras.step HBW.out) (hfv ▸ reads_step HBW.out HFR.out))) | (go_at_call 78; refine (isPattern_letters L.links[k].glue _ zg1).mono ?_; rintro e w' ⟨rfl, rfl⟩) | (go_at_call 46; refine HCB.out.mono ?_; rintro e w4 ⟨rfl, hb4⟩; have HBW4 := Lib.hid (HBW.out.trans (hb4.mono HBW.out.size)); have HBX4 := Lib.hid (HBX.out.trans (hb4.mono HBX.out.size)); clear hb4))
        go_ret
        exact ⟨ret_i (by rw [HE.out, errOf_at hlt HQ.out (by rw [HX.out]; decide), HX.out]), HBW.out⟩
      have HF3 := Lib.hid (HF2.out.trans (if_neg (by rw [hgl]; simp))); clear HF2
      by_cases hbe : bundleErr L.traits L.links[k].fs = 0
      · have HX := Lib.hid (HF3.out.trans hbe); clear HF3
        go_wp2_with (first | (go_at_call 73; refine (classOf_any L.classes L.classes.length _ L.links[k].cls _ HCL.out (Nat.le_refl _) HCF.out).mono ?_; rintro e w2 ⟨rfl, hb2⟩; have HBW := Lib.hid (HW0.out.trans (hb2.mono HW0.out.size)); have HBX := Lib.hid (HX0.out.trans (hb2.mono HX0.out.size)); have HBL := Lib.hid hb2; clear hb2; have l1 := (show w2.cell? ⟨wr.heap.size, 1, none⟩ = some (.string L.links[k].glue) by rw [local_at HBL.out 1]; rfl); have l2 := (show w2.cell? ⟨wr.heap.size, 2, none⟩ = some (.slice q1 L.links[k].fs.length d1) by rw [local_at HBL.out 2]; rfl); have b1 := (show w2.cell? ⟨w.heap.size, 1, none⟩ = some (.slice p1 L.traits.length c1) by rw [boxed_at w L HBX.out 1, e1]; rfl); have HCB := Lib.hid (checkBundle_any L.traits L.links[k].fs _ _ w2 (e1 ▸ HL.out.tras.step HBW.out) (hfv ▸ reads_step HBW.out HFR.out))) | (go_at_call 78; refine (isPattern_letters L.links[k].glue _ zg1).mono ?_; rintro e w' ⟨rfl, rfl⟩) | (go_at_call 46; refine HCB.out.mono ?_; rintro e w4 ⟨rfl, hb4⟩; have HBW4 := Lib.hid (HBW.out.trans (hb4.mono HBW.out.size)); have HBX4 := Lib.hid (HBX.out.trans (hb4.mono HBX.out.size)); clear hb4))
        go_roundw
        case rel => exact ⟨k + 1, by omega, by go_num, below_succ HQ.out HX.out, HBX4.out⟩
        case measure => simp [intOf]; omega
      · have HNZ := Lib.hid hbe
        go_wp2_with (first | (go_at_call 73; refine (classOf_any L.classes L.classes.length _ L.links[k].cls _ HCL.out (Nat.le_refl _) HCF.out).mono ?_; rintro e w2 ⟨rfl, hb2⟩; have HBW := Lib.hid (HW0.out.trans (hb2.mono HW0.out.size)); have HBX := Lib.hid (HX0.out.trans (hb2.mono HX0.out.size)); have HBL := Lib.hid hb2; clear hb2; have l1 := (show w2.cell? ⟨wr.heap.size, 1, none⟩ = some (.string L.links[k].glue) by rw [local_at HBL.out 1]; rfl); have l2 := (show w2.cell? ⟨wr.heap.size, 2, none⟩ = some (.slice q1 L.links[k].fs.length d1) by rw [local_at HBL.out 2]; rfl); have b1 := (show w2.cell? ⟨w.heap.size, 1, none⟩ = some (.slice p1 L.traits.length c1) by rw [boxed_at w L HBX.out 1, e1]; rfl); have HCB := Lib.hid (checkBundle_any L.traits L.links[k].fs _ _ w2 (e1 ▸ HL.out.tras.step HBW.out) (hfv ▸ reads_step HBW.out HFR.out))) | (go_at_call 78; refine (isPattern_letters L.links[k].glue _ zg1).mono ?_; rintro e w' ⟨rfl, rfl⟩) | (go_at_call 46; refine HCB.out.mono ?_; rintro e w4 ⟨rfl, hb4⟩; have HBW4 := Lib.hid (HBW.out.trans (hb4.mono HBW.out.size)); have HBX4 := Lib.hid (HBX.out.trans (hb4.mono HBX.out.size)); clear hb4))
        go_ret
        exact ⟨ret_i (by rw [HE.out, errOf_at hlt HQ.out (by rw [HF3.out]; exact HNZ.out), HF3.out]), HBW4.out⟩
    · go_wp2
      go_ret
      exact ⟨ret_i (by rw [HE.out, errOf_none fun j hj => HQ.out j (by omega)]), (below_one w (boxed L)).trans (HB.out.mono (by simp))⟩
end Go.Proofs.YtgddmegjncbndaaGreatDoor
