/- What matches a symbol of a rule, and where a rule is applied, as the specification tells it. -/
import Derived.Test.YtgddmegjncbndaaGreatDoorSp2
namespace Go.Proofs.YtgddmegjncbndaaGreatDoor
open Go Go.RowKit
def refMat (v : ByteArray) (pat : Int) (s : ByteArray) (a : Int) : Bool := if h : 0 ≤ a ∧ a < (s.size : Int) then
    (if pat = 86 then inTo v ((s[a.toNat]'(by omega)).toNat : Int) v.size else if pat = 67 then isL ((s[a.toNat]'(by omega)).toNat : Int) && !inTo v ((s[a.toNat]'(by omega)).toNat : Int) v.size else decide (pat = ((s[a.toNat]'(by omega)).toNat : Int)))
  else decide (pat = 35) && (decide (a = -1) || decide (a = (s.size : Int)))
theorem refMat_out {v : ByteArray} {pat : Int} {s : ByteArray} {a : Int} (h : a < 0 ∨ (s.size : Int) ≤ a) : refMat v pat s a = (decide (pat = 35) && (decide (a = -1) || decide (a = (s.size : Int)))) := by unfold refMat; rw [dif_neg (by omega)]
theorem refMat_in {v : ByteArray} {pat : Int} {s : ByteArray} {k : Nat} (h : k < s.size) : refMat v pat s (k : Int) = if pat = 86 then inTo v (s[k].toNat : Int) v.size else if pat = 67 then isL (s[k].toNat : Int) && !inTo v (s[k].toNat : Int) v.size else decide (pat = (s[k].toNat : Int)) := by
  unfold refMat; rw [dif_pos (by omega)]; simp
def VowAt (v : ByteArray) (c : Int) (W : World) (o i : Value) (wr : World) : Prop := ∃ k : Nat, k ≤ v.size ∧ i = .int .i64 k ∧ o = .bool (inTo v c k) ∧ Below W.heap.size W wr
theorem VowAt.next {v : ByteArray} {c : Int} {W wr : World} {k : Nat} {b : Bool} (hk : k < v.size) (h : inTo v c (k + 1) = b) (hb : Below W.heap.size W wr) : VowAt v c W (.bool b) (.int .i64 (k + 1 : Nat)) wr := ⟨k + 1, hk, rfl, by rw [h], hb⟩
set_option maxRecDepth 100000 in
set_option maxHeartbeats 4000000 in
theorem refMatches_any (L : Lex) (pat : Int) (s : ByteArray) (a : Int) (w : World) (hL : LexAt w L) (hs : s.size ≤ 3000) :
    Calls Tryz.prog 113 #[L.val, .int .u8 pat, .string s, .int .i64 a] w fun e w' => e = .returned (.bool (refMat L.vowels pat s a)) ∧ Below w.heap.size w w' := by
  obtain ⟨p1, c1, p2, c2, p3, c3, p4, c4, p5, c5, e1, e2, e3, e4, e5, hc1, hm1, hc2, hm2, hc3, hm3, hc4, hm4, hc5, hm5⟩ := lex_forms hL
  have HL := Lib.hid hL; clear hL
  have hval : L.val = .agg #[.string L.vowels, .slice p1 L.traits.length c1, .slice p2 L.classes.length c2, .slice p3 L.entries.length c3, .slice p4 L.spells.length c4, .slice p5 L.links.length c5] := by unfold Lex.val; rw [e1, e2, e3, e4, e5]
  have HVAL := Lib.hid hval
  have HO := Lib.hid (show boxed L = .cells #[.string L.vowels, .slice p1 L.traits.length c1, .slice p2 L.classes.length c2, .slice p3 L.entries.length c3, .slice p4 L.spells.length c4, .slice p5 L.links.length c5] 28 by unfold boxed; rw [e1, e2, e3, e4, e5])
  rw [hval]
  clear hval
  have ag := Tryz.isAgg28
  have zg := Tryz.sizeOf28
  have hvs := HL.out.vow
  unfold maxLen at hvs
  by_cases hout : a < 0 ∨ (s.size : Int) ≤ a
  · have HX := Lib.hid (refMat_out (v := L.vowels) (pat := pat) hout)
    by_cases p0 : a < 0 <;> by_cases p1 : pat = 35 <;> by_cases p2 : a = -1 <;> by_cases p3 : a = (s.size : Int)
    all_goals
      first
      | (exfalso; omega)
      | (have HP1 := Lib.hid p1
         have HP2 := Lib.hid p2
         have HP3 := Lib.hid p3
         first | have q1 : (pat == 35) = true := beq_iff_eq.2 p1 | have q1 : (pat == 35) = false := beq_eq_false_iff_ne.2 p1
         first | have q2 : (a == -1) = true := beq_iff_eq.2 p2 | have q2 : (a == -1) = false := beq_eq_false_iff_ne.2 p2
         first | have q3 : (a == (s.size : Int)) = true := beq_iff_eq.2 p3 | have q3 : (a == (s.size : Int)) = false := beq_eq_false_iff_ne.2 p3
         clear p1 p2 p3
         try have p4 : (s.size : Int) ≤ a := by omega
         clear hout
         go_enter Tryz.func113, Tryz.ntmps113
         go_wp2
         go_ret
         exact ⟨ret_bool (by rw [HX.out]; simp [HP1.out, HP2.out, HP3.out]), below_one _ _⟩)
  · obtain ⟨k, rfl⟩ := Int.eq_ofNat_of_zero_le (show 0 ≤ a by omega)
    have hk : k < s.size := by omega
    have HX := Lib.hid (refMat_in (v := L.vowels) (pat := pat) hk)
    have hk1 : (k : Int) < (s.size : Int) := by omega
    have hk0 : ¬ (s.size : Int) ≤ (k : Int) := by omega
    go_enter Tryz.func113, Tryz.ntmps113
    go_wp2
    go_loopw [9, 10] (fun o i wr => VowAt L.vowels (s[k].toNat : Int) (w.alloc (boxed L)) o i wr) (fun _ i _ => L.vowels.size - (intOf i).toNat)
    case atStart => exact ⟨0, by omega, rfl, by rw [inTo_zero], by rw [HO.out]; exact Below.refl _ _⟩
    case round =>
      obtain ⟨j, hj, rfl, rfl, hB⟩ := hrel
      rename World => wr
      have HB := Lib.hid hB; clear hB
      have HW := Lib.hid ((below_one w (boxed L)).trans (HB.out.mono (by simp)))
      have b0 : wr.cell? ⟨w.heap.size, 0, none⟩ = some (.string L.vowels) := by rw [boxed_at w L HB.out 0]; rfl
      by_cases hjt : j < L.vowels.size
      · have hst := inTo_step (m := L.vowels) (c := (s[k].toNat : Int)) hjt
        cases ho : inTo L.vowels (s[k].toNat : Int) j
        · by_cases hb : (L.vowels[j].toNat : Int) = (s[k].toNat : Int)
          · have HY := Lib.hid (show inTo L.vowels (s[k].toNat : Int) (j + 1) = true by rw [hst, decide_eq_true hb.symm]; simp)
            have hbb : ((L.vowels[j].toNat : Int) == (s[k].toNat : Int)) = true := beq_iff_eq.2 hb
            clear hst ho hb
            go_wp2
            go_quiet (fail)
            go_wp2
            go_roundw
            case rel => exact VowAt.next hjt HY.out (below_drewN _ HB.out)
            case measure => simp [intOf]; omega
          · have HY := Lib.hid (show inTo L.vowels (s[k].toNat : Int) (j + 1) = false by rw [hst, ho, decide_eq_false (fun e => hb e.symm)]; rfl)
            have hbb : ((L.vowels[j].toNat : Int) == (s[k].toNat : Int)) = false := beq_eq_false_iff_ne.2 hb
            clear hst ho hb
            go_wp2
            go_quiet (fail)
            go_wp2
            go_roundw
            case rel => exact VowAt.next hjt HY.out (below_drewN _ HB.out)
            case measure => simp [intOf]; omega
        · have HY := Lib.hid (show inTo L.vowels (s[k].toNat : Int) (j + 1) = true by rw [hst, ho]; rfl)
          clear hst ho
          go_wp2
          go_quiet (fail)
          go_wp2
          go_roundw
          case rel => exact VowAt.next hjt HY.out (below_drewN _ HB.out)
          case measure => simp [intOf]; omega
      · obtain rfl : j = L.vowels.size := by omega
        cases ho : inTo L.vowels (s[k].toNat : Int) L.vowels.size <;> cases hl : isL (s[k].toNat : Int)
        all_goals
          have HO2 := Lib.hid ho
          have HL2 := Lib.hid hl
          clear ho
          by_cases c1 : pat = 86
          · have HZ := Lib.hid (HX.out.trans (if_pos c1))
            have c1' : (pat == 86) = true := beq_iff_eq.2 c1
            clear c1
            go_wp2_with (go_at_call 80; refine (refLetter_any _ _).mono ?_; rintro e w' ⟨rfl, rfl⟩)
            go_ret
            exact ⟨ret_bool (by rw [HZ.out, HO2.out]), HW.out⟩
          by_cases c2 : pat = 67
          · have HZ := Lib.hid (HX.out.trans ((if_neg c1).trans (if_pos c2)))
            have c1' : (pat == 86) = false := beq_eq_false_iff_ne.2 c1
            have c2' : (pat == 67) = true := beq_iff_eq.2 c2
            clear c1 c2
            go_wp2_with (go_at_call 80; refine (refLetter_any _ _).mono ?_; rintro e w' ⟨rfl, rfl⟩)
            go_ret
            exact ⟨ret_bool (by rw [HZ.out]; simp [HO2.out, HL2.out]), HW.out⟩
          have HZ := Lib.hid (HX.out.trans ((if_neg c1).trans (if_neg c2)))
          have c1' : (pat == 86) = false := beq_eq_false_iff_ne.2 c1
          have c2' : (pat == 67) = false := beq_eq_false_iff_ne.2 c2
          clear c1 c2
          go_wp2_with (go_at_call 80; refine (refLetter_any _ _).mono ?_; rintro e w' ⟨rfl, rfl⟩)
          go_ret
          exact ⟨ret_bool (by rw [HZ.out]; exact Bool.eq_iff_iff.2 (by simp)), HW.out⟩
end Go.Proofs.YtgddmegjncbndaaGreatDoor
