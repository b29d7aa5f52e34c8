/- The program's check of vowels. -/
import Derived.Test.YtgddmegjncbndaaGreatDoorLex7
namespace Go.Proofs.YtgddmegjncbndaaGreatDoor
open Go Go.RowKit
def vowelErr (v : ByteArray) (i : Nat) : Int := if h : i < v.size then (if isL (v[i].toNat : Int) = false ∨ (0 < i ∧ (v[i].toNat : Int) ≤ ((v[i - 1]'(by omega)).toNat : Int)) then 1 else 0) else 0
def vowelsErr (v : ByteArray) : Int := errOf v.size (vowelErr v)
theorem vowelErr_at {v : ByteArray} {k : Nat} (hk : k < v.size) : vowelErr v k = if isL (v[k].toNat : Int) = false ∨ (0 < k ∧ (v[k].toNat : Int) ≤ ((v[k - 1]'(by omega)).toNat : Int)) then 1 else 0 := by
  unfold vowelErr
  rw [dif_pos hk]
set_option maxRecDepth 100000 in
set_option maxHeartbeats 4000000 in
theorem checkVowels_any (L : Lex) (w : World) (hL : LexAt w L) :
    Calls Tryz.prog 34 #[L.val] w fun e w' => e = .returned (.int .u8 (vowelsErr L.vowels)) ∧ Below w.heap.size w w' := by
  obtain ⟨p1, c1, p2, c2, p3, c3, p4, c4, p5, c5, e1, e2, e3, e4, e5, _⟩ := lex_forms hL
  have hvs := hL.vow
  have hval : L.val = .agg #[.string L.vowels, .slice p1 L.traits.length c1, .slice p2 L.classes.length c2, .slice p3 L.entries.length c3, .slice p4 L.spells.length c4, .slice p5 L.links.length c5] := by unfold Lex.val; rw [e1, e2, e3, e4, e5]
  have HO := Lib.hid (show boxed L = .cells #[.string L.vowels, .slice p1 L.traits.length c1, .slice p2 L.classes.length c2, .slice p3 L.entries.length c3, .slice p4 L.spells.length c4, .slice p5 L.links.length c5] 28 by unfold boxed; rw [e1, e2, e3, e4, e5])
  rw [hval]
  unfold maxLen at hvs
  clear hL
  go_enter Tryz.func34, Tryz.ntmps34
  go_wp2
  go_loopw [7] (fun i wr => ∃ k : Nat, k ≤ L.vowels.size ∧ i = .int .i64 k ∧ (∀ j, j < k → vowelErr L.vowels j = 0) ∧ Below (w.alloc (boxed L)).heap.size (w.alloc (boxed L)) wr) (fun i _ => L.vowels.size - (intOf i).toNat)
  case atStart => exact ⟨0, by omega, rfl, fun i h => by omega, by rw [HO.out]; exact Below.refl _ _⟩
  case round =>
    obtain ⟨k, hk, rfl, hq, hB⟩ := hrel
    have HQ := Lib.hid hq; clear hq
    have HB := Lib.hid hB; clear hB
    by_cases hlt : k < L.vowels.size
    · rename World => wr
      have HW := Lib.hid ((below_one w (boxed L)).trans (HB.out.mono (by simp)))
      have b0 : wr.cell? ⟨w.heap.size, 0, none⟩ = some (.string L.vowels) := by rw [boxed_at w L HB.out 0]; rfl
      have HF := Lib.hid (vowelErr_at hlt)
      have hlt1 : (k : Int) < (L.vowels.size : Int) := by omega
      cases hl : isL (L.vowels[k].toNat : Int)
      · have HX := Lib.hid (HF.out.trans (if_pos (.inl hl))); clear HF
        go_wp2
        go_quiet ((go_at_call 69; refine Calls.quiet_of_same ((letter_any _ _).mono fun _ _ ⟨h1, h2⟩ => ⟨h1, h2.symm⟩)))
        go_wp2
        go_ret
        exact ⟨ret_i (by unfold vowelsErr; rw [errOf_at hlt HQ.out (by rw [HX.out]; decide), HX.out]), by repeat (first | exact HW.out | apply below_drewN)⟩
      · by_cases hk0 : k = 0
        · have HX := Lib.hid (HF.out.trans (if_neg (by rw [hl]; simp; omega))); clear HF
          subst hk0
          go_wp2
          go_quiet ((go_at_call 69; refine Calls.quiet_of_same ((letter_any _ _).mono fun _ _ ⟨h1, h2⟩ => ⟨h1, h2.symm⟩)))
          go_wp2
          go_roundw
          case rel => exact ⟨1, by omega, by go_num, below_succ HQ.out HX.out, by repeat (first | exact HB.out | apply below_drewN)⟩
          case measure => simp [intOf]; omega
        · have hk1 : 0 < k := by omega
          have hdk : decide (0 < k) = true := decide_eq_true hk1
          have hk2 : (0 : Int) ≤ (k : Int) - 1 := by omega
          have hk3 : (k : Int) - 1 < (L.vowels.size : Int) := by omega
          have hkp : k - 1 < L.vowels.size := by omega
          have hwk : IntKind.i64.wrap ((k : Int) - 1) = ((k - 1 : Nat) : Int) := by rw [IntKind.wrap_i64]; omega
          have hkp2 : ((k - 1 : Nat) : Int) < (L.vowels.size : Int) := by omega
          by_cases hge : (L.vowels[k].toNat : Int) ≤ (L.vowels[k - 1].toNat : Int)
          · have HX := Lib.hid (HF.out.trans (if_pos (.inr ⟨hk1, hge⟩))); clear HF
            go_wp2
            go_quiet ((go_at_call 69; refine Calls.quiet_of_same ((letter_any _ _).mono fun _ _ ⟨h1, h2⟩ => ⟨h1, h2.symm⟩)))
            go_wp2
            go_ret
            exact ⟨ret_i (by unfold vowelsErr; rw [errOf_at hlt HQ.out (by rw [HX.out]; decide), HX.out]), by repeat (first | exact HW.out | apply below_drewN)⟩
          · have HX := Lib.hid (HF.out.trans (if_neg (by rw [hl]; simp; omega))); clear HF
            go_wp2
            go_quiet ((go_at_call 69; refine Calls.quiet_of_same ((letter_any _ _).mono fun _ _ ⟨h1, h2⟩ => ⟨h1, h2.symm⟩)))
            go_wp2
            go_roundw
            case rel => exact ⟨k + 1, by omega, by go_num, below_succ HQ.out HX.out, by repeat (first | exact HB.out | apply below_drewN)⟩
            case measure => simp [intOf]; omega
    · go_wp2
      go_ret
      exact ⟨ret_i (by unfold vowelsErr; rw [errOf_none fun j hj => HQ.out j (by omega)]), (below_one w (boxed L)).trans (HB.out.mono (by simp))⟩
end Go.Proofs.YtgddmegjncbndaaGreatDoor
