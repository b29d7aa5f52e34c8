/- Cut by the specification. whether one of the parts is too long, by the program. -/
import Derived.Test.YtnkpjkomokkhcaaGreatDoorGlD
namespace Go.Proofs.YtnkpjkomokkhcaaGreatDoor
open Go Go.RowKit Go.Lib
set_option maxRecDepth 100000
theorem long_yes {Q : List (List Pc)} {j : Nat} (hj : j < Q.length) (h : 512 < (Q.getD j []).length) : longAny Q = true := by
  unfold longAny
  rw [List.any_eq_true]
  refine ⟨Q.getD j [], ?_, decide_eq_true h⟩
  rw [List.getD_eq_getElem?_getD, List.getElem?_eq_getElem hj]
  exact List.getElem_mem hj
theorem long_no {Q : List (List Pc)} (h : ∀ t, t < Q.length → ¬ 512 < (Q.getD t []).length) : longAny Q = false := by
  unfold longAny
  rw [List.any_eq_false]
  intro x hx
  obtain ⟨i, hi, rfl⟩ := List.getElem_of_mem hx
  have h1 := h i hi
  rw [List.getD_eq_getElem?_getD, List.getElem?_eq_getElem hi] at h1
  simpa using h1
end Go.Proofs.YtnkpjkomokkhcaaGreatDoor
namespace Go.Proofs.YtnkpjkomokkhcaaGreatDoor
open Go Go.RowKit Go.Lib
set_option maxRecDepth 100000
def IxEndP (b : Bool) (e : Ending) : Prop := ∃ z : Int, e = .returned (.int .i64 z) ∧ (b = true → 0 ≤ z) ∧ (b = false → z < 0)
set_option maxHeartbeats 4000000 in
theorem index_long (Q : List (List Pc)) (v : Value) (w : World) (hv : PtsAt w v Q) :
    Calls Tryz.prog 79 #[v, .func (.func 41) #[] #[]] w fun e w' => IxEndP (longAny Q) e ∧ w' = w := by
  have HP := Lib.hid hv
  obtain ⟨p, cap, rfl, hlc, hcm⟩ := hv.form
  unfold maxLen at hcm
  clear hv
  go_enter Tryz.func79, Tryz.ntmps79
  go_wp2
  go_loop [5, 8] (fun _ i => ∃ k : Nat, k ≤ Q.length ∧ i = .int .i64 k ∧ Hid (∀ t, t < k → ¬ 512 < (Q.getD t []).length)) (fun _ i => Q.length - (RowKit.intOf i).toNat)
  case atStart => exact ⟨0, Nat.zero_le _, rfl, fun t ht => absurd ht (Nat.not_lt_zero _)⟩
  case round =>
    obtain ⟨k, hk, rfl, HL⟩ := hrel
    by_cases hlt : k < Q.length
    · obtain ⟨A, q, c, rfl, y0, _⟩ := HP.out.part (Below.refl _ _) hlt
      have hki : (k : Int) < (Q.length : Int) := by omega
      have hk0 : (0 : Int) ≤ (k : Int) := by omega
      have cW := fun w2 => isLong_any (Q.getD k []) (.slice q (Q.getD k []).length c) w2 ⟨q, c, rfl⟩
      by_cases h512 : 512 < (Q.getD k []).length
      · have HA := Lib.hid (long_yes hlt h512)
        rw [decide_eq_true h512] at cW
        generalize Q.getD k [] = part at y0 cW
        go_wp2_with (go_at_call 41; (with_reducible refine (cW _).mono ?_); rintro e w' ⟨rfl, rfl⟩)
        go_ret
        exact ⟨⟨_, rfl, fun _ => by omega, fun h => absurd (h.symm.trans HA.out) (by simp)⟩, rfl⟩
      · have HL2 : Hid (∀ t, t < k + 1 → ¬ 512 < (Q.getD t []).length) := fun t ht => by
          rcases Nat.lt_succ_iff_lt_or_eq.1 ht with h1 | rfl
          · exact HL.out t h1
          · exact h512
        rw [decide_eq_false h512] at cW
        generalize Q.getD k [] = part at y0 cW
        go_wp2_with (go_at_call 41; (with_reducible refine (cW _).mono ?_); rintro e w' ⟨rfl, rfl⟩)
        go_round
        case rel => exact ⟨k + 1, hlt, by go_num, HL2.out⟩
        case measure => simp [RowKit.intOf] <;> omega
    · obtain rfl : k = Q.length := by omega
      have hki : ¬ (Q.length : Int) < (Q.length : Int) := by omega
      have HA := Lib.hid (long_no HL.out)
      go_wp2
      go_ret
      exact ⟨⟨_, rfl, fun h => absurd (HA.out.symm.trans h) (by simp), fun _ => by omega⟩, rfl⟩
theorem ret_boolP {a b : Bool} (h : a = b) : Ending.returned (.bool a) = .returned (.bool b) := by rw [h]
set_option maxHeartbeats 2000000 in
theorem contains_long (Q : List (List Pc)) (v : Value) (w : World) (hv : PtsAt w v Q) :
    Calls Tryz.prog 40 #[v, .func (.func 41) #[] #[]] w fun e w' => e = .returned (.bool (longAny Q)) ∧ w' = w := by
  have cI := index_long Q v w hv
  obtain ⟨p, cap, rfl, hlc, hcm⟩ := hv.form
  clear hv
  generalize longAny Q = b at cI
  cases b
  · go_enter Tryz.func40, Tryz.ntmps40
    go_wp2_with (go_at_call 79; (with_reducible refine cI.mono ?_); rintro e w2 ⟨⟨z, rfl, h1, h2⟩, hw⟩; obtain rfl := hw.symm; have hz := h2 rfl; clear h1 h2)
    go_ret
    exact ⟨ret_boolP (decide_eq_false (by omega)), rfl⟩
  · go_enter Tryz.func40, Tryz.ntmps40
    go_wp2_with (go_at_call 79; (with_reducible refine cI.mono ?_); rintro e w2 ⟨⟨z, rfl, h1, h2⟩, hw⟩; obtain rfl := hw.symm; have hz := h1 rfl; clear h1 h2)
    go_ret
    exact ⟨rfl, rfl⟩
end Go.Proofs.YtnkpjkomokkhcaaGreatDoor
