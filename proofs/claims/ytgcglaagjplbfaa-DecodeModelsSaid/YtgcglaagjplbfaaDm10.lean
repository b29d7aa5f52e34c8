/- Models: Step and Score, by the program and by the specification. -/
import Derived.Test.YtgcglaagjplbfaaDm9
namespace Go.Proofs.Ytgcglaagjplbfaa
open Go Go.RowKit Go.Lib
set_option maxRecDepth 100000
def noneS (p : ByteArray → Bool) (l : List ByteArray) (k : Nat) : Prop := ∀ i, i < k → p (l.getD i ⟨#[]⟩) = false
theorem noneS.succ {p : ByteArray → Bool} {l : List ByteArray} {k : Nat} (h : noneS p l k) (hk : p (l.getD k ⟨#[]⟩) = false) : noneS p l (k + 1) := fun i hi => by
  by_cases e : i = k
  · subst e; exact hk
  · exact h i (by omega)
theorem noneS.all {p : ByteArray → Bool} {l : List ByteArray} (h : noneS p l l.length) : l.any p = false := by
  rw [List.any_eq_false]
  intro x hx
  obtain ⟨i, hi, rfl⟩ := List.getElem_of_mem hx
  have := h i hi
  rw [List.getD_eq_getElem?_getD, List.getElem?_eq_getElem hi] at this
  simpa using this
theorem anyS_of {p : ByteArray → Bool} {l : List ByteArray} {k : Nat} (hk : k < l.length) (h : p (l.getD k ⟨#[]⟩) = true) : l.any p = true := List.any_eq_true.2 ⟨_, wd_mem hk, h⟩
def noW (s : ByteArray) : Bool := !wordB s
set_option maxHeartbeats 1000000 in
theorem notWord_any (s : ByteArray) (w : World) (hs : s.size ≤ maxLen) : Calls Try.prog 19 #[.string s] w fun e w' => e = .returned (.bool (noW s)) ∧ w' = w := by
  have cW := word_any s w hs
  have HS := Lib.hid (show noW s = !wordB s from rfl)
  generalize wordB s = W at cW HS
  cases W
  all_goals
    go_enter Try.func19, Try.ntmps19
    go_wp2_with (go_at_call 20; (with_reducible refine cW.mono ?_); rintro e w' ⟨rfl, rfl⟩)
    go_ret
    exact ⟨ret_bool (by rw [HS.out]; rfl), rfl⟩
def IxEnd (b : Bool) (e : Ending) : Prop := ∃ z : Int, e = .returned (.int .i64 z) ∧ (b = true → 0 ≤ z) ∧ (b = false → ¬ 0 ≤ z)
set_option maxHeartbeats 4000000 in
theorem index_noWord (l : List ByteArray) (v : Value) (w : World) (hv : WdsAt w v l) :
    Calls Try.prog 28 #[v, .func (.func 19) #[] #[]] w fun e w' => IxEnd (l.any noW) e ∧ Below w.heap.size w w' := by
  obtain ⟨⟨q, cap, rfl, hl, hc, hrow⟩, hz⟩ := hv
  unfold maxLen at hc
  have HR := Lib.hid hrow
  have HZ := Lib.hid hz
  clear hrow hz
  go_enter Try.func28, Try.ntmps28
  go_wp2
  go_loopw [5, 8] (fun _ i wr => ∃ k : Nat, k ≤ l.length ∧ i = .int .i64 k ∧ Hid (noneS noW l k) ∧ Hid (Below w.heap.size w wr)) (fun _ i _ => l.length - (RowKit.intOf i).toNat)
  case atStart => exact ⟨0, Nat.zero_le _, rfl, fun i h => by omega, Below.refl _ _⟩
  case round =>
    obtain ⟨k, hk, rfl, HN, HB⟩ := hrel
    by_cases hlt : k < l.length
    · obtain ⟨A, rfl, hA, hcell⟩ := HR.out (by omega)
      have x0 : wr.cell? (A.add k) = some (.string (l.getD k ⟨#[]⟩)) := by
        have := hcell k 0 hlt (by omega)
        rw [Nat.mul_one, Nat.add_zero] at this
        rw [HB.out.cell (by rw [add_block]; exact hA)]; exact this
      have cW := fun w => notWord_any _ w (HZ.out _ (wd_mem hlt))
      have HX := Lib.hid (fun h => anyS_of (p := noW) (l := l) (k := k) hlt h)
      have HS := Lib.hid (fun h => HN.out.succ (k := k) h)
      clear hcell
      generalize l.getD k ⟨#[]⟩ = x at *
      generalize noW x = B at cW HX HS
      cases B
      · go_wp2_with (go_at_call 19; (with_reducible refine (cW _).mono ?_); rintro e w' ⟨rfl, rfl⟩)
        go_roundw
        case rel => exact ⟨k + 1, by omega, by go_num, HS.out (by simp), HB.out⟩
        case measure => simp [RowKit.intOf]; omega
      · go_wp2_with (go_at_call 19; (with_reducible refine (cW _).mono ?_); rintro e w' ⟨rfl, rfl⟩)
        have HA := Lib.hid (HX.out (by simp))
        go_ret
        exact ⟨⟨_, rfl, fun _ => by omega, fun h => absurd (h.symm.trans HA.out) (by simp)⟩, HB.out⟩
    · obtain rfl : k = l.length := by omega
      have HA := Lib.hid (noneS.all HN.out)
      go_wp2
      go_ret
      exact ⟨⟨_, rfl, fun h => absurd (HA.out.symm.trans h) (by simp), fun _ => by omega⟩, HB.out⟩
set_option maxHeartbeats 2000000 in
theorem contains_noWord (l : List ByteArray) (v : Value) (w : World) (hv : WdsAt w v l) :
    Calls Try.prog 18 #[v, .func (.func 19) #[] #[]] w fun e w' => e = .returned (.bool (l.any noW)) ∧ Below w.heap.size w w' := by
  have cI := index_noWord l v w hv
  obtain ⟨⟨q, cap, rfl, hl, hc, hrow⟩, hz⟩ := hv
  clear hrow hz
  generalize l.any noW = b at cI
  cases b
  · go_enter Try.func18, Try.ntmps18
    go_wp2_with (go_at_call 28; (with_reducible refine cI.mono ?_); rintro e w2 ⟨⟨z, rfl, h1, h2⟩, hb2⟩; have hz := h2 rfl; have HB2 := Lib.hid hb2; clear hb2 h1 h2)
    go_ret
    exact ⟨ret_bool (decide_eq_false (by omega)), HB2.out⟩
  · go_enter Try.func18, Try.ntmps18
    go_wp2_with (go_at_call 28; (with_reducible refine cI.mono ?_); rintro e w2 ⟨⟨z, rfl, h1, h2⟩, hb2⟩; have hz := h1 rfl; have HB2 := Lib.hid hb2; clear hb2 h1 h2)
    go_ret
    exact ⟨rfl, HB2.out⟩
def twoV (r : Int × Int) : Value := .tuple #[.int .i64 r.1, .int .u8 r.2]
def stepE (M : Mdl) (a b : ByteArray) : Int × Int := if checkM M ≠ 0 then (0, checkM M) else if (placeB a && placeB b) = true then (stepN M a b, 0) else (0, 1)
def scoreE (M : Mdl) (l : List ByteArray) : Int × Int := if checkM M ≠ 0 then (0, checkM M) else if 4096 < l.length then (0, 3) else if l.any noW = true then (0, 1) else (scoreN M l, 0)
theorem ret_two {r : Int × Int} {x y : Int} (h : r = (x, y)) : Ending.returned (.tuple #[.int .i64 x, .int .u8 y]) = .returned (twoV r) := by rw [h]; rfl
set_option maxHeartbeats 4000000 in
theorem Step_any (M : Mdl) (a b : ByteArray) (w : World) (hM : MdlAt w M) (ha : a.size ≤ maxLen) (hb : b.size ≤ maxLen) :
    Calls Try.prog 6 #[mdlV M, .string a, .string b] w fun e w' => e = .returned (twoV (stepE M a b)) ∧ Below w.heap.size w w' := by
  have HM := Lib.hid hM
  have HMX := Lib.hid (hM.step (below_box (w := w) (mdlC M)))
  have HX := Lib.hid (MB.new w M.unk M.uv M.bv)
  have cC := fun w h => check_any M w h
  have cO := fun w h h1 h2 => stepsOf_any M w h h1 h2
  have cT := fun b1 b2 w h => step_any M b1 b2 a b w h ha hb
  have cA := fun w => isPlace_any a w ha
  have cB := fun w => isPlace_any b w hb
  have HE := Lib.hid (show stepE M a b = if checkM M ≠ 0 then (0, checkM M) else if (placeB a && placeB b) = true then (stepN M a b, 0) else (0, 1) from rfl)
  have HZ := Lib.hid (fun h => check_zero (M := M) h)
  have agM := Try.isAgg25
  have zgM := Try.sizeOf25
  unfold mdlC at HMX
  unfold mdlV at *
  unfold stV at cT
  clear hM
  generalize stepN M a b = D at cT HE
  generalize placeB a = PA at cA HE
  generalize placeB b = PB at cB HE
  generalize checkM M = C at cC HE HZ
  by_cases hc : C = 0
  · subst hc
    obtain ⟨hz1, hz2, _⟩ := HZ.out rfl
    cases PA
    · go_enter Try.func6, Try.ntmps6
      go_wp2_with (first
        | (go_at_call 10; (refine (cC _ HMX.out).mono ?_); rintro e w1 ⟨rfl, hb1⟩; obtain ⟨m0, m1, m2, m3⟩ := HX.out.step hb1)
        | (go_at_call 13; (with_reducible refine (cA _).mono ?_); rintro e w2 ⟨rfl, rfl⟩)
        | (go_at_call 13; (with_reducible refine (cB _).mono ?_); rintro e w2 ⟨rfl, rfl⟩))
      go_ret2
      exact ⟨ret_two (by rw [HE.out]; rfl), below_next (below_box _) hb1⟩
    · cases PB
      · go_enter Try.func6, Try.ntmps6
        go_wp2_with (first
          | (go_at_call 10; (refine (cC _ HMX.out).mono ?_); rintro e w1 ⟨rfl, hb1⟩; obtain ⟨m0, m1, m2, m3⟩ := HX.out.step hb1)
          | (go_at_call 13; (with_reducible refine (cA _).mono ?_); rintro e w2 ⟨rfl, rfl⟩)
          | (go_at_call 13; (with_reducible refine (cB _).mono ?_); rintro e w2 ⟨rfl, rfl⟩))
        go_ret2
        exact ⟨ret_two (by rw [HE.out]; rfl), below_next (below_box _) hb1⟩
      · go_enter Try.func6, Try.ntmps6
        go_wp2_with (first
          | (go_at_call 10; (refine (cC _ HMX.out).mono ?_); rintro e w1 ⟨rfl, hb1⟩; obtain ⟨m0, m1, m2, m3⟩ := HX.out.step hb1; have HM1 := Lib.hid (HMX.out.step hb1); have HB1 := Lib.hid (below_next (below_box _) hb1))
          | (go_at_call 13; (with_reducible refine (cA _).mono ?_); rintro e w2 ⟨rfl, rfl⟩)
          | (go_at_call 13; (with_reducible refine (cB _).mono ?_); rintro e w2 ⟨rfl, rfl⟩)
          | (go_at_call 14; (refine (cO _ HM1.out hz1 hz2).mono ?_); rintro e w3 ⟨b1, b2, rfl, hs3, hb3⟩; have HS3 := Lib.hid hs3; have HB3 := Lib.hid (below_next HB1.out hb3); clear hs3 hb3)
          | (go_at_call 15; (refine (cT _ _ _ HS3.out).mono ?_); rintro e w4 ⟨rfl, hb4⟩; have HB4 := Lib.hid (below_next HB3.out hb4); clear hb4))
        go_ret2
        exact ⟨ret_two (by rw [HE.out]; rfl), HB4.out⟩
  · have hcb : (C == 0) = false := by simpa using hc
    have HC := Lib.hid hc
    go_enter Try.func6, Try.ntmps6
    go_wp2_with (go_at_call 10; (refine (cC _ HMX.out).mono ?_); rintro e w1 ⟨rfl, hb1⟩; obtain ⟨m0, m1, m2, m3⟩ := HX.out.step hb1)
    go_ret2
    exact ⟨ret_two (by rw [HE.out, if_pos HC.out]), below_next (below_box _) hb1⟩
set_option maxHeartbeats 4000000 in
theorem refStep2_any (M : Mdl) (a b : ByteArray) (w : World) (hM : MdlAt w M) (ha : a.size ≤ maxLen) (hb : b.size ≤ maxLen) :
    Calls Try.prog 7 #[mdlV M, .string a, .string b] w fun e w' => e = .returned (twoV (stepE M a b)) ∧ Below w.heap.size w w' := by
  have HM := Lib.hid hM
  have HMX := Lib.hid (hM.step (below_box (w := w) (mdlC M)))
  have HX := Lib.hid (MB.new w M.unk M.uv M.bv)
  have cC := fun w h => refCheck_any M w h
  have cT : checkM M = 0 → ∀ w, MdlAt w M → Calls Try.prog 17 #[mdlV M, .string a, .string b] w fun e w' => e = .returned (.int .i64 (stepN M a b)) ∧ Below w.heap.size w w' := fun h0 w h => step_same h0 a b ▸ refStep_any M a b w h
  have cA := fun w => refPlace_any a w ha
  have cB := fun w => refPlace_any b w hb
  have HE := Lib.hid (show stepE M a b = if checkM M ≠ 0 then (0, checkM M) else if (placeB a && placeB b) = true then (stepN M a b, 0) else (0, 1) from rfl)
  have agM := Try.isAgg25
  have zgM := Try.sizeOf25
  unfold mdlC at HMX
  unfold mdlV at *
  clear hM
  generalize stepN M a b = D at cT HE
  generalize placeB a = PA at cA HE
  generalize placeB b = PB at cB HE
  generalize checkM M = C at cC cT HE
  by_cases hc : C = 0
  · subst hc
    replace cT := cT rfl
    cases PA
    · go_enter Try.func7, Try.ntmps7
      go_wp2_with (first
        | (go_at_call 11; (refine (cC _ HMX.out).mono ?_); rintro e w1 ⟨rfl, hb1⟩; obtain ⟨m0, m1, m2, m3⟩ := HX.out.step hb1)
        | (go_at_call 16; (with_reducible refine (cA _).mono ?_); rintro e w2 ⟨rfl, rfl⟩)
        | (go_at_call 16; (with_reducible refine (cB _).mono ?_); rintro e w2 ⟨rfl, rfl⟩))
      go_ret2
      exact ⟨ret_two (by rw [HE.out]; rfl), below_next (below_box _) hb1⟩
    · cases PB
      · go_enter Try.func7, Try.ntmps7
        go_wp2_with (first
          | (go_at_call 11; (refine (cC _ HMX.out).mono ?_); rintro e w1 ⟨rfl, hb1⟩; obtain ⟨m0, m1, m2, m3⟩ := HX.out.step hb1)
          | (go_at_call 16; (with_reducible refine (cA _).mono ?_); rintro e w2 ⟨rfl, rfl⟩)
          | (go_at_call 16; (with_reducible refine (cB _).mono ?_); rintro e w2 ⟨rfl, rfl⟩))
        go_ret2
        exact ⟨ret_two (by rw [HE.out]; rfl), below_next (below_box _) hb1⟩
      · go_enter Try.func7, Try.ntmps7
        go_wp2_with (first
          | (go_at_call 11; (refine (cC _ HMX.out).mono ?_); rintro e w1 ⟨rfl, hb1⟩; obtain ⟨m0, m1, m2, m3⟩ := HX.out.step hb1; have HM1 := Lib.hid (HMX.out.step hb1); have HB1 := Lib.hid (below_next (below_box _) hb1))
          | (go_at_call 16; (with_reducible refine (cA _).mono ?_); rintro e w2 ⟨rfl, rfl⟩)
          | (go_at_call 16; (with_reducible refine (cB _).mono ?_); rintro e w2 ⟨rfl, rfl⟩)
          | (go_at_call 17; (refine (cT _ HM1.out).mono ?_); rintro e w4 ⟨rfl, hb4⟩; have HB4 := Lib.hid (below_next HB1.out hb4); clear hb4))
        go_ret2
        exact ⟨ret_two (by rw [HE.out]; rfl), HB4.out⟩
  · have hcb : (C == 0) = false := by simpa using hc
    have HC := Lib.hid hc
    go_enter Try.func7, Try.ntmps7
    go_wp2_with (go_at_call 11; (refine (cC _ HMX.out).mono ?_); rintro e w1 ⟨rfl, hb1⟩; obtain ⟨m0, m1, m2, m3⟩ := HX.out.step hb1)
    go_ret2
    exact ⟨ret_two (by rw [HE.out, if_pos HC.out]), below_next (below_box _) hb1⟩
end Go.Proofs.Ytgcglaagjplbfaa
