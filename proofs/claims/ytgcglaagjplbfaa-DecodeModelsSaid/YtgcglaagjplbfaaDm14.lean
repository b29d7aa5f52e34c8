/- The law DecodeModels, over any task and any words. -/
import Derived.Test.YtgcglaagjplbfaaDm13
namespace Go.Proofs.Ytgcglaagjplbfaa
open Go Go.RowKit Go.Lib
set_option maxRecDepth 100000
/-- the cells of a task that are looked at stand in a block -/
def TB (g : Nat) (M : Mdl) (a b : ByteArray) (wr : World) : Prop := (wr.cell? ⟨g, 0, none⟩ = some (.int .i64 M.unk) ∧ wr.cell? ⟨g, 1, none⟩ = some M.uv ∧ wr.cell? ⟨g, 2, none⟩ = some M.bv) ∧ wr.cell? ⟨g, 3, none⟩ = some (.string a) ∧ wr.cell? ⟨g, 4, none⟩ = some (.string b) ∧ g < wr.heap.size
theorem TB.step {g : Nat} {M : Mdl} {a b : ByteArray} {wr w' : World} (hb : Below wr.heap.size wr w') (h : TB g M a b wr) : TB g M a b w' := by
  obtain ⟨⟨h0, h1, h2⟩, h3, h4, h5⟩ := h
  exact ⟨⟨by rw [hb.cell (p := ⟨g, 0, none⟩) h5]; exact h0, by rw [hb.cell (p := ⟨g, 1, none⟩) h5]; exact h1, by rw [hb.cell (p := ⟨g, 2, none⟩) h5]; exact h2⟩, by rw [hb.cell (p := ⟨g, 3, none⟩) h5]; exact h3, by rw [hb.cell (p := ⟨g, 4, none⟩) h5]; exact h4, Nat.lt_of_lt_of_le h5 hb.size⟩
theorem TB.new (w : World) (M : Mdl) (a b : ByteArray) (c5 c6 c7 c8 c9 cA cB cC0 cD0 cE : Value) : TB w.heap.size M a b (w.alloc (.cells #[.int .i64 M.unk, M.uv, M.bv, .string a, .string b, c5, c6, c7, c8, c9, cA, cB, cC0, cD0, cE] 34)) := by
  refine ⟨⟨?_, ?_, ?_⟩, ?_, ?_, ?_⟩ <;> simp
set_option maxHeartbeats 8000000 in
theorem models_law (M : Mdl) (a b : ByteArray) (c5 c6 c7 c8 c9 cA cB cC0 cD0 cE v : Value) (l : List ByteArray) (w : World) (hM : MdlAt w M) (hv : WdsAt w v l) (ha : a.size ≤ maxLen) (hb : b.size ≤ maxLen) :
    Calls Try.prog 3 #[.agg #[.int .i64 M.unk, M.uv, M.bv, .string a, .string b, c5, c6, c7, c8, c9, cA, cB, cC0, cD0, cE], v] w fun e w' => e = .returned (.bool true) ∧ Below w.heap.size w w' := by
  have HM := Lib.hid (hM.step (below_box (w := w) (.cells #[.int .i64 M.unk, M.uv, M.bv, .string a, .string b, c5, c6, c7, c8, c9, cA, cB, cC0, cD0, cE] 34)))
  have HV := Lib.hid (hv.step (below_box (w := w) (.cells #[.int .i64 M.unk, M.uv, M.bv, .string a, .string b, c5, c6, c7, c8, c9, cA, cB, cC0, cD0, cE] 34)))
  have HT := Lib.hid (TB.new w M a b c5 c6 c7 c8 c9 cA cB cC0 cD0 cE)
  have HB := Lib.hid (below_box (w := w) (.cells #[.int .i64 M.unk, M.uv, M.bv, .string a, .string b, c5, c6, c7, c8, c9, cA, cB, cC0, cD0, cE] 34))
  have cH := fun w h => huge_any M w h
  have cL := fun w => lives_any w
  have c1 := fun w h => Step_any M a b w h ha hb
  have c2 := fun w h => refStep2_any M a b w h ha hb
  have c3 := fun w h h2 => Score_any M v l w h h2
  have c4 := fun w h h2 => refScore2_any M v l w h h2
  have cC := fun w h => check_any M w h
  have cD := fun w h => refCheck_any M w h
  have agT := Try.isAgg34
  have zgT := Try.sizeOf34
  have agM := Try.isAgg25
  have zgM := Try.sizeOf25
  unfold mdlV at *
  unfold twoV at *
  obtain ⟨⟨q, cap, rfl, hl, hcap, _⟩, _⟩ := hv
  unfold maxLen at hcap
  clear hM
  generalize stepE M a b = S1 at c1 c2
  generalize scoreE M l = S2 at c3 c4
  generalize checkM M = C at cC cD
  obtain ⟨s1, s2⟩ := S1
  obtain ⟨s3, s4⟩ := S2
  simp only at c1 c2 c3 c4
  by_cases h40 : 40 < l.length
  · have hI : (40 : Int) < (l.length : Int) := by omega
    go_enter Try.func3, Try.ntmps3
    obtain ⟨⟨k0, k1, k2⟩, k3, k4, hs0⟩ := HT.out
    go_wp2_with (first
      | (go_at_call 4; (refine (cH _ HM.out).mono ?_); rintro e w1 ⟨⟨B, rfl⟩, hb1⟩; cases B)
      | (go_at_call 5; (refine (cL _).mono ?_); rintro e w2 ⟨rfl, hb2⟩))
    all_goals
      go_ret
      exact ⟨rfl, below_next (below_next HB.out hb1) hb2⟩
  · have hI : ¬ (40 : Int) < (l.length : Int) := by omega
    go_enter Try.func3, Try.ntmps3
    obtain ⟨⟨k0, k1, k2⟩, k3, k4, hs0⟩ := HT.out
    go_wp2_with (first
      | (go_at_call 4; (refine (cH _ HM.out).mono ?_); rintro e w1 ⟨⟨B, rfl⟩, hb1⟩; have HM1 := Lib.hid (HM.out.step hb1); have HV1 := Lib.hid (HV.out.step hb1); have HT1 := Lib.hid (HT.out.step hb1); have HB1 := Lib.hid (below_next HB.out hb1); clear k0 k1 k2 k3 k4 hs0; obtain ⟨⟨k0, k1, k2⟩, k3, k4, hs0⟩ := HT1.out; clear hb1; cases B)
      | (go_at_call 5; (refine (cL _).mono ?_); rintro e w2 ⟨rfl, hb2⟩)
      | (go_at_call 6; (refine (c1 _ HM1.out).mono ?_); rintro e w2 ⟨rfl, hb2⟩; have HM2 := Lib.hid (HM1.out.step hb2); have HV2 := Lib.hid (HV1.out.step hb2); have HT2 := Lib.hid (HT1.out.step hb2); have HB2 := Lib.hid (below_next HB1.out hb2); clear k0 k1 k2 k3 k4 hs0; obtain ⟨⟨k0, k1, k2⟩, k3, k4, hs0⟩ := HT2.out; clear hb2)
      | (go_at_call 7; (refine (c2 _ HM2.out).mono ?_); rintro e w3 ⟨rfl, hb3⟩; have HM3 := Lib.hid (HM2.out.step hb3); have HV3 := Lib.hid (HV2.out.step hb3); have HT3 := Lib.hid (HT2.out.step hb3); have HB3 := Lib.hid (below_next HB2.out hb3); clear k0 k1 k2 k3 k4 hs0; obtain ⟨⟨k0, k1, k2⟩, k3, k4, hs0⟩ := HT3.out; clear hb3)
      | (go_at_call 8; (refine (c3 _ HM3.out HV3.out).mono ?_); rintro e w4 ⟨rfl, hb4⟩; have HM4 := Lib.hid (HM3.out.step hb4); have HV4 := Lib.hid (HV3.out.step hb4); have HT4 := Lib.hid (HT3.out.step hb4); have HB4 := Lib.hid (below_next HB3.out hb4); clear k0 k1 k2 k3 k4 hs0; obtain ⟨⟨k0, k1, k2⟩, k3, k4, hs0⟩ := HT4.out; clear hb4)
      | (go_at_call 9; (refine (c4 _ HM4.out HV4.out).mono ?_); rintro e w5 ⟨rfl, hb5⟩; have HM5 := Lib.hid (HM4.out.step hb5); have HT5 := Lib.hid (HT4.out.step hb5); have HB5 := Lib.hid (below_next HB4.out hb5); clear k0 k1 k2 k3 k4 hs0; obtain ⟨⟨k0, k1, k2⟩, k3, k4, hs0⟩ := HT5.out; clear hb5))
    · go_region_held3 (fun w' => w'.cell? ⟨w.heap.size, 0, none⟩ = some (.int .i64 M.unk) ∧ w'.cell? ⟨w.heap.size, 1, none⟩ = some M.uv ∧ w'.cell? ⟨w.heap.size, 2, none⟩ = some M.bv)
        (first
          | go_keep
          | (refine ⟨?_, ?_, ?_⟩ <;> first
               | (rw [hb8.cell (by show w.heap.size < _; exact Nat.lt_of_lt_of_le (Nat.lt_of_lt_of_le hs0 hb6.size) hb7.size), hb7.cell (by show w.heap.size < _; exact Nat.lt_of_lt_of_le hs0 hb6.size), hb6.cell (by show w.heap.size < _; exact hs0)]; assumption)
               | (rw [hb7.cell (by show w.heap.size < _; exact Nat.lt_of_lt_of_le hs0 hb6.size), hb6.cell (by show w.heap.size < _; exact hs0)]; assumption)
               | (rw [hb6.cell (by show w.heap.size < _; exact hs0)]; assumption)))
        (first
          | ((go_simp; go_at_call 10; (refine (cC _ (HM5.out.step (bdN w5 1))).mono ?_); rintro e w6 ⟨rfl, hb6⟩))
          | ((go_simp; go_at_call 11; (refine (cD _ ((HM5.out.step (bdN w5 1)).step hb6)).mono ?_); rintro e w7 ⟨rfl, hb7⟩))
          | ((go_simp; go_at_call 5; (refine (cL _).mono ?_); rintro e w8 ⟨rfl, hb8⟩)))
      rename_i hHeld
      have HB8 := Lib.hid (below_next (below_next (below_next (below_next HB5.out (bdN w5 1)) hb6) hb7) hb8)
      go_wp2
      go_ret
      exact ⟨rfl, HB8.out⟩
    · go_ret
      exact ⟨rfl, below_next HB1.out hb2⟩
end Go.Proofs.Ytgcglaagjplbfaa
