/- What a piece has wrong by itself and by those ahead of it, as the specification tells it. -/
import Derived.Test.YtcgghmpafphcpaaGreatDoorDp9
namespace Go.Proofs.YtcgghmpafphcpaaGreatDoor
open Go Go.RowKit
set_option maxRecDepth 100000
def aloneX (x a : Pc) (i : Nat) : Int :=
  if x.k < 1 ∨ 5 < x.k then 1
  else if x.c = true ∧ x.k ≠ 2 ∧ x.k ≠ 3 then 1
  else if x.k = 1 ∧ (x.s.size = 0 ∨ textB x.s = false ∨ (0 < i ∧ a.k = 1)) then 4
  else if x.k ≠ 1 ∧ nameB x.s = false then 5 else 0
theorem aloneE_eq (l : List Pc) (i : Nat) : aloneE l i = aloneX (l.getD i nil) (l.getD (i - 1) nil) i := rfl
set_option maxHeartbeats 8000000 in
theorem alone_any (l : List Pc) (A : Addr) (cap i : Nat) (w : World) (hv : PcsAt w (.slice (some A) l.length cap) l) (hi : i < l.length) (hb : bulk l ≤ 100000) :
    Calls Tryz.prog 30 #[.slice (some A) l.length cap, .int .i64 (i : Int)] w fun e w' => e = .returned (.int .u8 (aloneE l i)) ∧ Below w.heap.size w w' := by
  obtain ⟨p, cap', e, hl, hc, hrow⟩ := hv
  cases e
  unfold maxLen at hc
  obtain ⟨_, eA, hA, hcell⟩ := hrow (by omega)
  cases eA
  have ag := Tryz.isAgg39
  have zg := Tryz.sizeOf39
  obtain ⟨x0, x1, x2⟩ := pcs_cells hA hcell hi (Below.refl _ w)
  have hsz := bulk_getD hi
  have hlb : l.length ≤ bulk l := by unfold bulk; omega
  have HE := Lib.hid (aloneE_eq l i)
  have HY := Lib.hid (fun (h : 0 < i) (wr : World) (hb : Below w.heap.size w wr) => (pcs_cells hA hcell (k := i - 1) (by omega) hb).1)
  clear hcell hrow
  generalize l.getD i nil = x at x0 x1 x2 hsz HE
  generalize l.getD (i - 1) nil = a at HE HY
  rw [HE.out]
  clear HE
  have HP := Lib.hid (show aloneX x a i = if x.k < 1 ∨ 5 < x.k then 1
    else if x.c = true ∧ x.k ≠ 2 ∧ x.k ≠ 3 then 1
    else if x.k = 1 ∧ (x.s.size = 0 ∨ textB x.s = false ∨ (0 < i ∧ a.k = 1)) then 4
    else if x.k ≠ 1 ∧ nameB x.s = false then 5 else 0 from rfl)
  have HX := Lib.hid (Boxed.new w x)
  have HB := Lib.hid (below_box (w := w) (pcC x))
  have cT := fun wr => refText_any x.s wr (by omega)
  have cN := fun wr => refName_any x.s wr (by unfold maxLen; omega)
  obtain ⟨k, s, c⟩ := x
  unfold pcC at HX HB
  simp only at cT cN HP HX HB hsz x0 x1 x2 ⊢
  generalize aloneX ⟨k, s, c⟩ a i = E at HP ⊢
  generalize textB s = T at cT HP
  generalize nameB s = N at cN HP
  by_cases h1 : k < 1
  · go_enter Tryz.func30, Tryz.ntmps30
    go_wp2
    go_ret
    exact ⟨ret_u8 (by rw [HP.out]; simp [h1]), HB.out⟩
  · by_cases h5 : 5 < k
    · go_enter Tryz.func30, Tryz.ntmps30
      go_wp2
      go_ret
      exact ⟨ret_u8 (by rw [HP.out]; simp [h5]), HB.out⟩
    · have hk : k = 1 ∨ k = 2 ∨ k = 3 ∨ k = 4 ∨ k = 5 := by omega
      clear h1 h5
      rcases hk with rfl | rfl | rfl | rfl | rfl
      · cases c
        · by_cases h0 : 1 ≤ s.size
          · have hE := nonempty h0
            have h00 : ¬ s.size = 0 := by omega
            have HX2 := Lib.hid (fun wr hb => HX.out.step (w' := wr) hb)
            have HB2 := Lib.hid (fun wr hb => below_next (w' := wr) HB.out hb)
            cases T
            · go_enter Tryz.func30, Tryz.ntmps30
              go_wp2_with (go_at_call 37; (with_reducible refine (cT _).mono ?_); rintro e w2 ⟨rfl, hb2⟩; obtain ⟨b0, b1, b2, b3⟩ := HX2.out _ hb2; have HB3 := Lib.hid (HB2.out _ hb2); clear hb2)
              go_ret
              exact ⟨ret_u8 (by rw [HP.out]; simp), HB3.out⟩
            · by_cases h0i : 0 < i
              · have hdi : decide (0 < i) = true := by simp; omega
                have hwr : IntKind.i64.wrap ((i : Int) - 1) = ((i - 1 : Nat) : Int) := by rw [IntKind.wrap_i64]; omega
                have hix1 : ((i - 1 : Nat) : Int) < (l.length : Int) := by omega
                have hix3 : i - 1 < l.length := by omega
                have HY1 := Lib.hid (HY.out h0i)
                have HI := Lib.hid h0i
                clear h0i
                obtain ⟨ka, sa, ca⟩ := a
                simp only at HY1 HP
                by_cases hka : ka = 1
                · subst hka
                  go_enter Tryz.func30, Tryz.ntmps30
                  go_wp2_with (go_at_call 37; (with_reducible refine (cT _).mono ?_); rintro e w2 ⟨rfl, hb2⟩; obtain ⟨b0, b1, b2, b3⟩ := HX2.out _ hb2; have HB3 := Lib.hid (HB2.out _ hb2); have y0 := HY1.out _ HB3.out; clear hb2)
                  go_ret
                  exact ⟨ret_u8 (by rw [HP.out]; simp [HI.out]), HB3.out⟩
                · go_enter Tryz.func30, Tryz.ntmps30
                  go_wp2_with (go_at_call 37; (with_reducible refine (cT _).mono ?_); rintro e w2 ⟨rfl, hb2⟩; obtain ⟨b0, b1, b2, b3⟩ := HX2.out _ hb2; have HB3 := Lib.hid (HB2.out _ hb2); have y0 := HY1.out _ HB3.out; clear hb2)
                  go_ret
                  exact ⟨ret_u8 (by rw [HP.out]; simp [hka, h00]), HB3.out⟩
              · have hdi : decide (0 < i) = false := by simp; omega
                have HI := Lib.hid h0i
                clear h0i
                go_enter Tryz.func30, Tryz.ntmps30
                go_wp2_with (go_at_call 37; (with_reducible refine (cT _).mono ?_); rintro e w2 ⟨rfl, hb2⟩; obtain ⟨b0, b1, b2, b3⟩ := HX2.out _ hb2; have HB3 := Lib.hid (HB2.out _ hb2); clear hb2)
                go_ret
                exact ⟨ret_u8 (by rw [HP.out]; simp [HI.out, h00]), HB3.out⟩
          · have hE := isempty h0
            have h00 : s.size = 0 := by omega
            have HZ := Lib.hid h00
            clear h0 h00
            go_enter Tryz.func30, Tryz.ntmps30
            go_wp2
            go_ret
            exact ⟨ret_u8 (by rw [HP.out]; simp [HZ.out]), HB.out⟩
        · go_enter Tryz.func30, Tryz.ntmps30
          go_wp2
          go_ret
          exact ⟨ret_u8 (by rw [HP.out]; simp), HB.out⟩
      all_goals
        cases c <;> cases N
        all_goals
          go_enter Tryz.func30, Tryz.ntmps30
          go_wp2_with (go_at_call 65; (with_reducible refine (cN _).mono ?_); rintro e w2 ⟨rfl, hw⟩; obtain rfl := hw.symm)
          go_ret
          exact ⟨ret_u8 (by rw [HP.out]; simp), HB.out⟩
end Go.Proofs.YtcgghmpafphcpaaGreatDoor
