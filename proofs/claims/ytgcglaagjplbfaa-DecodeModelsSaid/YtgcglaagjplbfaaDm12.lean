/- Models: which are too large to be asked. -/
import Derived.Test.YtgcglaagjplbfaaDm11
namespace Go.Proofs.Ytgcglaagjplbfaa
open Go Go.RowKit Go.Lib
set_option maxRecDepth 100000
def BoolEnd (e : Ending) : Prop := ∃ b : Bool, e = .returned (.bool b)
set_option maxHeartbeats 8000000 in
theorem huge_any (M : Mdl) (w : World) (hM : MdlAt w M) : Calls Try.prog 4 #[mdlV M] w fun e w' => BoolEnd e ∧ Below w.heap.size w w' := by
  obtain ⟨unk, us, bs, uv, bv⟩ := M
  obtain ⟨⟨pu, cu, hu, hul, huc, hur⟩, ⟨pb, cb, hb, hbl, hbc, hbr⟩, huz, hbz⟩ := hM
  simp only at hu hul hur hb hbl hbr huz hbz
  subst hu hb
  unfold mdlV maxLen at *
  simp only
  have agM := Try.isAgg25
  have zgM := Try.sizeOf25
  have agU := Try.isAgg45
  have zgU := Try.sizeOf45
  have agB := Try.isAgg47
  have zgB := Try.sizeOf47
  have HUR := Lib.hid hur
  have HBR := Lib.hid hbr
  clear hur hbr huz hbz
  rcases (show (60 < us.length ∧ us.length ≤ 512) ∨ (us.length ≤ 60 ∧ 120 < bs.length) ∨ 600 < us.length ∨ ((512 < us.length ∧ us.length ≤ 600) ∧ 120 < bs.length) ∨ (us.length ≤ 60 ∧ bs.length ≤ 120) ∨ ((512 < us.length ∧ us.length ≤ 600) ∧ bs.length ≤ 120) by omega) with ⟨h1, h2⟩ | ⟨h1, h2⟩ | h1 | ⟨⟨h1, h2⟩, h3⟩ | ⟨h1, h2⟩ | ⟨⟨h1, h2⟩, h3⟩
  · have i1 : (60 : Int) < (us.length : Int) := by omega
    have i2 : (us.length : Int) ≤ 512 := by omega
    go_enter Try.func4, Try.ntmps4
    go_wp2
    go_ret
    exact ⟨⟨_, rfl⟩, below_box _⟩
  · have i1 : ¬ (60 : Int) < (us.length : Int) := by omega
    have i2 : ¬ (600 : Int) < (us.length : Int) := by omega
    have i3 : (120 : Int) < (bs.length : Int) := by omega
    go_enter Try.func4, Try.ntmps4
    go_wp2
    go_ret
    exact ⟨⟨_, rfl⟩, below_box _⟩
  · have i1 : (60 : Int) < (us.length : Int) := by omega
    have i2 : ¬ (us.length : Int) ≤ 512 := by omega
    have i3 : (600 : Int) < (us.length : Int) := by omega
    go_enter Try.func4, Try.ntmps4
    go_wp2
    go_ret
    exact ⟨⟨_, rfl⟩, below_box _⟩
  · have i1 : (60 : Int) < (us.length : Int) := by omega
    have i2 : ¬ (us.length : Int) ≤ 512 := by omega
    have i3 : ¬ (600 : Int) < (us.length : Int) := by omega
    have i4 : (120 : Int) < (bs.length : Int) := by omega
    go_enter Try.func4, Try.ntmps4
    go_wp2
    go_ret
    exact ⟨⟨_, rfl⟩, below_box _⟩
  all_goals
    have i3 : ¬ (600 : Int) < (us.length : Int) := by omega
    have i4 : ¬ (120 : Int) < (bs.length : Int) := by omega
    first
      | (have i1 : ¬ (60 : Int) < (us.length : Int) := by omega)
      | (have i1 : (60 : Int) < (us.length : Int) := by omega
         have i2 : ¬ (us.length : Int) ≤ 512 := by omega)
    go_enter Try.func4, Try.ntmps4
    go_wp2
    go_loopw [3, 4] (fun x i wr => ∃ (k : Nat) (z : Int), k ≤ us.length ∧ i = .int .i64 k ∧ x = .int .i64 z ∧ Hid (MB w.heap.size unk (.slice pu us.length cu) (.slice pb bs.length cb) wr) ∧ Hid (Below w.heap.size w wr)) (fun _ i _ => us.length - (RowKit.intOf i).toNat)
    case atStart => exact ⟨0, 0, Nat.zero_le _, rfl, rfl, MB.new _ _ _ _, below_box _⟩
    case round =>
      obtain ⟨k, z, hk, rfl, rfl, HX, HB⟩ := hrel
      obtain ⟨m0, m1, m2, hsz⟩ := HX.out
      by_cases hlt : k < us.length
      · obtain ⟨A, rfl, hA, hcell⟩ := HUR.out (by omega)
        have hAb : (A.add (k * 3)).block < w.heap.size := by rw [add_block]; exact hA
        have x0 : wr.cell? (A.add (k * 3)) = some (.string (us.getD k unNil).w) := by
          rw [HB.out.cell hAb]; have := hcell k 0 hlt (by omega); simpa [unF] using this
        clear hcell
        generalize (us.getD k unNil).w = xw at x0
        go_wp2
        go_roundw
        case rel => exact ⟨k + 1, _, by omega, by go_num, rfl, HX.out, HB.out⟩
        case measure => simp [RowKit.intOf]; omega
      · obtain rfl : k = us.length := by omega
        go_wp2
        go_loopw [3, 5] (fun x i wr => ∃ (k : Nat) (z : Int), k ≤ bs.length ∧ i = .int .i64 k ∧ x = .int .i64 z ∧ Hid (MB w.heap.size unk (.slice pu us.length cu) (.slice pb bs.length cb) wr) ∧ Hid (Below w.heap.size w wr)) (fun _ i _ => bs.length - (RowKit.intOf i).toNat)
        case atStart => exact ⟨0, z, Nat.zero_le _, rfl, rfl, HX.out, HB.out⟩
        case round =>
          clear m0 m1 m2 hsz HX HB
          obtain ⟨k, z, hk, rfl, rfl, HX, HB⟩ := hrel
          obtain ⟨m0, m1, m2, hsz⟩ := HX.out
          by_cases hlt : k < bs.length
          · obtain ⟨A, rfl, hA, hcell⟩ := HBR.out (by omega)
            have hAb : (A.add (k * 3)).block < w.heap.size := by rw [add_block]; exact hA
            have x0 : wr.cell? (A.add (k * 3)) = some (.string (bs.getD k brNil).x) := by
              rw [HB.out.cell hAb]; have := hcell k 0 hlt (by omega); simpa [brF] using this
            have x1 : wr.cell? { block := (A.add (k * 3)).block, off := (A.add (k * 3)).off + 1 } = some (.string (bs.getD k brNil).y) := by
              rw [HB.out.cell (p := { block := (A.add (k * 3)).block, off := (A.add (k * 3)).off + 1 }) hAb]; have := cell_off (by omega) (hcell k 1 hlt (by omega)); simpa [brF] using this
            clear hcell
            generalize bs.getD k brNil = x at x0 x1
            go_wp2
            go_quiet (fail)
            go_wp2
            go_roundw
            case rel => exact ⟨k + 1, _, by omega, by go_num, rfl, HX.out.step (bdN _ _), below_next HB.out (bdN _ _)⟩
            case measure => simp [RowKit.intOf]; omega
          · obtain rfl : k = bs.length := by omega
            go_wp2
            go_ret
            exact ⟨⟨_, rfl⟩, HB.out⟩
end Go.Proofs.Ytgcglaagjplbfaa
