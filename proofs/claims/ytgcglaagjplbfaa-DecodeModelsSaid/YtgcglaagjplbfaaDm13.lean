/- Models: the layer's example, and its closed run. -/
import Derived.Test.YtgcglaagjplbfaaDm12
namespace Go.Proofs.Ytgcglaagjplbfaa
open Go Go.RowKit Go.Lib
set_option maxRecDepth 100000
def der : ByteArray := ⟨#[100, 101, 114]⟩
def hund : ByteArray := ⟨#[104, 117, 110, 100]⟩
def M0 (g1 g2 : Nat) : Mdl := ⟨4, [⟨⟨#[]⟩, 1, 2⟩, ⟨der, 1, 1⟩], [⟨der, hund, 0⟩], .slice (some ⟨g1, 0, none⟩) 2 2, .slice (some ⟨g2, 0, none⟩) 1 1⟩
def ExEnd (e : Ending) (w w' : World) : Prop := ∃ g1 g2, e = .returned (mdlV (M0 g1 g2)) ∧ MdlAt w' (M0 g1 g2) ∧ Below w.heap.size w w'
set_option maxHeartbeats 4000000 in
theorem example_any (w : World) : Calls Try.prog 12 #[] w fun e w' => ExEnd e w w' := by
  have agM := Try.isAgg25
  have zgM := Try.sizeOf25
  have agU := Try.isAgg45
  have zgU := Try.sizeOf45
  have agB := Try.isAgg47
  have zgB := Try.sizeOf47
  go_enter Try.func12, Try.ntmps12
  go_wp2
  have e1 : (w.alloc (.cells #[.int .i64 4, .slice (some ⟨w.heap.size + 1, 0, none⟩) 2 2, .slice (some ⟨w.heap.size + 1 + 1, 0, none⟩) 1 1] 25)).heap.size = w.heap.size + 1 := by simp
  have e2 : ((w.alloc (.cells #[.int .i64 4, .slice (some ⟨w.heap.size + 1, 0, none⟩) 2 2, .slice (some ⟨w.heap.size + 1 + 1, 0, none⟩) 1 1] 25)).alloc (.cells #[.string ⟨#[]⟩, .int .i64 1, .int .i64 2, .string ⟨#[100, 101, 114]⟩, .int .i64 1, .int .i64 1] 45)).heap.size = w.heap.size + 1 + 1 := by simp
  have e3 : (((w.alloc (.cells #[.int .i64 4, .slice (some ⟨w.heap.size + 1, 0, none⟩) 2 2, .slice (some ⟨w.heap.size + 1 + 1, 0, none⟩) 1 1] 25)).alloc (.cells #[.string ⟨#[]⟩, .int .i64 1, .int .i64 2, .string ⟨#[100, 101, 114]⟩, .int .i64 1, .int .i64 1] 45)).alloc (.cells #[.string ⟨#[100, 101, 114]⟩, .string ⟨#[104, 117, 110, 100]⟩, .int .i64 0] 47)).heap.size = w.heap.size + 3 := by simp
  have hr : ∀ j v, [Value.int .i64 4, .slice (some ⟨w.heap.size + 1, 0, none⟩) 2 2, .slice (some ⟨w.heap.size + 1 + 1, 0, none⟩) 1 1][j]? = some v → (((w.alloc (.cells #[.int .i64 4, .slice (some ⟨w.heap.size + 1, 0, none⟩) 2 2, .slice (some ⟨w.heap.size + 1 + 1, 0, none⟩) 1 1] 25)).alloc (.cells #[.string ⟨#[]⟩, .int .i64 1, .int .i64 2, .string ⟨#[100, 101, 114]⟩, .int .i64 1, .int .i64 1] 45)).alloc (.cells #[.string ⟨#[100, 101, 114]⟩, .string ⟨#[104, 117, 110, 100]⟩, .int .i64 0] 47)).cell? ((⟨w.heap.size, 0, none⟩ : Addr).add j) = some v := by
    refine three_cells ?_ ?_ ?_ <;> (rw [al _ _ _ (by simp <;> omega), al _ _ _ (by simp <;> omega), new_cell]; rfl)
  have hu : ∀ j, j < 6 → (((w.alloc (.cells #[.int .i64 4, .slice (some ⟨w.heap.size + 1, 0, none⟩) 2 2, .slice (some ⟨w.heap.size + 1 + 1, 0, none⟩) 1 1] 25)).alloc (.cells #[.string ⟨#[]⟩, .int .i64 1, .int .i64 2, .string ⟨#[100, 101, 114]⟩, .int .i64 1, .int .i64 1] 45)).alloc (.cells #[.string ⟨#[100, 101, 114]⟩, .string ⟨#[104, 117, 110, 100]⟩, .int .i64 0] 47)).cell? ((⟨w.heap.size + 1, 0, none⟩ : Addr).add j) = (#[.string ⟨#[]⟩, .int .i64 1, .int .i64 2, .string ⟨#[100, 101, 114]⟩, .int .i64 1, .int .i64 1] : Array Value)[j]? := by
    intro j hj
    have := new_cell (w.alloc (.cells #[.int .i64 4, .slice (some ⟨w.heap.size + 1, 0, none⟩) 2 2, .slice (some ⟨w.heap.size + 1 + 1, 0, none⟩) 1 1] 25)) #[.string ⟨#[]⟩, .int .i64 1, .int .i64 2, .string ⟨#[100, 101, 114]⟩, .int .i64 1, .int .i64 1] 45 j
    rw [e1] at this
    rw [al _ _ _ (by rw [add_block]; simp <;> omega), ← this]
    unfold Addr.add
    split
    · rename_i h0; subst h0; rfl
    · simp
  have hb : ∀ j, j < 3 → (((w.alloc (.cells #[.int .i64 4, .slice (some ⟨w.heap.size + 1, 0, none⟩) 2 2, .slice (some ⟨w.heap.size + 1 + 1, 0, none⟩) 1 1] 25)).alloc (.cells #[.string ⟨#[]⟩, .int .i64 1, .int .i64 2, .string ⟨#[100, 101, 114]⟩, .int .i64 1, .int .i64 1] 45)).alloc (.cells #[.string ⟨#[100, 101, 114]⟩, .string ⟨#[104, 117, 110, 100]⟩, .int .i64 0] 47)).cell? ((⟨w.heap.size + 1 + 1, 0, none⟩ : Addr).add j) = (#[.string ⟨#[100, 101, 114]⟩, .string ⟨#[104, 117, 110, 100]⟩, .int .i64 0] : Array Value)[j]? := by
    intro j hj
    have := new_cell ((w.alloc (.cells #[.int .i64 4, .slice (some ⟨w.heap.size + 1, 0, none⟩) 2 2, .slice (some ⟨w.heap.size + 1 + 1, 0, none⟩) 1 1] 25)).alloc (.cells #[.string ⟨#[]⟩, .int .i64 1, .int .i64 2, .string ⟨#[100, 101, 114]⟩, .int .i64 1, .int .i64 1] 45)) #[.string ⟨#[100, 101, 114]⟩, .string ⟨#[104, 117, 110, 100]⟩, .int .i64 0] 47 j
    rw [e2] at this
    rw [← this]
    unfold Addr.add
    split
    · rename_i h0; subst h0; rfl
    · simp
  refine bodyPost_ret (results_c (xs := [.int .i64 4, .slice (some ⟨w.heap.size + 1, 0, none⟩) 2 2, .slice (some ⟨w.heap.size + 1 + 1, 0, none⟩) 1 1]) rfl rfl agM zgM hr) rfl ?_
  refine ⟨w.heap.size + 1, w.heap.size + 1 + 1, rfl, ⟨⟨_, 2, rfl, Nat.le_refl _, by decide, fun _ => ⟨_, rfl, by rw [e3]; show w.heap.size + 1 < _; omega, fun i j hi hj => ?_⟩⟩, ⟨_, 1, rfl, Nat.le_refl _, by decide, fun _ => ⟨_, rfl, by rw [e3]; show w.heap.size + 1 + 1 < _; omega, fun i j hi hj => ?_⟩⟩, fun x hx => ?_, fun x hx => ?_⟩, below_next (below_next (below_box _) (below_box _)) (below_box _)⟩
  · rw [hu _ (by simp [M0] at hi; omega)]
    rcases (show i = 0 ∨ i = 1 by simp [M0] at hi; omega) with rfl | rfl <;> rcases (show j = 0 ∨ j = 1 ∨ j = 2 by omega) with rfl | rfl | rfl <;> rfl
  · rw [hb _ (by simp [M0] at hi; omega)]
    rcases (show i = 0 by simp [M0] at hi; omega) with rfl
    rcases (show j = 0 ∨ j = 1 ∨ j = 2 by omega) with rfl | rfl | rfl <;> rfl
  · simp only [M0, List.mem_cons, List.not_mem_nil, or_false] at hx
    rcases hx with rfl | rfl <;> decide
  · simp only [M0, List.mem_cons, List.not_mem_nil, or_false] at hx
    subst hx
    exact ⟨by decide, by decide⟩
theorem example_score (g1 g2 : Nat) : scoreE (M0 g1 g2) [der, hund, der, ⟨#[104, 117, 110, 100, 101]⟩, ⟨#[115, 101, 104, 101, 110]⟩] = (14, 0) := by
  unfold scoreE checkM
  kernel_rfl
def exW : List ByteArray := [der, hund, der, ⟨#[104, 117, 110, 100, 101]⟩, ⟨#[115, 101, 104, 101, 110]⟩]
theorem exW_new (w : World) : WdsAt (w.alloc (.cells #[.string ⟨#[100, 101, 114]⟩, .string ⟨#[104, 117, 110, 100]⟩, .string ⟨#[100, 101, 114]⟩, .string ⟨#[104, 117, 110, 100, 101]⟩, .string ⟨#[115, 101, 104, 101, 110]⟩] 9)) (.slice (some ⟨w.heap.size, 0, none⟩) 5 5) exW := by
  refine ⟨⟨_, 5, rfl, Nat.le_refl _, by decide, fun _ => ⟨_, rfl, by show w.heap.size < _; simp, fun i j hi hj => ?_⟩⟩, fun x hx => ?_⟩
  · obtain rfl : j = 0 := by omega
    have := new_cell w #[.string ⟨#[100, 101, 114]⟩, .string ⟨#[104, 117, 110, 100]⟩, .string ⟨#[100, 101, 114]⟩, .string ⟨#[104, 117, 110, 100, 101]⟩, .string ⟨#[115, 101, 104, 101, 110]⟩] 9 i
    have hi5 : i < 5 := hi
    have ha : (⟨w.heap.size, 0, none⟩ : Addr).add (i * 1 + 0) = ⟨w.heap.size, i, none⟩ := by
      unfold Addr.add
      split
      · rename_i h0
        obtain rfl : i = 0 := by omega
        rfl
      · simp
    rw [ha, this]
    rcases (show i = 0 ∨ i = 1 ∨ i = 2 ∨ i = 3 ∨ i = 4 by omega) with rfl | rfl | rfl | rfl | rfl <;> rfl
  · simp only [exW, List.mem_cons, List.not_mem_nil, or_false] at hx
    rcases hx with rfl | rfl | rfl | rfl | rfl <;> decide
set_option maxHeartbeats 4000000 in
theorem lives_any (w : World) : Calls Try.prog 5 #[] w fun e w' => e = .returned (.bool true) ∧ Below w.heap.size w w' := by
  have cE := fun w => example_any w
  have cS : ∀ g1 g2 v w, MdlAt w (M0 g1 g2) → WdsAt w v exW → Calls Try.prog 8 #[mdlV (M0 g1 g2), v] w fun e w' => e = .returned (.tuple #[.int .i64 14, .int .u8 0]) ∧ Below w.heap.size w w' := fun g1 g2 v w h h2 => by
    have := Score_any (M0 g1 g2) v exW w h h2
    rw [show scoreE (M0 g1 g2) exW = (14, 0) from example_score g1 g2] at this
    exact this
  go_enter Try.func5, Try.ntmps5
  go_wp2_with (first
    | (go_at_call 12; (refine (cE _).mono ?_); rintro e w1 ⟨g1, g2, rfl, hm1, hb1⟩; have HM1 := Lib.hid hm1; have HB1 := Lib.hid hb1; clear hm1 hb1)
    | (go_at_call 8; (refine (cS _ _ _ _ (HM1.out.step (below_box _)) (exW_new _)).mono ?_); rintro e w2 ⟨rfl, hb2⟩))
  go_ret
  exact ⟨rfl, below_next (below_next HB1.out (below_box _)) hb2⟩
end Go.Proofs.Ytgcglaagjplbfaa
