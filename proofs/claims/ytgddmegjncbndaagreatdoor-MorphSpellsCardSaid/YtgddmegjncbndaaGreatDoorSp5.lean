/- What a rule makes of a string, as the specification tells it, is what the program makes of it, if the lexicon is valid. -/
import Derived.Test.YtgddmegjncbndaaGreatDoorSp4
namespace Go.Proofs.YtgddmegjncbndaaGreatDoor
open Go Go.RowKit
theorem vowel_letter {v : ByteArray} {c : Int} (hv : allB isL v = true) (h : inTo v c v.size = true) : isL c = true := by
  unfold inTo at h
  rw [List.take_of_length_le (by simp), List.any_eq_true] at h
  obtain ⟨b, hb, hc⟩ := h
  unfold allB at hv
  rw [List.all_eq_true] at hv
  rw [of_decide_eq_true hc]
  exact hv b hb
theorem refMat_eq {v : ByteArray} {pat : Int} {s : ByteArray} {a : Int} (hv : allB isL v = true) (hp : isS pat = true) : refMat v pat s a = matB v pat (symAt s a) := by
  by_cases hin : 0 ≤ a ∧ a < (s.size : Int)
  · obtain ⟨k, rfl⟩ := Int.eq_ofNat_of_zero_le hin.1
    have hk : k < s.size := by omega
    rw [refMat_in hk, symAt_in hk]
    unfold matB
    by_cases c1 : pat = 86
    · rw [if_pos c1, if_neg (by omega), if_pos c1]
      cases hi : inTo v (s[k].toNat : Int) v.size
      · rfl
      · rw [vowel_letter hv hi]; rfl
    · by_cases c2 : pat = 67
      · rw [if_neg c1, if_pos c2, if_pos c2, Bool.and_comm]
      · rw [if_neg c1, if_neg c2, if_neg c2, if_neg c1]
  · rw [refMat_out (by omega)]
    have l35 : isL 35 = false := by decide
    have l0 : isL 0 = false := by decide
    by_cases he : a = -1 ∨ a = (s.size : Int)
    · rw [symAt_end he]
      have : (decide (a = -1) || decide (a = (s.size : Int))) = true := by rcases he with h | h <;> simp [h]
      rw [this]
      unfold matB
      rw [l35]
      by_cases c1 : pat = 67
      · rw [if_pos c1, c1]; simp
      · by_cases c2 : pat = 86
        · rw [if_neg c1, if_pos c2, c2]; simp
        · rw [if_neg c1, if_neg c2]; simp
    · rw [symAt_out he (by omega)]
      have : (decide (a = -1) || decide (a = (s.size : Int))) = false := by
        rw [decide_eq_false (fun h => he (.inl h)), decide_eq_false (fun h => he (.inr h))]; rfl
      rw [this]
      unfold matB
      rw [l0]
      by_cases c1 : pat = 67
      · rw [if_pos c1]; simp
      · by_cases c2 : pat = 86
        · rw [if_neg c1, if_pos c2]; simp
        · rw [if_neg c1, if_neg c2, decide_eq_false (p := pat = 0) (fun h => by rw [h] at hp; revert hp; decide)]; simp
theorem allQ_congr {n : Nat} {p q : Nat → Bool} (h : ∀ i, i < n → p i = q i) : allQ n p = allQ n q := by
  unfold allQ
  rw [Bool.eq_iff_iff, List.all_eq_true, List.all_eq_true]
  constructor
  · intro g x hx; rw [← h x (List.mem_range.1 hx)]; exact g x hx
  · intro g x hx; rw [h x (List.mem_range.1 hx)]; exact g x hx
theorem refApp_eq {v : ByteArray} {r : Spe} {s : ByteArray} {a : Nat} (hv : allB isL v = true) (hl : allB isS r.left = true) (hr : allB isS r.right = true) : refApp v r s a = appB v r s a := by
  unfold refApp appB
  rw [allQ_congr (p := refLeftQ v s r.left a) (q := leftQ v s r.left a) fun i hi => by
    rw [refLeftQ_at hi, leftQ_at hi]; exact refMat_eq hv (upTo_of_allB hl _ (by omega) (by omega))]
  rw [allQ_congr (p := refRightQ v s r.right ((a : Int) + r.frm.size)) (q := rightQ v s r.right ((a : Int) + r.frm.size)) fun i hi => by
    rw [refRightQ_at hi, rightQ_at hi]; exact refMat_eq hv (upTo_of_allB hr _ (by omega) (by omega))]
def RewAt (v : ByteArray) (r : Spe) (s : ByteArray) (w0 : World) (vo va : Value) (wr : World) : Prop :=
  ∃ (lo : ByteArray) (a : Nat), a ≤ s.size ∧ lo.size ≤ 3000 * a ∧ va = .int .i64 a ∧ vo = .string lo ∧ Below w0.heap.size w0 wr ∧ rest v r s 0 = lo.data.toList ++ rest v r s a
set_option maxRecDepth 100000 in
set_option maxHeartbeats 8000000 in
theorem refRewrite_any (L : Lex) (r : Spe) (s : ByteArray) (w : World) (hL : LexAt w L) (hs : s.size ≤ 3000) (hf : 0 < r.frm.size) (h1 : r.frm.size ≤ 3000) (ht : r.to.size ≤ 3000) (h2 : r.left.size ≤ 3000) (h3 : r.right.size ≤ 3000)
    (hap : ∀ a, refApp L.vowels r s a = appB L.vowels r s a) :
    Calls Tryz.prog 50 #[L.val, .agg #[.string r.frm, .string r.to, .string r.left, .string r.right], .string s] w fun e w' => e = .returned (.tuple #[.string ⟨(rest L.vowels r s 0).toArray⟩, .bool (decide ((rest L.vowels r s 0).length ≤ 512))]) ∧ Below w.heap.size w w' := by
  obtain ⟨p1, c1, p2, c2, p3, c3, p4, c4, p5, c5, e1, e2, e3, e4, e5, hc1, hm1, hc2, hm2, hc3, hm3, hc4, hm4, hc5, hm5⟩ := lex_forms hL
  have HL := Lib.hid hL; clear hL
  have hval : L.val = .agg #[.string L.vowels, .slice p1 L.traits.length c1, .slice p2 L.classes.length c2, .slice p3 L.entries.length c3, .slice p4 L.spells.length c4, .slice p5 L.links.length c5] := by unfold Lex.val; rw [e1, e2, e3, e4, e5]
  have HVAL := Lib.hid hval
  have HO := Lib.hid (show boxed L = .cells #[.string L.vowels, .slice p1 L.traits.length c1, .slice p2 L.classes.length c2, .slice p3 L.entries.length c3, .slice p4 L.spells.length c4, .slice p5 L.links.length c5] 28 by unfold boxed; rw [e1, e2, e3, e4, e5])
  rw [hval]
  clear hval
  have ag := Tryz.isAgg28
  have zg := Tryz.sizeOf28
  have agp := Tryz.isAgg76
  have zgp := Tryz.sizeOf76
  have hb0 : Below w.heap.size w ((w.alloc (.cells #[.string L.vowels, .slice p1 L.traits.length c1, .slice p2 L.classes.length c2, .slice p3 L.entries.length c3, .slice p4 L.spells.length c4, .slice p5 L.links.length c5] 28)).alloc (.cells #[.string r.frm, .string r.to, .string r.left, .string r.right] 76)) := (by have h1 := (below_one w (boxed L)).alloc (by simp) (.cells #[.string r.frm, .string r.to, .string r.left, .string r.right] 76); rw [HO.out] at h1; exact h1)
  have l0 : ((w.alloc (.cells #[.string L.vowels, .slice p1 L.traits.length c1, .slice p2 L.classes.length c2, .slice p3 L.entries.length c3, .slice p4 L.spells.length c4, .slice p5 L.links.length c5] 28)).alloc (.cells #[.string r.frm, .string r.to, .string r.left, .string r.right] 76)).cell? ⟨w.heap.size, 0, none⟩ = some (.string L.vowels) := by rw [((Below.refl _ _).alloc (Nat.le_refl _) _ : Below (w.alloc (.cells #[.string L.vowels, .slice p1 L.traits.length c1, .slice p2 L.classes.length c2, .slice p3 L.entries.length c3, .slice p4 L.spells.length c4, .slice p5 L.links.length c5] 28)).heap.size (w.alloc (.cells #[.string L.vowels, .slice p1 L.traits.length c1, .slice p2 L.classes.length c2, .slice p3 L.entries.length c3, .slice p4 L.spells.length c4, .slice p5 L.links.length c5] 28)) _).cell (p := ⟨w.heap.size, 0, none⟩) (by simp)]; rw [World.cell?_alloc_new]; rfl
  have l1 : ((w.alloc (.cells #[.string L.vowels, .slice p1 L.traits.length c1, .slice p2 L.classes.length c2, .slice p3 L.entries.length c3, .slice p4 L.spells.length c4, .slice p5 L.links.length c5] 28)).alloc (.cells #[.string r.frm, .string r.to, .string r.left, .string r.right] 76)).cell? ⟨w.heap.size, 1, none⟩ = some (.slice p1 L.traits.length c1) := by rw [((Below.refl _ _).alloc (Nat.le_refl _) _ : Below (w.alloc (.cells #[.string L.vowels, .slice p1 L.traits.length c1, .slice p2 L.classes.length c2, .slice p3 L.entries.length c3, .slice p4 L.spells.length c4, .slice p5 L.links.length c5] 28)).heap.size (w.alloc (.cells #[.string L.vowels, .slice p1 L.traits.length c1, .slice p2 L.classes.length c2, .slice p3 L.entries.length c3, .slice p4 L.spells.length c4, .slice p5 L.links.length c5] 28)) _).cell (p := ⟨w.heap.size, 1, none⟩) (by simp)]; rw [World.cell?_alloc_new]; rfl
  have l2 : ((w.alloc (.cells #[.string L.vowels, .slice p1 L.traits.length c1, .slice p2 L.classes.length c2, .slice p3 L.entries.length c3, .slice p4 L.spells.length c4, .slice p5 L.links.length c5] 28)).alloc (.cells #[.string r.frm, .string r.to, .string r.left, .string r.right] 76)).cell? ⟨w.heap.size, 2, none⟩ = some (.slice p2 L.classes.length c2) := by rw [((Below.refl _ _).alloc (Nat.le_refl _) _ : Below (w.alloc (.cells #[.string L.vowels, .slice p1 L.traits.length c1, .slice p2 L.classes.length c2, .slice p3 L.entries.length c3, .slice p4 L.spells.length c4, .slice p5 L.links.length c5] 28)).heap.size (w.alloc (.cells #[.string L.vowels, .slice p1 L.traits.length c1, .slice p2 L.classes.length c2, .slice p3 L.entries.length c3, .slice p4 L.spells.length c4, .slice p5 L.links.length c5] 28)) _).cell (p := ⟨w.heap.size, 2, none⟩) (by simp)]; rw [World.cell?_alloc_new]; rfl
  have l3 : ((w.alloc (.cells #[.string L.vowels, .slice p1 L.traits.length c1, .slice p2 L.classes.length c2, .slice p3 L.entries.length c3, .slice p4 L.spells.length c4, .slice p5 L.links.length c5] 28)).alloc (.cells #[.string r.frm, .string r.to, .string r.left, .string r.right] 76)).cell? ⟨w.heap.size, 3, none⟩ = some (.slice p3 L.entries.length c3) := by rw [((Below.refl _ _).alloc (Nat.le_refl _) _ : Below (w.alloc (.cells #[.string L.vowels, .slice p1 L.traits.length c1, .slice p2 L.classes.length c2, .slice p3 L.entries.length c3, .slice p4 L.spells.length c4, .slice p5 L.links.length c5] 28)).heap.size (w.alloc (.cells #[.string L.vowels, .slice p1 L.traits.length c1, .slice p2 L.classes.length c2, .slice p3 L.entries.length c3, .slice p4 L.spells.length c4, .slice p5 L.links.length c5] 28)) _).cell (p := ⟨w.heap.size, 3, none⟩) (by simp)]; rw [World.cell?_alloc_new]; rfl
  have l4 : ((w.alloc (.cells #[.string L.vowels, .slice p1 L.traits.length c1, .slice p2 L.classes.length c2, .slice p3 L.entries.length c3, .slice p4 L.spells.length c4, .slice p5 L.links.length c5] 28)).alloc (.cells #[.string r.frm, .string r.to, .string r.left, .string r.right] 76)).cell? ⟨w.heap.size, 4, none⟩ = some (.slice p4 L.spells.length c4) := by rw [((Below.refl _ _).alloc (Nat.le_refl _) _ : Below (w.alloc (.cells #[.string L.vowels, .slice p1 L.traits.length c1, .slice p2 L.classes.length c2, .slice p3 L.entries.length c3, .slice p4 L.spells.length c4, .slice p5 L.links.length c5] 28)).heap.size (w.alloc (.cells #[.string L.vowels, .slice p1 L.traits.length c1, .slice p2 L.classes.length c2, .slice p3 L.entries.length c3, .slice p4 L.spells.length c4, .slice p5 L.links.length c5] 28)) _).cell (p := ⟨w.heap.size, 4, none⟩) (by simp)]; rw [World.cell?_alloc_new]; rfl
  have l5 : ((w.alloc (.cells #[.string L.vowels, .slice p1 L.traits.length c1, .slice p2 L.classes.length c2, .slice p3 L.entries.length c3, .slice p4 L.spells.length c4, .slice p5 L.links.length c5] 28)).alloc (.cells #[.string r.frm, .string r.to, .string r.left, .string r.right] 76)).cell? ⟨w.heap.size, 5, none⟩ = some (.slice p5 L.links.length c5) := by rw [((Below.refl _ _).alloc (Nat.le_refl _) _ : Below (w.alloc (.cells #[.string L.vowels, .slice p1 L.traits.length c1, .slice p2 L.classes.length c2, .slice p3 L.entries.length c3, .slice p4 L.spells.length c4, .slice p5 L.links.length c5] 28)).heap.size (w.alloc (.cells #[.string L.vowels, .slice p1 L.traits.length c1, .slice p2 L.classes.length c2, .slice p3 L.entries.length c3, .slice p4 L.spells.length c4, .slice p5 L.links.length c5] 28)) _).cell (p := ⟨w.heap.size, 5, none⟩) (by simp)]; rw [World.cell?_alloc_new]; rfl
  have r0 : ((w.alloc (.cells #[.string L.vowels, .slice p1 L.traits.length c1, .slice p2 L.classes.length c2, .slice p3 L.entries.length c3, .slice p4 L.spells.length c4, .slice p5 L.links.length c5] 28)).alloc (.cells #[.string r.frm, .string r.to, .string r.left, .string r.right] 76)).cell? ⟨w.heap.size + 1, 0, none⟩ = some (.string r.frm) := by have h := World.cell?_alloc_new (w.alloc (.cells #[.string L.vowels, .slice p1 L.traits.length c1, .slice p2 L.classes.length c2, .slice p3 L.entries.length c3, .slice p4 L.spells.length c4, .slice p5 L.links.length c5] 28)) #[.string r.frm, .string r.to, .string r.left, .string r.right] 76 0; rw [World.size_alloc] at h; rw [h]; rfl
  have r1 : ((w.alloc (.cells #[.string L.vowels, .slice p1 L.traits.length c1, .slice p2 L.classes.length c2, .slice p3 L.entries.length c3, .slice p4 L.spells.length c4, .slice p5 L.links.length c5] 28)).alloc (.cells #[.string r.frm, .string r.to, .string r.left, .string r.right] 76)).cell? ⟨w.heap.size + 1, 1, none⟩ = some (.string r.to) := by have h := World.cell?_alloc_new (w.alloc (.cells #[.string L.vowels, .slice p1 L.traits.length c1, .slice p2 L.classes.length c2, .slice p3 L.entries.length c3, .slice p4 L.spells.length c4, .slice p5 L.links.length c5] 28)) #[.string r.frm, .string r.to, .string r.left, .string r.right] 76 1; rw [World.size_alloc] at h; rw [h]; rfl
  have r2 : ((w.alloc (.cells #[.string L.vowels, .slice p1 L.traits.length c1, .slice p2 L.classes.length c2, .slice p3 L.entries.length c3, .slice p4 L.spells.length c4, .slice p5 L.links.length c5] 28)).alloc (.cells #[.string r.frm, .string r.to, .string r.left, .string r.right] 76)).cell? ⟨w.heap.size + 1, 2, none⟩ = some (.string r.left) := by have h := World.cell?_alloc_new (w.alloc (.cells #[.string L.vowels, .slice p1 L.traits.length c1, .slice p2 L.classes.length c2, .slice p3 L.entries.length c3, .slice p4 L.spells.length c4, .slice p5 L.links.length c5] 28)) #[.string r.frm, .string r.to, .string r.left, .string r.right] 76 2; rw [World.size_alloc] at h; rw [h]; rfl
  have r3 : ((w.alloc (.cells #[.string L.vowels, .slice p1 L.traits.length c1, .slice p2 L.classes.length c2, .slice p3 L.entries.length c3, .slice p4 L.spells.length c4, .slice p5 L.links.length c5] 28)).alloc (.cells #[.string r.frm, .string r.to, .string r.left, .string r.right] 76)).cell? ⟨w.heap.size + 1, 3, none⟩ = some (.string r.right) := by have h := World.cell?_alloc_new (w.alloc (.cells #[.string L.vowels, .slice p1 L.traits.length c1, .slice p2 L.classes.length c2, .slice p3 L.entries.length c3, .slice p4 L.spells.length c4, .slice p5 L.links.length c5] 28)) #[.string r.frm, .string r.to, .string r.left, .string r.right] 76 3; rw [World.size_alloc] at h; rw [h]; rfl
  go_enter Tryz.func50, Tryz.ntmps50
  go_wp2
  generalize ((w.alloc (.cells #[.string L.vowels, .slice p1 L.traits.length c1, .slice p2 L.classes.length c2, .slice p3 L.entries.length c3, .slice p4 L.spells.length c4, .slice p5 L.links.length c5] 28)).alloc (.cells #[.string r.frm, .string r.to, .string r.left, .string r.right] 76)) = w0 at hb0 l0 l1 l2 l3 l4 l5 r0 r1 r2 r3 ⊢
  have HB0 := Lib.hid hb0; clear hb0
  have HWL := Lib.hid (World.block_lt_of_cell? w0 _ l0)
  have HWR := Lib.hid (World.block_lt_of_cell? w0 _ r0)
  have HLW := Lib.hid (HL.out.step HB0.out)
  replace l0 := Lib.hid l0
  replace l1 := Lib.hid l1
  replace l2 := Lib.hid l2
  replace l3 := Lib.hid l3
  replace l4 := Lib.hid l4
  replace l5 := Lib.hid l5
  replace r0 := Lib.hid r0
  replace r1 := Lib.hid r1
  replace r2 := Lib.hid r2
  replace r3 := Lib.hid r3
  go_loopw [8, 9] (fun vo va wr => RewAt L.vowels r s w0 vo va wr) (fun _ va _ => s.size - (intOf va).toNat)
  case atStart => exact ⟨⟨#[]⟩, 0, by omega, Nat.zero_le _, rfl, rfl, Below.refl _ _, by simp⟩
  case round =>
    obtain ⟨lo, a, ha, hlo, rfl, rfl, hbel, hrest⟩ := hrel
    have HB := Lib.hid hbel; clear hbel
    have HREST := Lib.hid hrest; clear hrest
    rename World => wr
    have x0 : wr.cell? ⟨w.heap.size, 0, none⟩ = some (.string L.vowels) := by rw [HB.out.cell (p := ⟨w.heap.size, 0, none⟩) HWL.out]; exact l0.out
    have x1 : wr.cell? ⟨w.heap.size, 1, none⟩ = some (.slice p1 L.traits.length c1) := by rw [HB.out.cell (p := ⟨w.heap.size, 1, none⟩) HWL.out]; exact l1.out
    have x2 : wr.cell? ⟨w.heap.size, 2, none⟩ = some (.slice p2 L.classes.length c2) := by rw [HB.out.cell (p := ⟨w.heap.size, 2, none⟩) HWL.out]; exact l2.out
    have x3 : wr.cell? ⟨w.heap.size, 3, none⟩ = some (.slice p3 L.entries.length c3) := by rw [HB.out.cell (p := ⟨w.heap.size, 3, none⟩) HWL.out]; exact l3.out
    have x4 : wr.cell? ⟨w.heap.size, 4, none⟩ = some (.slice p4 L.spells.length c4) := by rw [HB.out.cell (p := ⟨w.heap.size, 4, none⟩) HWL.out]; exact l4.out
    have x5 : wr.cell? ⟨w.heap.size, 5, none⟩ = some (.slice p5 L.links.length c5) := by rw [HB.out.cell (p := ⟨w.heap.size, 5, none⟩) HWL.out]; exact l5.out
    have xr0 : wr.cell? ⟨w.heap.size + 1, 0, none⟩ = some (.string r.frm) := by rw [HB.out.cell (p := ⟨w.heap.size + 1, 0, none⟩) HWR.out]; exact r0.out
    have xr1 : wr.cell? ⟨w.heap.size + 1, 1, none⟩ = some (.string r.to) := by rw [HB.out.cell (p := ⟨w.heap.size + 1, 1, none⟩) HWR.out]; exact r1.out
    have xr2 : wr.cell? ⟨w.heap.size + 1, 2, none⟩ = some (.string r.left) := by rw [HB.out.cell (p := ⟨w.heap.size + 1, 2, none⟩) HWR.out]; exact r2.out
    have xr3 : wr.cell? ⟨w.heap.size + 1, 3, none⟩ = some (.string r.right) := by rw [HB.out.cell (p := ⟨w.heap.size + 1, 3, none⟩) HWR.out]; exact r3.out
    have HWW := Lib.hid (HB0.out.trans (HB.out.mono HB0.out.size))
    by_cases hlt : a < s.size
    · have HCM := Lib.hid (HVAL.out ▸ refApplies_any L r s a wr (HL.out.step HWW.out) (by omega) hs h1 h2 h3)
      cases happ : appB L.vowels r s a
      · have HR2 := Lib.hid (show rest L.vowels r s 0 = lo.data.toList ++ ([s[a]] ++ rest L.vowels r s (a + 1)) by rw [HREST.out, rest_miss hlt happ]; rfl)
        have ha1 : (a : Int) + 1 ≤ (s.size : Int) := by omega
        go_wp2_with (go_at_call 85; refine (HCM.out).mono ?_; rintro e w2 ⟨he, hb2⟩; rw [hap a, happ] at he; subst he; have HB2 := Lib.hid (HB.out.trans (hb2.mono HB.out.size)); have zr0 := (show w2.cell? ⟨w.heap.size + 1, 0, none⟩ = some (.string r.frm) by rw [HB2.out.cell (p := ⟨w.heap.size + 1, 0, none⟩) HWR.out]; exact r0.out); have zr1 := (show w2.cell? ⟨w.heap.size + 1, 1, none⟩ = some (.string r.to) by rw [HB2.out.cell (p := ⟨w.heap.size + 1, 1, none⟩) HWR.out]; exact r1.out); clear hb2)
        go_roundw
        case rel =>
          refine ⟨lo ++ s.extract a (a + 1), a + 1, by omega, by simp; omega, by go_num, rfl, HB2.out, ?_⟩
          rw [HR2.out, ByteArray.data_append, Array.toList_append, List.append_assoc]
          congr 2
          rw [ByteArray.data_extract, Array.toList_extract]
          simp
          rw [List.drop_eq_getElem_cons (by simpa using hlt)]
          simp
          rfl
        case measure => simp [intOf]; omega
      · have hroom := app_room happ (by omega)
        have HR2 := Lib.hid (show rest L.vowels r s 0 = lo.data.toList ++ (r.to.data.toList ++ rest L.vowels r s (a + r.frm.size)) by rw [HREST.out, rest_hit hlt happ hf])
        go_wp2_with (go_at_call 85; refine (HCM.out).mono ?_; rintro e w2 ⟨he, hb2⟩; rw [hap a, happ] at he; subst he; have HB2 := Lib.hid (HB.out.trans (hb2.mono HB.out.size)); have zr0 := (show w2.cell? ⟨w.heap.size + 1, 0, none⟩ = some (.string r.frm) by rw [HB2.out.cell (p := ⟨w.heap.size + 1, 0, none⟩) HWR.out]; exact r0.out); have zr1 := (show w2.cell? ⟨w.heap.size + 1, 1, none⟩ = some (.string r.to) by rw [HB2.out.cell (p := ⟨w.heap.size + 1, 1, none⟩) HWR.out]; exact r1.out); clear hb2)
        go_roundw
        case rel =>
          refine ⟨lo ++ r.to, a + r.frm.size, hroom, by simp; omega, by go_num, rfl, HB2.out, ?_⟩
          rw [HR2.out, ByteArray.data_append, Array.toList_append, List.append_assoc]
        case measure => simp [intOf]; omega
    · have HFIN := Lib.hid (show rest L.vowels r s 0 = lo.data.toList by rw [HREST.out, rest_end hlt]; simp)
      go_wp2
      go_ret2
      refine ⟨?_, HWW.out⟩
      rw [HFIN.out]
      simp
      omega
end Go.Proofs.YtgddmegjncbndaaGreatDoor
