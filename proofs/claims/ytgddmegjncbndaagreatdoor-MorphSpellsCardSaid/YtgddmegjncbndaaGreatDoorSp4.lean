/- Where a rule is applied, as the specification tells it. -/
import Derived.Test.YtgddmegjncbndaaGreatDoorSp3
namespace Go.Proofs.YtgddmegjncbndaaGreatDoor
open Go Go.RowKit
def refLeftQ (v s left : ByteArray) (at_ : Int) (i : Nat) : Bool := if h : i < left.size then refMat v ((left[left.size - 1 - i]'(by omega)).toNat : Int) s (at_ - 1 - i) else true
def refRightQ (v s right : ByteArray) (at_ : Int) (i : Nat) : Bool := if h : i < right.size then refMat v (right[i].toNat : Int) s (at_ + i) else true
theorem refLeftQ_at {v s left : ByteArray} {a : Int} {i : Nat} (h : i < left.size) : refLeftQ v s left a i = refMat v ((left[left.size - 1 - i]'(by omega)).toNat : Int) s (a - 1 - i) := by unfold refLeftQ; rw [dif_pos h]
theorem refRightQ_at {v s right : ByteArray} {a : Int} {i : Nat} (h : i < right.size) : refRightQ v s right a i = refMat v (right[i].toNat : Int) s (a + i) := by unfold refRightQ; rw [dif_pos h]
def refApp (v : ByteArray) (r : Spe) (s : ByteArray) (a : Nat) : Bool := preB (s.toList.drop a) r.frm.toList && allQ r.left.size (refLeftQ v s r.left a) && allQ r.right.size (refRightQ v s r.right ((a : Int) + r.frm.size))
set_option maxRecDepth 100000 in
set_option maxHeartbeats 8000000 in
theorem refApplies_any (L : Lex) (r : Spe) (s : ByteArray) (a : Nat) (w : World) (hL : LexAt w L) (ha : a ≤ s.size) (hs : s.size ≤ 3000) (h1 : r.frm.size ≤ 3000) (h2 : r.left.size ≤ 3000) (h3 : r.right.size ≤ 3000) :
    Calls Tryz.prog 85 #[L.val, .agg #[.string r.frm, .string r.to, .string r.left, .string r.right], .string s, .int .i64 a] w fun e w' => e = .returned (.bool (refApp L.vowels r s a)) ∧ Below w.heap.size w w' := by
  obtain ⟨p1, c1, p2, c2, p3, c3, p4, c4, p5, c5, e1, e2, e3, e4, e5, hc1, hm1, hc2, hm2, hc3, hm3, hc4, hm4, hc5, hm5⟩ := lex_forms hL
  have HL := Lib.hid hL; clear hL
  have hval : L.val = .agg #[.string L.vowels, .slice p1 L.traits.length c1, .slice p2 L.classes.length c2, .slice p3 L.entries.length c3, .slice p4 L.spells.length c4, .slice p5 L.links.length c5] := by unfold Lex.val; rw [e1, e2, e3, e4, e5]
  have HVAL := Lib.hid hval
  have HO := Lib.hid (show boxed L = .cells #[.string L.vowels, .slice p1 L.traits.length c1, .slice p2 L.classes.length c2, .slice p3 L.entries.length c3, .slice p4 L.spells.length c4, .slice p5 L.links.length c5] 28 by unfold boxed; rw [e1, e2, e3, e4, e5])
  rw [hval]
  clear hval
  have ag := Tryz.isAgg28
  have zg := Tryz.sizeOf28
  have agp := Tryz.isAgg76
  have zgp := Tryz.sizeOf76
  have hb0 : Below w.heap.size w ((w.alloc (.cells #[.string L.vowels, .slice p1 L.traits.length c1, .slice p2 L.classes.length c2, .slice p3 L.entries.length c3, .slice p4 L.spells.length c4, .slice p5 L.links.length c5] 28)).alloc (.cells #[.string r.frm, .string r.to, .string r.left, .string r.right] 76)) := (by have h1 := (below_one w (boxed L)).alloc (by simp) (.cells #[.string r.frm, .string r.to, .string r.left, .string r.right] 76); rw [HO.out] at h1; exact h1)
  have l0 : ((w.alloc (.cells #[.string L.vowels, .slice p1 L.traits.length c1, .slice p2 L.classes.length c2, .slice p3 L.entries.length c3, .slice p4 L.spells.length c4, .slice p5 L.links.length c5] 28)).alloc (.cells #[.string r.frm, .string r.to, .string r.left, .string r.right] 76)).cell? ⟨w.heap.size, 0, none⟩ = some (.string L.vowels) := by rw [((Below.refl _ _).alloc (Nat.le_refl _) _ : Below (w.alloc (.cells #[.string L.vowels, .slice p1 L.traits.length c1, .slice p2 L.classes.length c2, .slice p3 L.entries.length c3, .slice p4 L.spells.length c4, .slice p5 L.links.length c5] 28)).heap.size (w.alloc (.cells #[.string L.vowels, .slice p1 L.traits.length c1, .slice p2 L.classes.length c2, .slice p3 L.entries.length c3, .slice p4 L.spells.length c4, .slice p5 L.links.length c5] 28)) _).cell (p := ⟨w.heap.size, 0, none⟩) (by simp)]; rw [World.cell?_alloc_new]; rfl
  have l1 : ((w.alloc (.cells #[.string L.vowels, .slice p1 L.traits.length c1, .slice p2 L.classes.length c2, .slice p3 L.entries.length c3, .slice p4 L.spells.length c4, .slice p5 L.links.length c5] 28)).alloc (.cells #[.string r.frm, .string r.to, .string r.left, .string r.right] 76)).cell? ⟨w.heap.size, 1, none⟩ = some (.slice p1 L.traits.length c1) := by rw [((Below.refl _ _).alloc (Nat.le_refl _) _ : Below (w.alloc (.cells #[.string L.vowels, .slice p1 L.traits.length c1, .slice p2 L.classes.length c2, .slice p3 L.entries.length c3, .slice p4 L.spells.length c4, .slice p5 L.links.length c5] 28)).heap.size (w.alloc (.cells #[.string L.vowels, .slice p1 L.traits.length c1, .slice p2 L.classes.length c2, .slice p3 L.entries.length c3, .slice p4 L.spells.length c4, .slice p5 L.links.length c5] 28)) _).cell (p := ⟨w.heap.size, 1, none⟩) (by simp)]; rw [World.cell?_alloc_new]; rfl
  have l2 : ((w.alloc (.cells #[.string L.vowels, .slice p1 L.traits.length c1, .slice p2 L.classes.length c2, .slice p3 L.entries.length c3, .slice p4 L.spells.length c4, .slice p5 L.links.length c5] 28)).alloc (.cells #[.string r.frm, .string r.to, .string r.left, .string r.right] 76)).cell? ⟨w.heap.size, 2, none⟩ = some (.slice p2 L.classes.length c2) := by rw [((Below.refl _ _).alloc (Nat.le_refl _) _ : Below (w.alloc (.cells #[.string L.vowels, .slice p1 L.traits.length c1, .slice p2 L.classes.length c2, .slice p3 L.entries.length c3, .slice p4 L.spells.length c4, .slice p5 L.links.length c5] 28)).heap.size (w.alloc (.cells #[.string L.vowels, .slice p1 L.traits.length c1, .slice p2 L.classes.length c2, .slice p3 L.entries.length c3, .slice p4 L.spells.length c4, .slice p5 L.links.length c5] 28)) _).cell (p := ⟨w.heap.size, 2, none⟩) (by simp)]; rw [World.cell?_alloc_new]; rfl
  have l3 : ((w.alloc (.cells #[.string L.vowels, .slice p1 L.traits.length c1, .slice p2 L.classes.length c2, .slice p3 L.entries.length c3, .slice p4 L.spells.length c4, .slice p5 L.links.length c5] 28)).alloc (.cells #[.string r.frm, .string r.to, .string r.left, .string r.right] 76)).cell? ⟨w.heap.size, 3, none⟩ = some (.slice p3 L.entries.length c3) := by rw [((Below.refl _ _).alloc (Nat.le_refl _) _ : Below (w.alloc (.cells #[.string L.vowels, .slice p1 L.traits.length c1, .slice p2 L.classes.length c2, .slice p3 L.entries.length c3, .slice p4 L.spells.length c4, .slice p5 L.links.length c5] 28)).heap.size (w.alloc (.cells #[.string L.vowels, .slice p1 L.traits.length c1, .slice p2 L.classes.length c2, .slice p3 L.entries.length c3, .slice p4 L.spells.length c4, .slice p5 L.links.length c5] 28)) _).cell (p := ⟨w.heap.size, 3, none⟩) (by simp)]; rw [World.cell?_alloc_new]; rfl
  have l4 : ((w.alloc (.cells #[.string L.vowels, .slice p1 L.traits.length c1, .slice p2 L.classes.length c2, .slice p3 L.entries.length c3, .slice p4 L.spells.length c4, .slice p5 L.links.length c5] 28)).alloc (.cells #[.string r.frm, .string r.to, .string r.left, .string r.right] 76)).cell? ⟨w.heap.size, 4, none⟩ = some (.slice p4 L.spells.length c4) := by rw [((Below.refl _ _).alloc (Nat.le_refl _) _ : Below (w.alloc (.cells #[.string L.vowels, .slice p1 L.traits.length c1, .slice p2 L.classes.length c2, .slice p3 L.entries.length c3, .slice p4 L.spells.length c4, .slice p5 L.links.length c5] 28)).heap.size (w.alloc (.cells #[.string L.vowels, .slice p1 L.traits.length c1, .slice p2 L.classes.length c2, .slice p3 L.entries.length c3, .slice p4 L.spells.length c4, .slice p5 L.links.length c5] 28)) _).cell (p := ⟨w.heap.size, 4, none⟩) (by simp)]; rw [World.cell?_alloc_new]; rfl
  have l5 : ((w.alloc (.cells #[.string L.vowels, .slice p1 L.traits.length c1, .slice p2 L.classes.length c2, .slice p3 L.entries.length c3, .slice p4 L.spells.length c4, .slice p5 L.links.length c5] 28)).alloc (.cells #[.string r.frm, .string r.to, .string r.left, .string r.right] 76)).cell? ⟨w.heap.size, 5, none⟩ = some (.slice p5 L.links.length c5) := by rw [((Below.refl _ _).alloc (Nat.le_refl _) _ : Below (w.alloc (.cells #[.string L.vowels, .slice p1 L.traits.length c1, .slice p2 L.classes.length c2, .slice p3 L.entries.length c3, .slice p4 L.spells.length c4, .slice p5 L.links.length c5] 28)).heap.size (w.alloc (.cells #[.string L.vowels, .slice p1 L.traits.length c1, .slice p2 L.classes.length c2, .slice p3 L.entries.length c3, .slice p4 L.spells.length c4, .slice p5 L.links.length c5] 28)) _).cell (p := ⟨w.heap.size, 5, none⟩) (by simp)]; rw [World.cell?_alloc_new]; rfl
  have r0 : ((w.alloc (.cells #[.string L.vowels, .slice p1 L.traits.length c1, .slice p2 L.classes.length c2, .slice p3 L.entries.length c3, .slice p4 L.spells.length c4, .slice p5 L.links.length c5] 28)).alloc (.cells #[.string r.frm, .string r.to, .string r.left, .string r.right] 76)).cell? ⟨w.heap.size + 1, 0, none⟩ = some (.string r.frm) := by have h := World.cell?_alloc_new (w.alloc (.cells #[.string L.vowels, .slice p1 L.traits.length c1, .slice p2 L.classes.length c2, .slice p3 L.entries.length c3, .slice p4 L.spells.length c4, .slice p5 L.links.length c5] 28)) #[.string r.frm, .string r.to, .string r.left, .string r.right] 76 0; rw [World.size_alloc] at h; rw [h]; rfl
  have r1 : ((w.alloc (.cells #[.string L.vowels, .slice p1 L.traits.length c1, .slice p2 L.classes.length c2, .slice p3 L.entries.length c3, .slice p4 L.spells.length c4, .slice p5 L.links.length c5] 28)).alloc (.cells #[.string r.frm, .string r.to, .string r.left, .string r.right] 76)).cell? ⟨w.heap.size + 1, 1, none⟩ = some (.string r.to) := by have h := World.cell?_alloc_new (w.alloc (.cells #[.string L.vowels, .slice p1 L.traits.length c1, .slice p2 L.classes.length c2, .slice p3 L.entries.length c3, .slice p4 L.spells.length c4, .slice p5 L.links.length c5] 28)) #[.string r.frm, .string r.to, .string r.left, .string r.right] 76 1; rw [World.size_alloc] at h; rw [h]; rfl
  have r2 : ((w.alloc (.cells #[.string L.vowels, .slice p1 L.traits.length c1, .slice p2 L.classes.length c2, .slice p3 L.entries.length c3, .slice p4 L.spells.length c4, .slice p5 L.links.length c5] 28)).alloc (.cells #[.string r.frm, .string r.to, .string r.left, .string r.right] 76)).cell? ⟨w.heap.size + 1, 2, none⟩ = some (.string r.left) := by have h := World.cell?_alloc_new (w.alloc (.cells #[.string L.vowels, .slice p1 L.traits.length c1, .slice p2 L.classes.length c2, .slice p3 L.entries.length c3, .slice p4 L.spells.length c4, .slice p5 L.links.length c5] 28)) #[.string r.frm, .string r.to, .string r.left, .string r.right] 76 2; rw [World.size_alloc] at h; rw [h]; rfl
  have r3 : ((w.alloc (.cells #[.string L.vowels, .slice p1 L.traits.length c1, .slice p2 L.classes.length c2, .slice p3 L.entries.length c3, .slice p4 L.spells.length c4, .slice p5 L.links.length c5] 28)).alloc (.cells #[.string r.frm, .string r.to, .string r.left, .string r.right] 76)).cell? ⟨w.heap.size + 1, 3, none⟩ = some (.string r.right) := by have h := World.cell?_alloc_new (w.alloc (.cells #[.string L.vowels, .slice p1 L.traits.length c1, .slice p2 L.classes.length c2, .slice p3 L.entries.length c3, .slice p4 L.spells.length c4, .slice p5 L.links.length c5] 28)) #[.string r.frm, .string r.to, .string r.left, .string r.right] 76 3; rw [World.size_alloc] at h; rw [h]; rfl
  have ha0 : (0 : Int) ≤ (a : Int) := by omega
  have ha1 : (a : Int) ≤ (s.size : Int) := by omega
  have hw0 : IntKind.i64.wrap ((a : Int) + r.frm.size) = (a : Int) + r.frm.size := by rw [IntKind.wrap_i64]; omega
  by_cases hroom : (s.size : Int) < (a : Int) + r.frm.size
  · have HX := Lib.hid (show refApp L.vowels r s a = false by
      unfold refApp; rw [preB_short (by rw [List.length_drop, ByteArray.toList_eq, ByteArray.toList_eq]; simp; omega)]; rfl)
    go_enter Tryz.func85, Tryz.ntmps85
    go_wp2
    generalize ((w.alloc (.cells #[.string L.vowels, .slice p1 L.traits.length c1, .slice p2 L.classes.length c2, .slice p3 L.entries.length c3, .slice p4 L.spells.length c4, .slice p5 L.links.length c5] 28)).alloc (.cells #[.string r.frm, .string r.to, .string r.left, .string r.right] 76)) = w0 at hb0 l0 l1 l2 l3 l4 l5 r0 r1 r2 r3 ⊢
    have HB0 := Lib.hid hb0; clear hb0
    have HWL := Lib.hid (World.block_lt_of_cell? w0 _ l0)
    have HWR := Lib.hid (World.block_lt_of_cell? w0 _ r0)
    have HLW := Lib.hid (HL.out.step HB0.out)
    go_quiet (fail)
    go_wp2
    go_ret
    exact ⟨ret_bool HX.out.symm, below_drewN _ HB0.out⟩
  have hr2 : (a : Int) + r.frm.size ≤ (s.size : Int) := by omega
  have hd2 : decide ((s.size : Int) < (a : Int) + r.frm.size) = false := decide_eq_false hroom
  have ha2 : (a : Int) ≤ (a : Int) + r.frm.size := by omega
  have ha3 : (0 : Int) ≤ (a : Int) + r.frm.size := by omega
  have ha4 : ((a : Int) + r.frm.size).toNat = a + r.frm.size := by omega
  have HPT := Lib.hid (show preB (s.toList.drop a) r.frm.toList = ((s.extract a (a + r.frm.size)).toList == r.frm.toList) by
    rw [preB_take (by rw [List.length_drop, ByteArray.toList_eq, ByteArray.toList_eq]; simp; omega)]
    congr 1
    rw [ByteArray.toList_eq, ByteArray.toList_eq, ByteArray.toList_eq]
    simp)
  cases hpre : ((s.extract a (a + r.frm.size)).toList == r.frm.toList)
  · have HX := Lib.hid (show refApp L.vowels r s a = false by unfold refApp; rw [HPT.out, hpre]; rfl)
    go_enter Tryz.func85, Tryz.ntmps85
    go_wp2
    generalize ((w.alloc (.cells #[.string L.vowels, .slice p1 L.traits.length c1, .slice p2 L.classes.length c2, .slice p3 L.entries.length c3, .slice p4 L.spells.length c4, .slice p5 L.links.length c5] 28)).alloc (.cells #[.string r.frm, .string r.to, .string r.left, .string r.right] 76)) = w0 at hb0 l0 l1 l2 l3 l4 l5 r0 r1 r2 r3 ⊢
    have HB0 := Lib.hid hb0; clear hb0
    have HWL := Lib.hid (World.block_lt_of_cell? w0 _ l0)
    have HWR := Lib.hid (World.block_lt_of_cell? w0 _ r0)
    have HLW := Lib.hid (HL.out.step HB0.out)
    go_quiet (fail)
    go_wp2
    go_ret
    exact ⟨ret_bool HX.out.symm, below_drewN _ HB0.out⟩
  have HP := Lib.hid (HPT.out.trans hpre)
  go_enter Tryz.func85, Tryz.ntmps85
  go_wp2
  generalize ((w.alloc (.cells #[.string L.vowels, .slice p1 L.traits.length c1, .slice p2 L.classes.length c2, .slice p3 L.entries.length c3, .slice p4 L.spells.length c4, .slice p5 L.links.length c5] 28)).alloc (.cells #[.string r.frm, .string r.to, .string r.left, .string r.right] 76)) = w0 at hb0 l0 l1 l2 l3 l4 l5 r0 r1 r2 r3 ⊢
  have HB0 := Lib.hid hb0; clear hb0
  have HWL := Lib.hid (World.block_lt_of_cell? w0 _ l0)
  have HWR := Lib.hid (World.block_lt_of_cell? w0 _ r0)
  have HLW := Lib.hid (HL.out.step HB0.out)
  go_quiet (fail)
  go_wp2
  replace l0 := Lib.hid l0
  replace l1 := Lib.hid l1
  replace l2 := Lib.hid l2
  replace l3 := Lib.hid l3
  replace l4 := Lib.hid l4
  replace l5 := Lib.hid l5
  replace r0 := Lib.hid r0
  replace r1 := Lib.hid r1
  replace r2 := Lib.hid r2
  replace r3 := Lib.hid r3
  go_loopw [9] (fun i wr => ∃ k : Nat, k ≤ r.left.size ∧ i = .int .i64 k ∧ (∀ j, j < k → refLeftQ L.vowels s r.left a j = true) ∧ Below w0.heap.size w0 wr) (fun i _ => r.left.size - (intOf i).toNat)
  case atStart => exact ⟨0, by omega, rfl, fun i h => by omega, below_drewN _ (Below.refl _ _)⟩
  case round =>
    obtain ⟨k, hk, rfl, hq, hB⟩ := hrel
    have HQ := Lib.hid hq; clear hq
    have HB := Lib.hid hB; clear hB
    rename World => wr
    have x0 : wr.cell? ⟨w.heap.size, 0, none⟩ = some (.string L.vowels) := by rw [HB.out.cell (p := ⟨w.heap.size, 0, none⟩) HWL.out]; exact l0.out
    have x1 : wr.cell? ⟨w.heap.size, 1, none⟩ = some (.slice p1 L.traits.length c1) := by rw [HB.out.cell (p := ⟨w.heap.size, 1, none⟩) HWL.out]; exact l1.out
    have x2 : wr.cell? ⟨w.heap.size, 2, none⟩ = some (.slice p2 L.classes.length c2) := by rw [HB.out.cell (p := ⟨w.heap.size, 2, none⟩) HWL.out]; exact l2.out
    have x3 : wr.cell? ⟨w.heap.size, 3, none⟩ = some (.slice p3 L.entries.length c3) := by rw [HB.out.cell (p := ⟨w.heap.size, 3, none⟩) HWL.out]; exact l3.out
    have x4 : wr.cell? ⟨w.heap.size, 4, none⟩ = some (.slice p4 L.spells.length c4) := by rw [HB.out.cell (p := ⟨w.heap.size, 4, none⟩) HWL.out]; exact l4.out
    have x5 : wr.cell? ⟨w.heap.size, 5, none⟩ = some (.slice p5 L.links.length c5) := by rw [HB.out.cell (p := ⟨w.heap.size, 5, none⟩) HWL.out]; exact l5.out
    have xr0 : wr.cell? ⟨w.heap.size + 1, 0, none⟩ = some (.string r.frm) := by rw [HB.out.cell (p := ⟨w.heap.size + 1, 0, none⟩) HWR.out]; exact r0.out
    have xr1 : wr.cell? ⟨w.heap.size + 1, 1, none⟩ = some (.string r.to) := by rw [HB.out.cell (p := ⟨w.heap.size + 1, 1, none⟩) HWR.out]; exact r1.out
    have xr2 : wr.cell? ⟨w.heap.size + 1, 2, none⟩ = some (.string r.left) := by rw [HB.out.cell (p := ⟨w.heap.size + 1, 2, none⟩) HWR.out]; exact r2.out
    have xr3 : wr.cell? ⟨w.heap.size + 1, 3, none⟩ = some (.string r.right) := by rw [HB.out.cell (p := ⟨w.heap.size + 1, 3, none⟩) HWR.out]; exact r3.out
    by_cases hlt : k < r.left.size
    · have hj : r.left.size - 1 - k < r.left.size := by omega
      have hw1 : IntKind.i64.wrap ((r.left.size : Int) - 1 - k) = ((r.left.size - 1 - k : Nat) : Int) := by rw [IntKind.wrap_i64]; omega
      have hw2 : ((r.left.size - 1 - k : Nat) : Int) < (r.left.size : Int) := by omega
      have hw3 : IntKind.i64.wrap ((a : Int) - 1 - k) = (a : Int) - 1 - k := by rw [IntKind.wrap_i64]; omega
      have hw6 : IntKind.i64.wrap ((r.left.size : Int) - 1) = (r.left.size : Int) - 1 := by rw [IntKind.wrap_i64]; omega
      have hw7 : IntKind.i64.wrap ((a : Int) - 1) = (a : Int) - 1 := by rw [IntKind.wrap_i64]; omega
      have hw4 : (0 : Int) ≤ (r.left.size : Int) - 1 - k := by omega
      have hw5 : (r.left.size : Int) - 1 - k < (r.left.size : Int) := by omega
      have HLQ := Lib.hid (refLeftQ_at (v := L.vowels) (s := s) (a := (a : Int)) hlt)
      have HWW := Lib.hid (HB0.out.trans (HB.out.mono HB0.out.size))
      have HWD := Lib.hid (show Below w.heap.size w wr.drew from below_drewN 1 HWW.out)
      have HBD := Lib.hid (show Below w0.heap.size w0 wr.drew from below_drewN 1 HB.out)
      have HCM := Lib.hid (HVAL.out ▸ refMatches_any L (r.left[r.left.size - 1 - k].toNat : Int) s ((a : Int) - 1 - k) wr.drew (HL.out.step HWD.out) hs)
      cases hm : refMat L.vowels (r.left[r.left.size - 1 - k].toNat : Int) s ((a : Int) - 1 - k)
      · have HX := Lib.hid (show refApp L.vowels r s a = false by unfold refApp; rw [allQ_false hlt (HLQ.out.trans hm)]; simp)
        go_wp2
        go_still_tail 15, (by kernel_rfl)
        go_wp2_with (go_at_call 113; refine (HCM.out).mono ?_; rintro e w2 ⟨he, hb2⟩; rw [hm] at he; subst he; have HW2 := Lib.hid (HWD.out.trans (hb2.mono HWD.out.size)); clear hb2)
        go_ret
        exact ⟨ret_bool HX.out.symm, HW2.out⟩
      · have HX := Lib.hid (HLQ.out.trans hm)
        go_wp2
        go_still_tail 15, (by kernel_rfl)
        go_wp2_with (go_at_call 113; refine (HCM.out).mono ?_; rintro e w2 ⟨he, hb2⟩; rw [hm] at he; subst he; have HB3 := Lib.hid (HBD.out.trans (hb2.mono HBD.out.size)); clear hb2)
        go_roundw
        case rel => exact ⟨k + 1, by omega, by go_num, true_succ HQ.out HX.out, HB3.out⟩
        case measure => simp [intOf]; omega
    · have HLA := Lib.hid (show allQ r.left.size (refLeftQ L.vowels s r.left a) = true from allQ_true fun i hi => HQ.out i (by omega))
      go_wp2
      go_loopw [10] (fun i wq => ∃ k : Nat, k ≤ r.right.size ∧ i = .int .i64 k ∧ (∀ j, j < k → refRightQ L.vowels s r.right ((a : Int) + r.frm.size) j = true) ∧ Below w0.heap.size w0 wq) (fun i _ => r.right.size - (intOf i).toNat)
      case atStart => exact ⟨0, by omega, rfl, fun i h => by omega, HB.out⟩
      case round =>
        obtain ⟨m, hm, rfl, hq, hB2⟩ := hrel
        have HQ2 := Lib.hid hq; clear hq
        have HB2 := Lib.hid hB2; clear hB2
        rename World => wq
        clear x0 x1 x2 x3 x4 x5 xr0 xr1 xr2 xr3
        have x0 : wq.cell? ⟨w.heap.size, 0, none⟩ = some (.string L.vowels) := by rw [HB2.out.cell (p := ⟨w.heap.size, 0, none⟩) HWL.out]; exact l0.out
        have x1 : wq.cell? ⟨w.heap.size, 1, none⟩ = some (.slice p1 L.traits.length c1) := by rw [HB2.out.cell (p := ⟨w.heap.size, 1, none⟩) HWL.out]; exact l1.out
        have x2 : wq.cell? ⟨w.heap.size, 2, none⟩ = some (.slice p2 L.classes.length c2) := by rw [HB2.out.cell (p := ⟨w.heap.size, 2, none⟩) HWL.out]; exact l2.out
        have x3 : wq.cell? ⟨w.heap.size, 3, none⟩ = some (.slice p3 L.entries.length c3) := by rw [HB2.out.cell (p := ⟨w.heap.size, 3, none⟩) HWL.out]; exact l3.out
        have x4 : wq.cell? ⟨w.heap.size, 4, none⟩ = some (.slice p4 L.spells.length c4) := by rw [HB2.out.cell (p := ⟨w.heap.size, 4, none⟩) HWL.out]; exact l4.out
        have x5 : wq.cell? ⟨w.heap.size, 5, none⟩ = some (.slice p5 L.links.length c5) := by rw [HB2.out.cell (p := ⟨w.heap.size, 5, none⟩) HWL.out]; exact l5.out
        have xr0 : wq.cell? ⟨w.heap.size + 1, 0, none⟩ = some (.string r.frm) := by rw [HB2.out.cell (p := ⟨w.heap.size + 1, 0, none⟩) HWR.out]; exact r0.out
        have xr1 : wq.cell? ⟨w.heap.size + 1, 1, none⟩ = some (.string r.to) := by rw [HB2.out.cell (p := ⟨w.heap.size + 1, 1, none⟩) HWR.out]; exact r1.out
        have xr2 : wq.cell? ⟨w.heap.size + 1, 2, none⟩ = some (.string r.left) := by rw [HB2.out.cell (p := ⟨w.heap.size + 1, 2, none⟩) HWR.out]; exact r2.out
        have xr3 : wq.cell? ⟨w.heap.size + 1, 3, none⟩ = some (.string r.right) := by rw [HB2.out.cell (p := ⟨w.heap.size + 1, 3, none⟩) HWR.out]; exact r3.out
        by_cases hlt2 : m < r.right.size
        · have hw3 : IntKind.i64.wrap ((a : Int) + r.frm.size + m) = (a : Int) + r.frm.size + m := by rw [IntKind.wrap_i64]; omega
          have HRQ := Lib.hid (refRightQ_at (v := L.vowels) (s := s) (a := ((a : Int) + r.frm.size)) hlt2)
          have HWW := Lib.hid (HB0.out.trans (HB2.out.mono HB0.out.size))
          have HWD := Lib.hid (show Below w.heap.size w wq.drew from below_drewN 1 HWW.out)
          have HBD := Lib.hid (show Below w0.heap.size w0 wq.drew from below_drewN 1 HB2.out)
          have HCM := Lib.hid (HVAL.out ▸ refMatches_any L (r.right[m].toNat : Int) s ((a : Int) + r.frm.size + m) wq.drew (HL.out.step HWD.out) hs)
          cases hm : refMat L.vowels (r.right[m].toNat : Int) s ((a : Int) + r.frm.size + m)
          · have HX := Lib.hid (show refApp L.vowels r s a = false by unfold refApp; rw [allQ_false hlt2 (HRQ.out.trans hm)]; simp)
            go_wp2
            go_still_tail 13, (by kernel_rfl)
            go_wp2_with (go_at_call 113; refine (HCM.out).mono ?_; rintro e w2 ⟨he, hb2⟩; rw [hm] at he; subst he; have HW2 := Lib.hid (HWD.out.trans (hb2.mono HWD.out.size)); clear hb2)
            go_ret
            exact ⟨ret_bool HX.out.symm, HW2.out⟩
          · have HX := Lib.hid (HRQ.out.trans hm)
            go_wp2
            go_still_tail 13, (by kernel_rfl)
            go_wp2_with (go_at_call 113; refine (HCM.out).mono ?_; rintro e w2 ⟨he, hb2⟩; rw [hm] at he; subst he; have HB3 := Lib.hid (HBD.out.trans (hb2.mono HBD.out.size)); clear hb2)
            go_roundw
            case rel => exact ⟨m + 1, by omega, by go_num, true_succ HQ2.out HX.out, HB3.out⟩
            case measure => simp [intOf]; omega
        · have HX := Lib.hid (show refApp L.vowels r s a = true by unfold refApp; rw [HP.out, HLA.out, allQ_true fun i hi => HQ2.out i (by omega)]; rfl)
          go_wp2
          go_ret
          exact ⟨ret_bool HX.out.symm, HB0.out.trans (HB2.out.mono HB0.out.size)⟩
end Go.Proofs.YtgddmegjncbndaaGreatDoor
