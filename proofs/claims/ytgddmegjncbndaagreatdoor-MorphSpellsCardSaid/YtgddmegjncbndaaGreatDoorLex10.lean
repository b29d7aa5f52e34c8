/- The program's check of a lexicon, and of a bundle. -/
import Derived.Test.YtgddmegjncbndaaGreatDoorLex8
import Derived.Test.YtgddmegjncbndaaGreatDoorLex9
import Derived.Laws.EntriesVeiled
namespace Go.Proofs.YtgddmegjncbndaaGreatDoor
open Go Go.RowKit
def errAt (L : Lex) : Nat → Int
  | 0 => vowelsErr L.vowels
  | 1 => traitsErr L.traits
  | 2 => classesErr L.traits L.classes
  | 3 => entriesErr L.traits L.classes L.entries
  | 4 => spellsErr L.spells
  | 5 => linksErr L.traits L.classes L.links
  | _ => 0
def checkErr (L : Lex) : Int := errOf 6 (errAt L)
theorem errOf_zero {n : Nat} {f : Nat → Int} (h : errOf n f = 0) : ∀ i, i < n → f i = 0 := by
  intro i hi
  induction i using Nat.strongRecOn with
  | ind i ih =>
    by_cases e : f i = 0
    · exact e
    · rw [errOf_at hi (fun j hj => ih j hj (by omega)) e] at h
      exact absurd h e
theorem classes_short {T : List Tra} {C : List Cla} (h : classesErr T C = 0) : ∀ c ∈ C, ∀ s ∈ c.slots, s.fs.length ≤ 8 := by
  intro c hc s hs
  unfold classesErr at h
  split at h
  · cases h
  obtain ⟨i, hi, rfl⟩ := List.getElem_of_mem hc
  have h1 := errOf_zero h i hi
  rw [classErr_at hi] at h1
  split at h1
  · cases h1
  split at h1
  · cases h1
  split at h1
  · cases h1
  split at h1
  · cases h1
  obtain ⟨j, hj, rfl⟩ := List.getElem_of_mem hs
  have h2 := errOf_zero h1 j hj
  unfold slotsErr at h2
  rw [List.getElem?_eq_getElem hj] at h2
  simp only [slotErr] at h2
  split at h2
  · cases h2
  · exact bundle_short h2
set_option maxRecDepth 100000 in
set_option maxHeartbeats 8000000 in
theorem check_any (L : Lex) (w : World) (hL : LexAt w L) :
    Calls Tryz.prog 10 #[L.val] w fun e w' => e = .returned (.int .u8 (checkErr L)) ∧ Below w.heap.size w w' := by
  obtain ⟨p1, c1, p2, c2, p3, c3, p4, c4, p5, c5, e1, e2, e3, e4, e5, _⟩ := lex_forms hL
  have HL := Lib.hid hL; clear hL
  have hval : L.val = .agg #[.string L.vowels, .slice p1 L.traits.length c1, .slice p2 L.classes.length c2, .slice p3 L.entries.length c3, .slice p4 L.spells.length c4, .slice p5 L.links.length c5] := by unfold Lex.val; rw [e1, e2, e3, e4, e5]
  have HVAL := Lib.hid hval
  have HO := Lib.hid (show boxed L = .cells #[.string L.vowels, .slice p1 L.traits.length c1, .slice p2 L.classes.length c2, .slice p3 L.entries.length c3, .slice p4 L.spells.length c4, .slice p5 L.links.length c5] 28 by unfold boxed; rw [e1, e2, e3, e4, e5])
  rw [hval]
  clear hval
  have ag := Tryz.isAgg28
  have zg := Tryz.sizeOf28
  have ag6 := Tryz.isAgg81
  have zg6 := Tryz.sizeOf81
  have agf := Tryz.isAgg33
  have zgf := Tryz.sizeOf33
  have hse : w.heap.size + 1 = (w.alloc (.cells #[.string L.vowels, .slice p1 L.traits.length c1, .slice p2 L.classes.length c2, .slice p3 L.entries.length c3, .slice p4 L.spells.length c4, .slice p5 L.links.length c5] 28)).heap.size := by simp
  have g0 : ((w.alloc (.cells #[.string L.vowels, .slice p1 L.traits.length c1, .slice p2 L.classes.length c2, .slice p3 L.entries.length c3, .slice p4 L.spells.length c4, .slice p5 L.links.length c5] 28)).alloc (.cells #[.nilFunc, .nilFunc, .nilFunc, .nilFunc, .nilFunc, .nilFunc] 81)).cell? ⟨w.heap.size + 1, 0, none⟩ = some .nilFunc := by rw [hse, World.cell?_alloc_new]; rfl
  have h0 : ((w.alloc (.cells #[.string L.vowels, .slice p1 L.traits.length c1, .slice p2 L.classes.length c2, .slice p3 L.entries.length c3, .slice p4 L.spells.length c4, .slice p5 L.links.length c5] 28)).alloc (.cells #[.nilFunc, .nilFunc, .nilFunc, .nilFunc, .nilFunc, .nilFunc] 81)).frozen? ⟨w.heap.size + 1, 0, none⟩ = false := by rw [hse, World.frozen?_alloc_new]
  have g1 : ((w.alloc (.cells #[.string L.vowels, .slice p1 L.traits.length c1, .slice p2 L.classes.length c2, .slice p3 L.entries.length c3, .slice p4 L.spells.length c4, .slice p5 L.links.length c5] 28)).alloc (.cells #[.nilFunc, .nilFunc, .nilFunc, .nilFunc, .nilFunc, .nilFunc] 81)).cell? ⟨w.heap.size + 1, 1, none⟩ = some .nilFunc := by rw [hse, World.cell?_alloc_new]; rfl
  have h1 : ((w.alloc (.cells #[.string L.vowels, .slice p1 L.traits.length c1, .slice p2 L.classes.length c2, .slice p3 L.entries.length c3, .slice p4 L.spells.length c4, .slice p5 L.links.length c5] 28)).alloc (.cells #[.nilFunc, .nilFunc, .nilFunc, .nilFunc, .nilFunc, .nilFunc] 81)).frozen? ⟨w.heap.size + 1, 1, none⟩ = false := by rw [hse, World.frozen?_alloc_new]
  have g2 : ((w.alloc (.cells #[.string L.vowels, .slice p1 L.traits.length c1, .slice p2 L.classes.length c2, .slice p3 L.entries.length c3, .slice p4 L.spells.length c4, .slice p5 L.links.length c5] 28)).alloc (.cells #[.nilFunc, .nilFunc, .nilFunc, .nilFunc, .nilFunc, .nilFunc] 81)).cell? ⟨w.heap.size + 1, 2, none⟩ = some .nilFunc := by rw [hse, World.cell?_alloc_new]; rfl
  have h2 : ((w.alloc (.cells #[.string L.vowels, .slice p1 L.traits.length c1, .slice p2 L.classes.length c2, .slice p3 L.entries.length c3, .slice p4 L.spells.length c4, .slice p5 L.links.length c5] 28)).alloc (.cells #[.nilFunc, .nilFunc, .nilFunc, .nilFunc, .nilFunc, .nilFunc] 81)).frozen? ⟨w.heap.size + 1, 2, none⟩ = false := by rw [hse, World.frozen?_alloc_new]
  have g3 : ((w.alloc (.cells #[.string L.vowels, .slice p1 L.traits.length c1, .slice p2 L.classes.length c2, .slice p3 L.entries.length c3, .slice p4 L.spells.length c4, .slice p5 L.links.length c5] 28)).alloc (.cells #[.nilFunc, .nilFunc, .nilFunc, .nilFunc, .nilFunc, .nilFunc] 81)).cell? ⟨w.heap.size + 1, 3, none⟩ = some .nilFunc := by rw [hse, World.cell?_alloc_new]; rfl
  have h3 : ((w.alloc (.cells #[.string L.vowels, .slice p1 L.traits.length c1, .slice p2 L.classes.length c2, .slice p3 L.entries.length c3, .slice p4 L.spells.length c4, .slice p5 L.links.length c5] 28)).alloc (.cells #[.nilFunc, .nilFunc, .nilFunc, .nilFunc, .nilFunc, .nilFunc] 81)).frozen? ⟨w.heap.size + 1, 3, none⟩ = false := by rw [hse, World.frozen?_alloc_new]
  have g4 : ((w.alloc (.cells #[.string L.vowels, .slice p1 L.traits.length c1, .slice p2 L.classes.length c2, .slice p3 L.entries.length c3, .slice p4 L.spells.length c4, .slice p5 L.links.length c5] 28)).alloc (.cells #[.nilFunc, .nilFunc, .nilFunc, .nilFunc, .nilFunc, .nilFunc] 81)).cell? ⟨w.heap.size + 1, 4, none⟩ = some .nilFunc := by rw [hse, World.cell?_alloc_new]; rfl
  have h4 : ((w.alloc (.cells #[.string L.vowels, .slice p1 L.traits.length c1, .slice p2 L.classes.length c2, .slice p3 L.entries.length c3, .slice p4 L.spells.length c4, .slice p5 L.links.length c5] 28)).alloc (.cells #[.nilFunc, .nilFunc, .nilFunc, .nilFunc, .nilFunc, .nilFunc] 81)).frozen? ⟨w.heap.size + 1, 4, none⟩ = false := by rw [hse, World.frozen?_alloc_new]
  have g5 : ((w.alloc (.cells #[.string L.vowels, .slice p1 L.traits.length c1, .slice p2 L.classes.length c2, .slice p3 L.entries.length c3, .slice p4 L.spells.length c4, .slice p5 L.links.length c5] 28)).alloc (.cells #[.nilFunc, .nilFunc, .nilFunc, .nilFunc, .nilFunc, .nilFunc] 81)).cell? ⟨w.heap.size + 1, 5, none⟩ = some .nilFunc := by rw [hse, World.cell?_alloc_new]; rfl
  have h5 : ((w.alloc (.cells #[.string L.vowels, .slice p1 L.traits.length c1, .slice p2 L.classes.length c2, .slice p3 L.entries.length c3, .slice p4 L.spells.length c4, .slice p5 L.links.length c5] 28)).alloc (.cells #[.nilFunc, .nilFunc, .nilFunc, .nilFunc, .nilFunc, .nilFunc] 81)).frozen? ⟨w.heap.size + 1, 5, none⟩ = false := by rw [hse, World.frozen?_alloc_new]
  clear hse
  have nx0 : ∀ w' : World, (Instr.index 81 (.agg #[.func (.func 34) #[] #[], .func (.func 35) #[] #[], .func (.func 36) #[] #[], .func (.func 37) #[] #[], .func (.func 38) #[] #[], .func (.func 39) #[] #[]]) (.int .i64 0)).run Tryz.prog w' = .ok (.func (.func 34) #[] #[]) w' := fun w' => by kernel_rfl
  have nx1 : ∀ w' : World, (Instr.index 81 (.agg #[.func (.func 34) #[] #[], .func (.func 35) #[] #[], .func (.func 36) #[] #[], .func (.func 37) #[] #[], .func (.func 38) #[] #[], .func (.func 39) #[] #[]]) (.int .i64 1)).run Tryz.prog w' = .ok (.func (.func 35) #[] #[]) w' := fun w' => by kernel_rfl
  have nx2 : ∀ w' : World, (Instr.index 81 (.agg #[.func (.func 34) #[] #[], .func (.func 35) #[] #[], .func (.func 36) #[] #[], .func (.func 37) #[] #[], .func (.func 38) #[] #[], .func (.func 39) #[] #[]]) (.int .i64 2)).run Tryz.prog w' = .ok (.func (.func 36) #[] #[]) w' := fun w' => by kernel_rfl
  have nx3 : ∀ w' : World, (Instr.index 81 (.agg #[.func (.func 34) #[] #[], .func (.func 35) #[] #[], .func (.func 36) #[] #[], .func (.func 37) #[] #[], .func (.func 38) #[] #[], .func (.func 39) #[] #[]]) (.int .i64 3)).run Tryz.prog w' = .ok (.func (.func 37) #[] #[]) w' := fun w' => by kernel_rfl
  have nx4 : ∀ w' : World, (Instr.index 81 (.agg #[.func (.func 34) #[] #[], .func (.func 35) #[] #[], .func (.func 36) #[] #[], .func (.func 37) #[] #[], .func (.func 38) #[] #[], .func (.func 39) #[] #[]]) (.int .i64 4)).run Tryz.prog w' = .ok (.func (.func 38) #[] #[]) w' := fun w' => by kernel_rfl
  have nx5 : ∀ w' : World, (Instr.index 81 (.agg #[.func (.func 34) #[] #[], .func (.func 35) #[] #[], .func (.func 36) #[] #[], .func (.func 37) #[] #[], .func (.func 38) #[] #[], .func (.func 39) #[] #[]]) (.int .i64 5)).run Tryz.prog w' = .ok (.func (.func 39) #[] #[]) w' := fun w' => by kernel_rfl
  go_enter Tryz.func10, Tryz.ntmps10
  go_wp2
  go_loopw [9] (fun i wr => ∃ k : Nat, k ≤ 6 ∧ i = .int .i64 k ∧ (∀ j, j < k → errAt L j = 0) ∧ Below (w.alloc (boxed L)).heap.size (w.alloc (boxed L)) wr) (fun i _ => 6 - (intOf i).toNat)
  case atStart => exact ⟨0, by omega, rfl, fun i h => by omega, by rw [HO.out]; repeat (first | exact Below.refl _ _ | exact (Below.refl _ _).alloc (Nat.le_refl _) _ | refine Below.setCell ?_ (by simp) _)⟩
  case round =>
    obtain ⟨k, hk, rfl, hq, hB⟩ := hrel
    have HQ := Lib.hid hq; clear hq
    have HB := Lib.hid hB; clear hB
    rename World => wr
    have HW := Lib.hid ((below_one w (boxed L)).trans (HB.out.mono (by simp)))
    have HLr := Lib.hid (HL.out.step HW.out)
    have b0 : wr.cell? ⟨w.heap.size, 0, none⟩ = some (.string L.vowels) := by rw [boxed_at w L HB.out 0]; rfl
    have b1 : wr.cell? ⟨w.heap.size, 1, none⟩ = some (.slice p1 L.traits.length c1) := by rw [boxed_at w L HB.out 1, e1]; rfl
    have b2 : wr.cell? ⟨w.heap.size, 2, none⟩ = some (.slice p2 L.classes.length c2) := by rw [boxed_at w L HB.out 2, e2]; rfl
    have b3 : wr.cell? ⟨w.heap.size, 3, none⟩ = some (.slice p3 L.entries.length c3) := by rw [boxed_at w L HB.out 3, e3]; rfl
    have b4 : wr.cell? ⟨w.heap.size, 4, none⟩ = some (.slice p4 L.spells.length c4) := by rw [boxed_at w L HB.out 4, e4]; rfl
    have b5 : wr.cell? ⟨w.heap.size, 5, none⟩ = some (.slice p5 L.links.length c5) := by rw [boxed_at w L HB.out 5, e5]; rfl
    have hcase : k = 0 ∨ k = 1 ∨ k = 2 ∨ k = 3 ∨ k = 4 ∨ k = 5 ∨ k = 6 := by omega
    rcases hcase with rfl | rfl | rfl | rfl | rfl | rfl | rfl
    · have HC := Lib.hid (HVAL.out ▸ checkVowels_any L wr HLr.out)
      by_cases hz : vowelsErr L.vowels = 0
      · have HX := Lib.hid (show errAt L 0 = 0 from hz)
        go_wp2_with (go_at_call 34; refine HC.out.mono ?_; rintro e w2 ⟨rfl, hb2⟩; have HB2 := Lib.hid (HB.out.trans (hb2.mono HB.out.size)); clear hb2)
        go_roundw
        case rel => exact ⟨1, by omega, by go_num, below_succ HQ.out HX.out, HB2.out⟩
        case measure => simp [intOf]
      · have HX := Lib.hid (show errAt L 0 ≠ 0 from hz)
        go_wp2_with (go_at_call 34; refine HC.out.mono ?_; rintro e w2 ⟨rfl, hb2⟩; have HB2 := Lib.hid (HW.out.trans (hb2.mono HW.out.size)); clear hb2)
        go_ret
        exact ⟨ret_i (by unfold checkErr; rw [errOf_at (k := 0) (by omega) HQ.out HX.out]; rfl), HB2.out⟩
    · have HC := Lib.hid (HVAL.out ▸ checkTraits_any L wr HLr.out)
      by_cases hz : traitsErr L.traits = 0
      · have HX := Lib.hid (show errAt L 1 = 0 from hz)
        go_wp2_with (go_at_call 35; refine HC.out.mono ?_; rintro e w2 ⟨rfl, hb2⟩; have HB2 := Lib.hid (HB.out.trans (hb2.mono HB.out.size)); clear hb2)
        go_roundw
        case rel => exact ⟨2, by omega, by go_num, below_succ HQ.out HX.out, HB2.out⟩
        case measure => simp [intOf]
      · have HX := Lib.hid (show errAt L 1 ≠ 0 from hz)
        go_wp2_with (go_at_call 35; refine HC.out.mono ?_; rintro e w2 ⟨rfl, hb2⟩; have HB2 := Lib.hid (HW.out.trans (hb2.mono HW.out.size)); clear hb2)
        go_ret
        exact ⟨ret_i (by unfold checkErr; rw [errOf_at (k := 1) (by omega) HQ.out HX.out]; rfl), HB2.out⟩
    · have HC := Lib.hid (HVAL.out ▸ checkClasses_any L wr HLr.out)
      by_cases hz : classesErr L.traits L.classes = 0
      · have HX := Lib.hid (show errAt L 2 = 0 from hz)
        go_wp2_with (go_at_call 36; refine HC.out.mono ?_; rintro e w2 ⟨rfl, hb2⟩; have HB2 := Lib.hid (HB.out.trans (hb2.mono HB.out.size)); clear hb2)
        go_roundw
        case rel => exact ⟨3, by omega, by go_num, below_succ HQ.out HX.out, HB2.out⟩
        case measure => simp [intOf]
      · have HX := Lib.hid (show errAt L 2 ≠ 0 from hz)
        go_wp2_with (go_at_call 36; refine HC.out.mono ?_; rintro e w2 ⟨rfl, hb2⟩; have HB2 := Lib.hid (HW.out.trans (hb2.mono HW.out.size)); clear hb2)
        go_ret
        exact ⟨ret_i (by unfold checkErr; rw [errOf_at (k := 2) (by omega) HQ.out HX.out]; rfl), HB2.out⟩
    · have HC := Lib.hid (HVAL.out ▸ checkEntries_any L wr HLr.out (fun c hc s hs => Nat.le_trans (classes_short (HQ.out 2 (by omega)) c hc s hs) (by omega)))
      by_cases hz : entriesErr L.traits L.classes L.entries = 0
      · have HX := Lib.hid (show errAt L 3 = 0 from hz)
        go_wp2_with (go_at_call 37; refine HC.out.mono ?_; rintro e w2 ⟨rfl, hb2⟩; have HB2 := Lib.hid (HB.out.trans (hb2.mono HB.out.size)); clear hb2)
        go_roundw
        case rel => exact ⟨4, by omega, by go_num, below_succ HQ.out HX.out, HB2.out⟩
        case measure => simp [intOf]
      · have HX := Lib.hid (show errAt L 3 ≠ 0 from hz)
        go_wp2_with (go_at_call 37; refine HC.out.mono ?_; rintro e w2 ⟨rfl, hb2⟩; have HB2 := Lib.hid (HW.out.trans (hb2.mono HW.out.size)); clear hb2)
        go_ret
        exact ⟨ret_i (by unfold checkErr; rw [errOf_at (k := 3) (by omega) HQ.out HX.out]; rfl), HB2.out⟩
    · have HC := Lib.hid (HVAL.out ▸ checkSpells_any L wr HLr.out)
      by_cases hz : spellsErr L.spells = 0
      · have HX := Lib.hid (show errAt L 4 = 0 from hz)
        go_wp2_with (go_at_call 38; refine HC.out.mono ?_; rintro e w2 ⟨rfl, hb2⟩; have HB2 := Lib.hid (HB.out.trans (hb2.mono HB.out.size)); clear hb2)
        go_roundw
        case rel => exact ⟨5, by omega, by go_num, below_succ HQ.out HX.out, HB2.out⟩
        case measure => simp [intOf]
      · have HX := Lib.hid (show errAt L 4 ≠ 0 from hz)
        go_wp2_with (go_at_call 38; refine HC.out.mono ?_; rintro e w2 ⟨rfl, hb2⟩; have HB2 := Lib.hid (HW.out.trans (hb2.mono HW.out.size)); clear hb2)
        go_ret
        exact ⟨ret_i (by unfold checkErr; rw [errOf_at (k := 4) (by omega) HQ.out HX.out]; rfl), HB2.out⟩
    · have HC := Lib.hid (HVAL.out ▸ checkLinks_any L wr HLr.out)
      by_cases hz : linksErr L.traits L.classes L.links = 0
      · have HX := Lib.hid (show errAt L 5 = 0 from hz)
        go_wp2_with (go_at_call 39; refine HC.out.mono ?_; rintro e w2 ⟨rfl, hb2⟩; have HB2 := Lib.hid (HB.out.trans (hb2.mono HB.out.size)); clear hb2)
        go_roundw
        case rel => exact ⟨6, by omega, by go_num, below_succ HQ.out HX.out, HB2.out⟩
        case measure => simp [intOf]
      · have HX := Lib.hid (show errAt L 5 ≠ 0 from hz)
        go_wp2_with (go_at_call 39; refine HC.out.mono ?_; rintro e w2 ⟨rfl, hb2⟩; have HB2 := Lib.hid (HW.out.trans (hb2.mono HW.out.size)); clear hb2)
        go_ret
        exact ⟨ret_i (by unfold checkErr; rw [errOf_at (k := 5) (by omega) HQ.out HX.out]; rfl), HB2.out⟩
    · go_wp2
      go_ret
      exact ⟨ret_i (by unfold checkErr; rw [errOf_none fun j hj => HQ.out j hj]), HW.out⟩
/-- A bundle of a lexicon: the lexicon's first error, then the bundle's. -/
def bundleOf (L : Lex) (b : List Ft) : Int := if checkErr L = 0 then bundleErr L.traits b else checkErr L
set_option maxRecDepth 100000 in
set_option maxHeartbeats 2000000 in
theorem bundle_any (L : Lex) (b : List Ft) (bv : Value) (w : World) (hL : LexAt w L) (hb : ReadsIn w.heap.size w bv b) :
    Calls Tryz.prog 12 #[L.val, bv] w fun e w' => e = .returned (.int .u8 (bundleOf L b)) ∧ Below w.heap.size w w' := by
  obtain ⟨p1, c1, p2, c2, p3, c3, p4, c4, p5, c5, e1, e2, e3, e4, e5, _⟩ := lex_forms hL
  have HL := Lib.hid hL; clear hL
  have HBV := Lib.hid hb; clear hb
  have hval : L.val = .agg #[.string L.vowels, .slice p1 L.traits.length c1, .slice p2 L.classes.length c2, .slice p3 L.entries.length c3, .slice p4 L.spells.length c4, .slice p5 L.links.length c5] := by unfold Lex.val; rw [e1, e2, e3, e4, e5]
  have hO : boxed L = .cells #[.string L.vowels, .slice p1 L.traits.length c1, .slice p2 L.classes.length c2, .slice p3 L.entries.length c3, .slice p4 L.spells.length c4, .slice p5 L.links.length c5] 28 := by unfold boxed; rw [e1, e2, e3, e4, e5]
  have HW := Lib.hid (below_one w (boxed L))
  have HC := Lib.hid (hval ▸ hO ▸ check_any L (w.alloc (boxed L)) (HL.out.step HW.out))
  have HO := Lib.hid hO
  rw [hval]
  clear hval hO
  have ag := Tryz.isAgg28
  have zg := Tryz.sizeOf28
  by_cases hz : checkErr L = 0
  · have HX := Lib.hid (show bundleOf L b = bundleErr L.traits b from if_pos hz)
    go_enter Tryz.func12, Tryz.ntmps12
    go_wp2_with (first
      | (go_at_call 10; refine HC.out.mono ?_; rintro e w2 ⟨rfl, hb2⟩; rw [← HO.out] at hb2; have HB2 := Lib.hid (HW.out.trans (hb2.mono HW.out.size)); have b1 := (show w2.cell? ⟨w.heap.size, 1, none⟩ = some (.slice p1 L.traits.length c1) by rw [boxed_at w L hb2 1, e1]; rfl); clear hb2; have HCB := Lib.hid (checkBundle_any L.traits b _ _ w2 (e1 ▸ HL.out.tras.step HB2.out) (reads_step HB2.out HBV.out)))
      | (go_at_call 46; refine HCB.out.mono ?_; rintro e w3 ⟨rfl, hb3⟩; have HB3 := Lib.hid (HB2.out.trans (hb3.mono HB2.out.size)); clear hb3))
    go_ret
    exact ⟨ret_i HX.out, HB3.out⟩
  · have HX := Lib.hid (show bundleOf L b = checkErr L from if_neg hz)
    go_enter Tryz.func12, Tryz.ntmps12
    go_wp2_with (go_at_call 10; refine HC.out.mono ?_; rintro e w2 ⟨rfl, hb2⟩; rw [← HO.out] at hb2; have HB2 := Lib.hid (HW.out.trans (hb2.mono HW.out.size)); clear hb2)
    go_ret
    exact ⟨ret_i HX.out, HB2.out⟩
end Go.Proofs.YtgddmegjncbndaaGreatDoor
