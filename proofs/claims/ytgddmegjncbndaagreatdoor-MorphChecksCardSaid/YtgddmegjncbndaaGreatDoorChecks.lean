/- MorphChecks returns true for any lexicon and any bundle. -/
import Derived.Test.YtgddmegjncbndaaGreatDoorRef6
import Derived.Test.YtgddmegjncbndaaGreatDoorGreat2
import Derived.Test.YtgddmegjncbndaaGreatDoorLives
namespace Go.Proofs.YtgddmegjncbndaaGreatDoor
open Go Go.Eng Go.RowKit
theorem box_cells {L : Lex} {w wr : World} {p1 p2 p3 p4 p5 : Option Addr} {n1 n2 n3 n4 n5 c1 c2 c3 c4 c5 : Nat} (hb : Below (w.alloc (boxed L)).heap.size (w.alloc (boxed L)) wr)
    (e1 : L.tv = .slice p1 n1 c1) (e2 : L.cv = .slice p2 n2 c2) (e3 : L.ev = .slice p3 n3 c3) (e4 : L.sv = .slice p4 n4 c4) (e5 : L.lv = .slice p5 n5 c5) :
    wr.cell? ⟨w.heap.size, 0, none⟩ = some (.string L.vowels) ∧ wr.cell? ⟨w.heap.size, 1, none⟩ = some (.slice p1 n1 c1) ∧ wr.cell? ⟨w.heap.size, 2, none⟩ = some (.slice p2 n2 c2) ∧ wr.cell? ⟨w.heap.size, 3, none⟩ = some (.slice p3 n3 c3) ∧ wr.cell? ⟨w.heap.size, 4, none⟩ = some (.slice p4 n4 c4) ∧ wr.cell? ⟨w.heap.size, 5, none⟩ = some (.slice p5 n5 c5) := by
  refine ⟨?_, ?_, ?_, ?_, ?_, ?_⟩
  · rw [boxed_at w L hb 0]; rfl
  · rw [boxed_at w L hb 1, e1]; rfl
  · rw [boxed_at w L hb 2, e2]; rfl
  · rw [boxed_at w L hb 3, e3]; rfl
  · rw [boxed_at w L hb 4, e4]; rfl
  · rw [boxed_at w L hb 5, e5]; rfl
set_option maxRecDepth 100000 in
set_option maxHeartbeats 8000000 in
theorem checks_calls (L : Lex) (b : List Ft) (bv : Value) (w : World) (hL : LexAt w L) (hb : ReadsIn w.heap.size w bv b) (hw : 8 ≤ w.heap.size) :
    Calls Tryz.prog 3 #[L.val, bv] w fun e w' => e = .returned (.bool true) ∧ Below w.heap.size w w' := by
  obtain ⟨p1, c1, p2, c2, p3, c3, p4, c4, p5, c5, e1, e2, e3, e4, e5, hc1, hm1, hc2, hm2, hc3, hm3, hc4, hm4, hc5, hm5⟩ := lex_forms hL
  have HL := Lib.hid hL; clear hL
  have hval : L.val = .agg #[.string L.vowels, .slice p1 L.traits.length c1, .slice p2 L.classes.length c2, .slice p3 L.entries.length c3, .slice p4 L.spells.length c4, .slice p5 L.links.length c5] := by unfold Lex.val; rw [e1, e2, e3, e4, e5]
  have HVAL := Lib.hid hval
  have HO := Lib.hid (show boxed L = .cells #[.string L.vowels, .slice p1 L.traits.length c1, .slice p2 L.classes.length c2, .slice p3 L.entries.length c3, .slice p4 L.spells.length c4, .slice p5 L.links.length c5] 28 by unfold boxed; rw [e1, e2, e3, e4, e5])
  rw [hval]
  clear hval
  have ag := Tryz.isAgg28
  have zg := Tryz.sizeOf28
  obtain ⟨q, capB, rfl, hcB, hmB, _⟩ := open_row hb
  unfold maxLen at hmB
  have HBV := Lib.hid hb; clear hb
  have HWS := Lib.hid hw; clear hw
  have HW0 := Lib.hid (below_one w (boxed L))
  have HG0 := Lib.hid (HVAL.out ▸ HO.out ▸ great_any L (w.alloc (boxed L)) (HL.out.step HW0.out))
  by_cases h100 : (100 : Int) < (b.length : Int)
  · go_enter Tryz.func3, Tryz.ntmps3
    go_wp2_with (first
      | (go_at_call 8; refine (HG0.out).mono ?_; rintro e w1 ⟨⟨g, rfl⟩, hb1⟩; rw [← HO.out] at hb1; have HW1 := Lib.hid (HW0.out.trans (hb1.mono HW0.out.size)); clear hb1; cases g)
      | (go_at_call 9; refine (lives_calls _ (Nat.le_trans HWS.out HW1.out.size)).mono ?_; rintro e w6 ⟨rfl, hb6⟩; have HB6 := Lib.hid (HW1.out.trans (hb6.mono HW1.out.size)); clear hb6))
    all_goals
      go_ret
      exact ⟨rfl, HB6.out⟩
  go_enter Tryz.func3, Tryz.ntmps3
  go_wp2_with (first
      | (go_at_call 8; refine (HG0.out).mono ?_; rintro e w1 ⟨⟨g, rfl⟩, hb1⟩; rw [← HO.out] at hb1; have HB1 := Lib.hid hb1; have HW1 := Lib.hid (HW0.out.trans (hb1.mono HW0.out.size)); clear hb1; have x0 := (show w1.cell? ⟨w.heap.size, 0, none⟩ = some (.string L.vowels) by rw [boxed_at w L HB1.out 0]; rfl); have x1 := (show w1.cell? ⟨w.heap.size, 1, none⟩ = some (.slice p1 L.traits.length c1) by rw [boxed_at w L HB1.out 1, e1]; rfl); have x2 := (show w1.cell? ⟨w.heap.size, 2, none⟩ = some (.slice p2 L.classes.length c2) by rw [boxed_at w L HB1.out 2, e2]; rfl); have x3 := (show w1.cell? ⟨w.heap.size, 3, none⟩ = some (.slice p3 L.entries.length c3) by rw [boxed_at w L HB1.out 3, e3]; rfl); have x4 := (show w1.cell? ⟨w.heap.size, 4, none⟩ = some (.slice p4 L.spells.length c4) by rw [boxed_at w L HB1.out 4, e4]; rfl); have x5 := (show w1.cell? ⟨w.heap.size, 5, none⟩ = some (.slice p5 L.links.length c5) by rw [boxed_at w L HB1.out 5, e5]; rfl); cases g)
      | (go_at_call 9; refine (lives_calls _ (Nat.le_trans HWS.out HW1.out.size)).mono ?_; rintro e w6 ⟨rfl, hb6⟩; have HB6 := Lib.hid (HW1.out.trans (hb6.mono HW1.out.size)); clear hb6))
  rotate_left
  · go_ret
    exact ⟨rfl, HB6.out⟩
  have HWD1 := Lib.hid (show Below w.heap.size w w1.drew from below_drewN 1 HW1.out)
  have HBD1 := Lib.hid (show Below (w.alloc (boxed L)).heap.size (w.alloc (boxed L)) w1.drew from below_drewN 1 HB1.out)
  go_region_held3 (fun w' => w'.cell? ⟨w.heap.size, 0, none⟩ = some (.string L.vowels) ∧ w'.cell? ⟨w.heap.size, 1, none⟩ = some (.slice p1 L.traits.length c1) ∧ w'.cell? ⟨w.heap.size, 2, none⟩ = some (.slice p2 L.classes.length c2) ∧ w'.cell? ⟨w.heap.size, 3, none⟩ = some (.slice p3 L.entries.length c3) ∧ w'.cell? ⟨w.heap.size, 4, none⟩ = some (.slice p4 L.spells.length c4) ∧ w'.cell? ⟨w.heap.size, 5, none⟩ = some (.slice p5 L.links.length c5))
      (first
        | go_keep
        | exact box_cells HB6.out e1 e2 e3 e4 e5
        | exact box_cells HB5.out e1 e2 e3 e4 e5
        | exact box_cells HB4.out e1 e2 e3 e4 e5
        | exact box_cells HB3.out e1 e2 e3 e4 e5
        | exact box_cells HB2.out e1 e2 e3 e4 e5)
      ((go_simp; first
        | (go_at_call 10; refine (HVAL.out ▸ check_any L _ (HL.out.step HWD1.out)).mono ?_; rintro e w2 ⟨rfl, hb2⟩; have HB2 := Lib.hid (HBD1.out.trans (hb2.mono HBD1.out.size)); have HW2 := Lib.hid (HWD1.out.trans (hb2.mono HWD1.out.size)); have HBD2 := Lib.hid HB2.out; have HWD2 := Lib.hid HW2.out; clear hb2)
        | (go_at_call 11; refine (HVAL.out ▸ refCheck_any L _ (HL.out.step HWD2.out)).mono ?_; rintro e w3 ⟨rfl, hb3⟩; have HB3 := Lib.hid (HBD2.out.trans (hb3.mono HBD2.out.size)); have HW3 := Lib.hid (HWD2.out.trans (hb3.mono HWD2.out.size)); have HBD3 := Lib.hid HB3.out; have HWD3 := Lib.hid HW3.out; clear hb3)
        | (go_at_call 12; refine (HVAL.out ▸ bundle_any L b _ _ (HL.out.step HWD3.out) (reads_step HWD3.out HBV.out)).mono ?_; rintro e w4 ⟨rfl, hb4⟩; have HB4 := Lib.hid (HBD3.out.trans (hb4.mono HBD3.out.size)); have HW4 := Lib.hid (HWD3.out.trans (hb4.mono HWD3.out.size)); have HBD4 := Lib.hid HB4.out; have HWD4 := Lib.hid HW4.out; clear hb4)
        | (go_at_call 13; refine (HVAL.out ▸ refBundle_of L b _ _ (HL.out.step HWD4.out) (reads_step HWD4.out HBV.out)).mono ?_; rintro e w5 ⟨rfl, hb5⟩; have HB5 := Lib.hid (HBD4.out.trans (hb5.mono HBD4.out.size)); have HW5 := Lib.hid (HWD4.out.trans (hb5.mono HWD4.out.size)); have HBD5 := Lib.hid HB5.out; have HWD5 := Lib.hid HW5.out; clear hb5)
        | (go_at_call 9; refine (lives_calls _ (Nat.le_trans HWS.out HW5.out.size)).mono ?_; rintro e w6 ⟨rfl, hb6⟩; have HW6 := Lib.hid (HWD5.out.trans (hb6.mono HWD5.out.size)); have HB6 := Lib.hid (HBD5.out.trans (hb6.mono HBD5.out.size)); clear hb6)))
  go_wp2
  go_ret
  exact ⟨rfl, HW6.out⟩
end Go.Proofs.YtgddmegjncbndaaGreatDoor
