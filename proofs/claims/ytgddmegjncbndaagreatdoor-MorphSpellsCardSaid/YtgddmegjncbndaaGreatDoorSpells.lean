/- MorphSpells returns true for any lexicon, rule and string. -/
import Derived.Test.YtgddmegjncbndaaGreatDoorSp6
import Derived.Test.YtgddmegjncbndaaGreatDoorGreat2
import Derived.Test.YtgddmegjncbndaaGreatDoorLives
namespace Go.Proofs.YtgddmegjncbndaaGreatDoor
open Go Go.Eng Go.RowKit
set_option maxRecDepth 100000 in
set_option maxHeartbeats 8000000 in
theorem spells_calls (L : Lex) (rule : Int) (s : ByteArray) (w : World) (hL : LexAt w L) (hs : s.size ≤ maxLen) (hw : 8 ≤ w.heap.size) :
    Calls Tryz.prog 4 #[L.val, .int .i64 rule, .string s] w fun e w' => e = .returned (.bool true) ∧ Below w.heap.size w w' := by
  obtain ⟨p1, c1, p2, c2, p3, c3, p4, c4, p5, c5, e1, e2, e3, e4, e5, hc1, hm1, hc2, hm2, hc3, hm3, hc4, hm4, hc5, hm5⟩ := lex_forms hL
  have HL := Lib.hid hL; clear hL
  have hval : L.val = .agg #[.string L.vowels, .slice p1 L.traits.length c1, .slice p2 L.classes.length c2, .slice p3 L.entries.length c3, .slice p4 L.spells.length c4, .slice p5 L.links.length c5] := by unfold Lex.val; rw [e1, e2, e3, e4, e5]
  have HVAL := Lib.hid hval
  have HO := Lib.hid (show boxed L = .cells #[.string L.vowels, .slice p1 L.traits.length c1, .slice p2 L.classes.length c2, .slice p3 L.entries.length c3, .slice p4 L.spells.length c4, .slice p5 L.links.length c5] 28 by unfold boxed; rw [e1, e2, e3, e4, e5])
  rw [hval]
  clear hval
  have ag := Tryz.isAgg28
  have zg := Tryz.sizeOf28
  have HWS := Lib.hid hw; clear hw
  unfold maxLen at hs
  have HW0 := Lib.hid (below_one w (boxed L))
  have HG0 := Lib.hid (HVAL.out ▸ HO.out ▸ great_any L (w.alloc (boxed L)) (HL.out.step HW0.out))
  by_cases h1000 : (1000 : Int) < (s.size : Int)
  · go_enter Tryz.func4, Tryz.ntmps4
    go_wp2_with (first | (go_at_call 8; refine (HG0.out).mono ?_; rintro e w1 ⟨⟨g, rfl⟩, hb1⟩; rw [← HO.out] at hb1; have HB1 := Lib.hid hb1; have HW1 := Lib.hid (HW0.out.trans (hb1.mono HW0.out.size)); clear hb1; have x0 := (show w1.cell? ⟨w.heap.size, 0, none⟩ = some (.string L.vowels) by rw [boxed_at w L HB1.out 0]; rfl); have x1 := (show w1.cell? ⟨w.heap.size, 1, none⟩ = some (.slice p1 L.traits.length c1) by rw [boxed_at w L HB1.out 1, e1]; rfl); have x2 := (show w1.cell? ⟨w.heap.size, 2, none⟩ = some (.slice p2 L.classes.length c2) by rw [boxed_at w L HB1.out 2, e2]; rfl); have x3 := (show w1.cell? ⟨w.heap.size, 3, none⟩ = some (.slice p3 L.entries.length c3) by rw [boxed_at w L HB1.out 3, e3]; rfl); have x4 := (show w1.cell? ⟨w.heap.size, 4, none⟩ = some (.slice p4 L.spells.length c4) by rw [boxed_at w L HB1.out 4, e4]; rfl); have x5 := (show w1.cell? ⟨w.heap.size, 5, none⟩ = some (.slice p5 L.links.length c5) by rw [boxed_at w L HB1.out 5, e5]; rfl); cases g) | (go_at_call 9; refine (lives_calls _ (Nat.le_trans HWS.out HW1.out.size)).mono ?_; rintro e w6 ⟨rfl, hb6⟩; have HB6 := Lib.hid (HW1.out.trans (hb6.mono HW1.out.size)); clear hb6))
    all_goals
      go_ret
      exact ⟨rfl, HB6.out⟩
  go_enter Tryz.func4, Tryz.ntmps4
  go_wp2_with (first
    | (go_at_call 8; refine (HG0.out).mono ?_; rintro e w1 ⟨⟨g, rfl⟩, hb1⟩; rw [← HO.out] at hb1; have HB1 := Lib.hid hb1; have HW1 := Lib.hid (HW0.out.trans (hb1.mono HW0.out.size)); clear hb1; have x0 := (show w1.cell? ⟨w.heap.size, 0, none⟩ = some (.string L.vowels) by rw [boxed_at w L HB1.out 0]; rfl); have x1 := (show w1.cell? ⟨w.heap.size, 1, none⟩ = some (.slice p1 L.traits.length c1) by rw [boxed_at w L HB1.out 1, e1]; rfl); have x2 := (show w1.cell? ⟨w.heap.size, 2, none⟩ = some (.slice p2 L.classes.length c2) by rw [boxed_at w L HB1.out 2, e2]; rfl); have x3 := (show w1.cell? ⟨w.heap.size, 3, none⟩ = some (.slice p3 L.entries.length c3) by rw [boxed_at w L HB1.out 3, e3]; rfl); have x4 := (show w1.cell? ⟨w.heap.size, 4, none⟩ = some (.slice p4 L.spells.length c4) by rw [boxed_at w L HB1.out 4, e4]; rfl); have x5 := (show w1.cell? ⟨w.heap.size, 5, none⟩ = some (.slice p5 L.links.length c5) by rw [boxed_at w L HB1.out 5, e5]; rfl); cases g)
    | (go_at_call 9; refine (lives_calls _ (Nat.le_trans HWS.out HW1.out.size)).mono ?_; rintro e w6 ⟨rfl, hb6⟩; have HB6 := Lib.hid (HW1.out.trans (hb6.mono HW1.out.size)); clear hb6)
    | (go_at_call 14; refine (HVAL.out ▸ spell_any L rule s w1 (HL.out.step HW1.out) (by omega)).mono ?_; rintro e w2 ⟨he, hb2⟩; obtain rfl : e = .returned (.tuple #[.string (spellOf L rule s).1, .int .u8 (spellOf L rule s).2]) := he; have HB2 := Lib.hid (HB1.out.trans (hb2.mono HB1.out.size)); have HW2 := Lib.hid (HW1.out.trans (hb2.mono HW1.out.size)); clear hb2; clear x0 x1 x2 x3 x4 x5; have x0 := (show w2.cell? ⟨w.heap.size, 0, none⟩ = some (.string L.vowels) by rw [boxed_at w L HB2.out 0]; rfl); have x1 := (show w2.cell? ⟨w.heap.size, 1, none⟩ = some (.slice p1 L.traits.length c1) by rw [boxed_at w L HB2.out 1, e1]; rfl); have x2 := (show w2.cell? ⟨w.heap.size, 2, none⟩ = some (.slice p2 L.classes.length c2) by rw [boxed_at w L HB2.out 2, e2]; rfl); have x3 := (show w2.cell? ⟨w.heap.size, 3, none⟩ = some (.slice p3 L.entries.length c3) by rw [boxed_at w L HB2.out 3, e3]; rfl); have x4 := (show w2.cell? ⟨w.heap.size, 4, none⟩ = some (.slice p4 L.spells.length c4) by rw [boxed_at w L HB2.out 4, e4]; rfl); have x5 := (show w2.cell? ⟨w.heap.size, 5, none⟩ = some (.slice p5 L.links.length c5) by rw [boxed_at w L HB2.out 5, e5]; rfl); skip)
    | (go_at_call 15; refine (HVAL.out ▸ refSpell_any L rule s w2 (HL.out.step HW2.out) (by omega)).mono ?_; rintro e w3 ⟨he, hb3⟩; obtain rfl : e = .returned (.tuple #[.string (spellOf L rule s).1, .int .u8 (spellOf L rule s).2]) := he; have HW3 := Lib.hid (HW2.out.trans (hb3.mono HW2.out.size)); clear hb3)
    | (go_at_call 9; refine (lives_calls _ (Nat.le_trans HWS.out HW3.out.size)).mono ?_; rintro e w6 ⟨rfl, hb6⟩; have HB6 := Lib.hid (HW3.out.trans (hb6.mono HW3.out.size)); clear hb6))
  all_goals
    go_ret
    exact ⟨rfl, HB6.out⟩
end Go.Proofs.YtgddmegjncbndaaGreatDoor
