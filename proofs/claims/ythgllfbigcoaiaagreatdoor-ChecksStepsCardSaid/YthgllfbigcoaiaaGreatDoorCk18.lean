/- The law ChecksSteps, where it asks nothing. -/
import Derived.Test.YthgllfbigcoaiaaGreatDoorCkG
import Derived.Test.YthgllfbigcoaiaaGreatDoorCkT
namespace Go.Proofs.YthgllfbigcoaiaaGreatDoor
open Go Go.RowKit Go.Lib
set_option maxRecDepth 100000
set_option maxHeartbeats 16000000 in
theorem steps_early (a b c : List ByteArray) (va vb vc : Value) (wd : ByteArray) (w : World) (ha : WdsAt w va a) (hb : WdsAt w vb b) (hc : WdsAt w vc c) (hwd : wd.size ≤ maxLen)
    (hbig : 39 < a.length ∨ 39 < b.length ∨ 39 < c.length ∨ 100 < wd.size)
    (hS : ∀ w', Below w.heap.size w w' → Calls Tryz.prog 11 #[] w' fun e w'' => e = .returned (.bool true) ∧ Below w'.heap.size w' w'') :
    Calls Tryz.prog 6 #[va, vb, vc, .string wd] w fun e w' => e = .returned (.bool true) ∧ Below w.heap.size w w' := by
  have HA := Lib.hid ha
  have HB := Lib.hid hb
  have HC := Lib.hid hc
  have HS := Lib.hid hS
  have HL := Lib.hid (lists_new w [(va, a), (vb, b), (vc, c)] 22 (by simp [ha, hb, hc]) (by simp))
  simp only [List.map_cons, List.map_nil, List.length_cons, List.length_nil, Nat.zero_add, Nat.reduceAdd] at HL
  have cM := fun w v h => many_any [(va, a), (vb, b), (vc, c)] v w h
  have hlenA := ha.len
  have hlenB := hb.len
  have hlenC := hc.len
  unfold maxLen at hlenA hlenB hlenC
  have hzA := Lib.hid ha.2
  have hzB := Lib.hid hb.2
  obtain ⟨⟨p, cap, rfl, hl, hcc, hrA⟩, hza⟩ := ha
  obtain ⟨⟨p2, cap2, rfl, hl2, hc2, hrB⟩, hzb⟩ := hb
  obtain ⟨⟨p3, cap3, rfl, hl3, hc3, hrC⟩, hzc⟩ := hc
  unfold maxLen at hcc hc2 hc3 hwd
  clear hS hrA hrB hrC hza hzb hzc
  by_cases i1 : (39 : Int) < (a.length : Int) <;> by_cases i2 : (39 : Int) < (b.length : Int) <;> by_cases i3 : (39 : Int) < (c.length : Int) <;> by_cases i4 : (100 : Int) < (wd.size : Int)
  all_goals first
    | (exfalso; omega)
    | (go_enter Tryz.func6, Tryz.ntmps6
       go_wp2_with (first
         | (go_at_call 10; (with_reducible refine (cM _ _ HL.out).mono ?_); rintro e w1 ⟨⟨B, rfl⟩, rfl⟩; cases B)
         | (go_at_call 11; (with_reducible refine (HS.out _ (below_box _)).mono ?_); rintro e w2 ⟨rfl, hb2⟩))
       all_goals
         go_ret
         exact ⟨rfl, below_next (below_box _) hb2⟩)
end Go.Proofs.YthgllfbigcoaiaaGreatDoor
