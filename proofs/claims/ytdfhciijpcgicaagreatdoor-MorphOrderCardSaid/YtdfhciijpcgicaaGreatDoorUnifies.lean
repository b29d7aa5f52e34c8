/- MorphUnifies returns true for any two lists of features, in every world that the row speaks of: what the program makes of two lists, and whether one subsumes the other, is what the specification tells; the layer's examples are a closed run. No condition but the row's own. -/
import Derived.Test.YtdfhciijpcgicaaGreatDoorOpen
import Derived.Test.YtdfhciijpcgicaaGreatDoorLives
namespace Go.Proofs.YtdfhciijpcgicaaGreatDoor
open Go Go.Eng Go.ChangeShapes Go.WideShapes Go.ChangeAt Go.ChangeMaps Go.RowKit
theorem step_in {w w' : World} {B : Nat} {v : Value} {l : List Ft} (hb : Below w.heap.size w w') (h : ReadsIn w.heap.size w v l) (hB : B = w'.heap.size) : ReadsIn B w' v l := by
  subst hB
  exact readsIn_mono hb.size (readsIn_below hb h)
theorem below_trans {w w1 w2 : World} (h : Below w.heap.size w w1) (h' : Below w1.heap.size w1 w2) : Below w.heap.size w w2 :=
  h.trans (h'.mono h.size)
theorem below_drew (w : World) (n : Nat) : Below w.heap.size w (w.drewN n) := below_drewN n (Below.refl _ _)
set_option maxRecDepth 100000 in
set_option maxHeartbeats 2000000 in
theorem unifies_calls (u v : Value) (l m : List Ft) (w : World) (h : ReadsIn w.heap.size w u l) (h' : ReadsIn w.heap.size w v m) (hw : 8 ≤ w.heap.size) :
    Calls Tryz.prog 4 #[u, v] w fun e w' => e = .returned (.bool true) ∧ Below w.heap.size w w' := by
  by_cases hlen : l.length ≤ 100 ∧ m.length ≤ 100
  · obtain ⟨hl, hm⟩ := hlen
    obtain ⟨p, capA, rfl, hcA, hmA, _⟩ := open_in h
    obtain ⟨q, capB, rfl, hcB, hmB, _⟩ := open_in h'
    have HU := Lib.hid h; clear h
    have HV := Lib.hid h'; clear h'
    have HW := Lib.hid hw; clear hw
    have hl' : ¬ (100 : Int) < (l.length : Int) := by omega
    have hm' : ¬ (100 : Int) < (m.length : Int) := by omega
    cases hun : unify l m with
    | none =>
      cases hsub : subs l m
      all_goals
        have HN := Lib.hid hun
        go_enter Tryz.func4, Tryz.ntmps4
        go_wp2_with (first
          | (go_at_call 15; refine (unify_any _ _ l m w hl hm HU.out HV.out).mono ?_; rintro e w1 ⟨hb1, ⟨_, rfl⟩ | ⟨r, v1, h1, _, _⟩⟩; rotate_left; exact absurd (HN.out.symm.trans h1) (by simp); have HB1 := Lib.hid hb1; clear hb1; have HU1 := Lib.hid (step_in HB1.out HU.out rfl); have HV1 := Lib.hid (step_in HB1.out HV.out rfl))
          | (go_at_call 16; refine (refUnify_any _ _ l m w1 hl hm HU1.out HV1.out).mono ?_; rintro e w2 ⟨hb2, ⟨_, rfl⟩ | ⟨r, v1, h1, _, _⟩⟩; rotate_left; exact absurd (HN.out.symm.trans h1) (by simp); have HB2 := Lib.hid (below_trans HB1.out hb2); clear hb2)
          | (go_at_call 17; refine (same_any (l := []) (m := []) w2 (.inl ⟨rfl, rfl⟩) (.inl ⟨rfl, rfl⟩)).mono ?_; rintro e w3 ⟨rfl, n3, rfl⟩; have HB3 := Lib.hid (below_trans HB2.out (below_drew w2 n3)); have HU3 := Lib.hid (step_in HB3.out HU.out rfl); have HV3 := Lib.hid (step_in HB3.out HV.out rfl))
          | (go_at_call 18; refine (subsumes_any _ HU3.out HV3.out).mono ?_; rintro e w4 ⟨rfl, hb4⟩; have HB4 := Lib.hid (below_trans HB3.out hb4); clear hb4)
          | (go_at_call 19; refine (refSubsumes_any w4 (reads_of_in (step_in HB4.out HU.out rfl)) (reads_of_in (step_in HB4.out HV.out rfl))).mono ?_; rintro e w5 ⟨rfl, n5, rfl⟩; have HB5 := Lib.hid (below_trans HB4.out (below_drew w4 n5)))
          | (go_at_call 8; refine (lives_calls _ (Nat.le_trans HW.out HB5.out.size)).mono ?_; rintro e w6 ⟨rfl, hb6⟩; have HB6 := Lib.hid (below_trans HB5.out hb6); clear hb6))
        go_ret
        exact ⟨rfl, HB6.out⟩
    | some r0 =>
      cases hsub : subs l m
      all_goals
        have HN := Lib.hid hun
        go_enter Tryz.func4, Tryz.ntmps4
        go_wp2_with (first
          | (go_at_call 15; refine (unify_any _ _ l m w hl hm HU.out HV.out).mono ?_; rintro e w1 ⟨hb1, ⟨h1, _⟩ | ⟨r, v1, h1, rfl, ho1⟩⟩; exact absurd (HN.out.symm.trans h1) (by simp); obtain rfl : r0 = r := Option.some.inj (HN.out.symm.trans h1); have HB1 := Lib.hid hb1; clear hb1; have HU1 := Lib.hid (step_in HB1.out HU.out rfl); have HV1 := Lib.hid (step_in HB1.out HV.out rfl); have HO1 := Lib.hid (reads_owned ho1); clear ho1)
          | (go_at_call 16; refine (refUnify_any _ _ l m w1 hl hm HU1.out HV1.out).mono ?_; rintro e w2 ⟨hb2, ⟨h1, _⟩ | ⟨r, v2, h1, rfl, ho2⟩⟩; exact absurd (HN.out.symm.trans h1) (by simp); obtain rfl : r0 = r := Option.some.inj (HN.out.symm.trans h1); have HB2 := Lib.hid (below_trans HB1.out hb2); have HO12 := Lib.hid (step_in hb2 HO1.out rfl); have HO2 := Lib.hid (reads_owned ho2); clear hb2 ho2)
          | (go_at_call 17; refine (same_any (l := r0) (m := r0) w2 (reads_of_in HO12.out) (reads_of_in HO2.out)).mono ?_; rintro e w3 ⟨rfl, n3, rfl⟩; have HB3 := Lib.hid (below_trans HB2.out (below_drew w2 n3)); have HU3 := Lib.hid (step_in HB3.out HU.out rfl); have HV3 := Lib.hid (step_in HB3.out HV.out rfl))
          | (go_at_call 18; refine (subsumes_any _ HU3.out HV3.out).mono ?_; rintro e w4 ⟨rfl, hb4⟩; have HB4 := Lib.hid (below_trans HB3.out hb4); clear hb4)
          | (go_at_call 19; refine (refSubsumes_any w4 (reads_of_in (step_in HB4.out HU.out rfl)) (reads_of_in (step_in HB4.out HV.out rfl))).mono ?_; rintro e w5 ⟨rfl, n5, rfl⟩; have HB5 := Lib.hid (below_trans HB4.out (below_drew w4 n5)))
          | (go_at_call 8; refine (lives_calls _ (Nat.le_trans HW.out HB5.out.size)).mono ?_; rintro e w6 ⟨rfl, hb6⟩; have HB6 := Lib.hid (below_trans HB5.out hb6); clear hb6))
        go_ret
        exact ⟨rfl, HB6.out⟩
  · have hor : 100 < l.length ∨ (¬ 100 < l.length ∧ 100 < m.length) := by omega
    have HW := Lib.hid hw; clear hw hlen
    rcases hor with hl | ⟨hl, hm⟩
    · replace hl : (100 : Int) < (l.length : Int) := by omega
      obtain ⟨p, capA, rfl, hcA, hmA, _⟩ := open_in h
      obtain ⟨q, capB, rfl, hcB, hmB, _⟩ := open_in h'
      go_enter Tryz.func4, Tryz.ntmps4
      go_wp2_with (go_at_call 8; refine (lives_calls _ HW.out).mono ?_; rintro e w' ⟨rfl, hb⟩)
      go_ret
      exact ⟨rfl, hb⟩
    · replace hl : ¬ (100 : Int) < (l.length : Int) := by omega
      replace hm : (100 : Int) < (m.length : Int) := by omega
      obtain ⟨p, capA, rfl, hcA, hmA, _⟩ := open_in h
      obtain ⟨q, capB, rfl, hcB, hmB, _⟩ := open_in h'
      go_enter Tryz.func4, Tryz.ntmps4
      go_wp2_with (go_at_call 8; refine (lives_calls _ HW.out).mono ?_; rintro e w' ⟨rfl, hb⟩)
      go_ret
      exact ⟨rfl, hb⟩
end Go.Proofs.YtdfhciijpcgicaaGreatDoor
