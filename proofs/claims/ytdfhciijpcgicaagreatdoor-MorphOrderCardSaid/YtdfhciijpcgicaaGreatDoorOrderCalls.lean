/- MorphOrder's walk, whole. -/
import Derived.Test.YtdfhciijpcgicaaGreatDoorOrderW1
import Derived.Test.YtdfhciijpcgicaaGreatDoorOrderW2
import Derived.Test.YtdfhciijpcgicaaGreatDoorOrderW3
namespace Go.Proofs.YtdfhciijpcgicaaGreatDoor
open Go Go.Eng Go.ChangeShapes Go.WideShapes Go.ChangeAt Go.ChangeMaps Go.RowKit
set_option maxRecDepth 100000 in
theorem order_long1 (u v t : Value) (a b c : List Ft) (w : World) (h : ReadsIn w.heap.size w u a) (h' : ReadsIn w.heap.size w v b) (h'' : ReadsIn w.heap.size w t c) (hw : 8 ≤ w.heap.size) (l0 : (100 : Int) < (a.length : Int)) :
    Calls Tryz.prog 5 #[u, v, t] w fun e w' => e = .returned (.bool true) ∧ Below w.heap.size w w' := by
  obtain ⟨pu, capA, rfl, hcA, hmA, h1⟩ := open_in h
  obtain ⟨pv, capB, rfl, hcB, hmB, h2⟩ := open_in h'
  obtain ⟨pt, capC, rfl, hcC, hmC, h3⟩ := open_in h''
  clear h1 h2 h3 h h' h''
  have HW := Lib.hid hw; clear hw
  go_enter Tryz.func5, Tryz.ntmps5
  go_wp2_with (go_at_call 8; refine (lives_calls _ HW.out).mono ?_; rintro e w' ⟨rfl, hb⟩)
  go_ret
  exact ⟨rfl, hb⟩
set_option maxRecDepth 100000 in
theorem order_long2 (u v t : Value) (a b c : List Ft) (w : World) (h : ReadsIn w.heap.size w u a) (h' : ReadsIn w.heap.size w v b) (h'' : ReadsIn w.heap.size w t c) (hw : 8 ≤ w.heap.size) (l0 : ¬ (100 : Int) < (a.length : Int)) (l1 : (100 : Int) < (b.length : Int)) :
    Calls Tryz.prog 5 #[u, v, t] w fun e w' => e = .returned (.bool true) ∧ Below w.heap.size w w' := by
  obtain ⟨pu, capA, rfl, hcA, hmA, h1⟩ := open_in h
  obtain ⟨pv, capB, rfl, hcB, hmB, h2⟩ := open_in h'
  obtain ⟨pt, capC, rfl, hcC, hmC, h3⟩ := open_in h''
  clear h1 h2 h3 h h' h''
  have HW := Lib.hid hw; clear hw
  go_enter Tryz.func5, Tryz.ntmps5
  go_wp2_with (go_at_call 8; refine (lives_calls _ HW.out).mono ?_; rintro e w' ⟨rfl, hb⟩)
  go_ret
  exact ⟨rfl, hb⟩
set_option maxRecDepth 100000 in
theorem order_long3 (u v t : Value) (a b c : List Ft) (w : World) (h : ReadsIn w.heap.size w u a) (h' : ReadsIn w.heap.size w v b) (h'' : ReadsIn w.heap.size w t c) (hw : 8 ≤ w.heap.size) (l0 : ¬ (100 : Int) < (a.length : Int)) (l1 : ¬ (100 : Int) < (b.length : Int)) (l2 : (100 : Int) < (c.length : Int)) :
    Calls Tryz.prog 5 #[u, v, t] w fun e w' => e = .returned (.bool true) ∧ Below w.heap.size w w' := by
  obtain ⟨pu, capA, rfl, hcA, hmA, h1⟩ := open_in h
  obtain ⟨pv, capB, rfl, hcB, hmB, h2⟩ := open_in h'
  obtain ⟨pt, capC, rfl, hcC, hmC, h3⟩ := open_in h''
  clear h1 h2 h3 h h' h''
  have HW := Lib.hid hw; clear hw
  go_enter Tryz.func5, Tryz.ntmps5
  go_wp2_with (go_at_call 8; refine (lives_calls _ HW.out).mono ?_; rintro e w' ⟨rfl, hb⟩)
  go_ret
  exact ⟨rfl, hb⟩
theorem unify_odd {b c : List Ft} (hc : incr c = false) : unify b c = none := by
  unfold unify
  rw [hc]
  simp
theorem order_calls (u v t : Value) (a b c : List Ft) (w : World) (h : ReadsIn w.heap.size w u a) (h' : ReadsIn w.heap.size w v b) (h'' : ReadsIn w.heap.size w t c) (hw : 8 ≤ w.heap.size) :
    Calls Tryz.prog 5 #[u, v, t] w fun e w' => e = .returned (.bool true) ∧ Below w.heap.size w w' := by
  by_cases ha : a.length ≤ 100
  · by_cases hb : b.length ≤ 100
    · by_cases hc : c.length ≤ 100
      · cases hx : unify a b with
        | none => exact order_none u v t a b c w h h' h'' hw ha hb hc hx (by rw [unify_comm]; exact hx)
        | some xs =>
          have hy : unify b a = some xs := by rw [unify_comm]; exact hx
          obtain ⟨sa, sb⟩ := unify_subs hx
          have hass := unify_assoc (c := c) hx
          cases hi : incr c with
          | false => exact order_odd u v t a b c xs w h h' h'' hw ha hb hc hx hy sa sb (by rw [unify_nil, hi]; rfl) (unify_odd hi) (unify_odd hi)
          | true =>
            have hz : unify c [] = some c := by rw [unify_nil, hi]; rfl
            cases ta : subs a c with
            | false =>
              cases hq : unify b c with
              | none => exact order_00 u v t a b c xs w h h' h'' hw ha hb hc hx hy sa sb hz ta (by rw [hass, hq]; rfl) hq
              | some qs =>
                cases hr : unify a qs with
                | none => exact order_01 u v t a b c xs qs w h h' h'' hw ha hb hc hx hy sa sb hz ta (by rw [hass, hq]; exact hr) hq hr
                | some ps => exact order_02 u v t a b c xs qs ps w h h' h'' hw ha hb hc hx hy sa sb hz ta (by rw [hass, hq]; exact hr) hq hr
            | true =>
              cases tb : subs b c with
              | false =>
                cases hq : unify b c with
                | none => exact order_10 u v t a b c xs w h h' h'' hw ha hb hc hx hy sa sb hz ta tb (by rw [hass, hq]; rfl) hq
                | some qs =>
                  cases hr : unify a qs with
                  | none => exact order_11 u v t a b c xs qs w h h' h'' hw ha hb hc hx hy sa sb hz ta tb (by rw [hass, hq]; exact hr) hq hr
                  | some ps => exact order_12 u v t a b c xs qs ps w h h' h'' hw ha hb hc hx hy sa sb hz ta tb (by rw [hass, hq]; exact hr) hq hr
              | true =>
                have tx := unify_least hx ta tb
                cases hq : unify b c with
                | none => exact order_20 u v t a b c xs w h h' h'' hw ha hb hc hx hy sa sb hz ta tb tx (by rw [hass, hq]; rfl) hq
                | some qs =>
                  cases hr : unify a qs with
                  | none => exact order_21 u v t a b c xs qs w h h' h'' hw ha hb hc hx hy sa sb hz ta tb tx (by rw [hass, hq]; exact hr) hq hr
                  | some ps => exact order_22 u v t a b c xs qs ps w h h' h'' hw ha hb hc hx hy sa sb hz ta tb tx (by rw [hass, hq]; exact hr) hq hr
      · exact order_long3 u v t a b c w h h' h'' hw (by omega) (by omega) (by omega)
    · exact order_long2 u v t a b c w h h' h'' hw (by omega) (by omega)
  · exact order_long1 u v t a b c w h h' h'' hw (by omega)
end Go.Proofs.YtdfhciijpcgicaaGreatDoor
