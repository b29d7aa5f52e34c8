/- MorphOrder's walk, way by way. -/
import Derived.Test.YtdfhciijpcgicaaGreatDoorOrderParts
namespace Go.Proofs.YtdfhciijpcgicaaGreatDoor
open Go Go.Eng Go.ChangeShapes Go.WideShapes Go.ChangeAt Go.ChangeMaps Go.RowKit
set_option maxRecDepth 100000 in
set_option maxHeartbeats 2000000 in
theorem order_10 (u v t : Value) (a b c xs : List Ft) (w : World) (h : ReadsIn w.heap.size w u a) (h' : ReadsIn w.heap.size w v b) (h'' : ReadsIn w.heap.size w t c) (hw : 8 ≤ w.heap.size) (ha : a.length ≤ 100) (hb : b.length ≤ 100) (hc : c.length ≤ 100) (x : unify a b = some xs) (y : unify b a = some xs) (sa : subs a xs = true) (sb : subs b xs = true) (z : unify c [] = some c) (ta : subs a c = true) (tb : subs b c = false) (p : unify xs c = none) (q : unify b c = none) :
    Calls Tryz.prog 5 #[u, v, t] w fun e w' => e = .returned (.bool true) ∧ Below w.heap.size w w' := by
  obtain ⟨pu, capA, rfl, hcA, hmA, h1⟩ := open_in h
  obtain ⟨pv, capB, rfl, hcB, hmB, h2⟩ := open_in h'
  obtain ⟨pt, capC, rfl, hcC, hmC, h3⟩ := open_in h''
  clear h1 h2 h3
  have HU0 := Lib.hid h; clear h
  have HV0 := Lib.hid h'; clear h'
  have HT0 := Lib.hid h''; clear h''
  have HW := Lib.hid hw; clear hw
  have HB0 := Lib.hid (Below.refl w.heap.size w)
  have hxl : xs.length ≤ 200 := by have := unify_length x; omega
  have Hx := Lib.hid x; clear x
  have Hy := Lib.hid y; clear y
  have Hsa := Lib.hid sa; clear sa
  have Hsb := Lib.hid sb; clear sb
  have Hz := Lib.hid z; clear z
  have Hta := Lib.hid ta; clear ta
  have Htb := Lib.hid tb; clear tb
  have Hp := Lib.hid p; clear p
  have Hq := Lib.hid q; clear q
  have ha' : ¬ (100 : Int) < (a.length : Int) := by omega
  have hb' : ¬ (100 : Int) < (b.length : Int) := by omega
  have hc' : ¬ (100 : Int) < (c.length : Int) := by omega
  go_enter Tryz.func5, Tryz.ntmps5
  go_wp2_with fail
  go_wp2_with (go_at_call 15; ((with_reducible refine (wide_some (w := w) Hx.out HB0.out (by omega) HU0.out HV0.out).mono ?_); rintro e w1 ⟨x1, rfl, hb, hc, ho⟩; have HB1 := Lib.hid hb; clear hb; have HU1 := Lib.hid (step_in hc HU0.out rfl); have HV1 := Lib.hid (step_in hc HV0.out rfl); have HT1 := Lib.hid (step_in hc HT0.out rfl); have HX1 := Lib.hid ho; clear ho; clear hc))
  go_wp2_with (go_at_call 15; ((with_reducible refine (wide_some (w := w) Hy.out HB1.out (by omega) HV1.out HU1.out).mono ?_); rintro e w2 ⟨x2, rfl, hb, hc, ho⟩; have HB2 := Lib.hid hb; clear hb; have HU2 := Lib.hid (step_in hc HU1.out rfl); have HV2 := Lib.hid (step_in hc HV1.out rfl); have HT2 := Lib.hid (step_in hc HT1.out rfl); have HX2 := Lib.hid (step_in hc HX1.out rfl); have HY2 := Lib.hid ho; clear ho; clear hc))
  go_wp2_with (go_at_call 17; ((with_reducible refine (same_from (w := w) (r := xs) HB2.out (reads_of_in HX2.out) (reads_of_in HY2.out)).mono ?_); rintro e w3 ⟨rfl, hb, hc⟩; have HB3 := Lib.hid hb; clear hb; have HU3 := Lib.hid (step_in hc HU2.out rfl); have HV3 := Lib.hid (step_in hc HV2.out rfl); have HT3 := Lib.hid (step_in hc HT2.out rfl); have HX3 := Lib.hid (step_in hc HX2.out rfl); have HY3 := Lib.hid (step_in hc HY2.out rfl); clear hc))
  go_wp2_with (go_at_call 18; ((with_reducible refine (subs_from (w := w) HB3.out Hsa.out HU3.out HX3.out).mono ?_); rintro e w4 ⟨rfl, hb, hc⟩; have HB4 := Lib.hid hb; clear hb; have HU4 := Lib.hid (step_in hc HU3.out rfl); have HV4 := Lib.hid (step_in hc HV3.out rfl); have HT4 := Lib.hid (step_in hc HT3.out rfl); have HX4 := Lib.hid (step_in hc HX3.out rfl); have HY4 := Lib.hid (step_in hc HY3.out rfl); clear hc))
  go_wp2_with (go_at_call 18; ((with_reducible refine (subs_from (w := w) HB4.out Hsb.out HV4.out HX4.out).mono ?_); rintro e w5 ⟨rfl, hb, hc⟩; have HB5 := Lib.hid hb; clear hb; have HU5 := Lib.hid (step_in hc HU4.out rfl); have HV5 := Lib.hid (step_in hc HV4.out rfl); have HT5 := Lib.hid (step_in hc HT4.out rfl); have HX5 := Lib.hid (step_in hc HX4.out rfl); have HY5 := Lib.hid (step_in hc HY4.out rfl); clear hc))
  go_wp2_with (go_at_call 15; ((with_reducible refine (wide_some (w := w) Hz.out HB5.out (by simp; omega) HT5.out reads_nil).mono ?_); rintro e w6 ⟨x6, rfl, hb, hc, ho⟩; have HB6 := Lib.hid hb; clear hb; have HU6 := Lib.hid (step_in hc HU5.out rfl); have HV6 := Lib.hid (step_in hc HV5.out rfl); have HT6 := Lib.hid (step_in hc HT5.out rfl); have HX6 := Lib.hid (step_in hc HX5.out rfl); have HY6 := Lib.hid (step_in hc HY5.out rfl); have HZ6 := Lib.hid ho; clear ho; clear hc))
  go_wp2_with (go_at_call 18; ((with_reducible refine (subs_from (w := w) HB6.out Hta.out HU6.out HT6.out).mono ?_); rintro e w7 ⟨rfl, hb, hc⟩; have HB7 := Lib.hid hb; clear hb; have HU7 := Lib.hid (step_in hc HU6.out rfl); have HV7 := Lib.hid (step_in hc HV6.out rfl); have HT7 := Lib.hid (step_in hc HT6.out rfl); have HX7 := Lib.hid (step_in hc HX6.out rfl); have HY7 := Lib.hid (step_in hc HY6.out rfl); have HZ7 := Lib.hid (step_in hc HZ6.out rfl); clear hc))
  go_wp2_with (go_at_call 18; ((with_reducible refine (subs_from (w := w) HB7.out Htb.out HV7.out HT7.out).mono ?_); rintro e w8 ⟨rfl, hb, hc⟩; have HB8 := Lib.hid hb; clear hb; have HU8 := Lib.hid (step_in hc HU7.out rfl); have HV8 := Lib.hid (step_in hc HV7.out rfl); have HT8 := Lib.hid (step_in hc HT7.out rfl); have HX8 := Lib.hid (step_in hc HX7.out rfl); have HY8 := Lib.hid (step_in hc HY7.out rfl); have HZ8 := Lib.hid (step_in hc HZ7.out rfl); clear hc))
  go_wp2_with (go_at_call 15; ((with_reducible refine (wide_none (w := w) Hp.out HB8.out (by omega) HX8.out HT8.out).mono ?_); rintro e w9 ⟨rfl, hb, hc⟩; have HB9 := Lib.hid hb; clear hb; have HU9 := Lib.hid (step_in hc HU8.out rfl); have HV9 := Lib.hid (step_in hc HV8.out rfl); have HT9 := Lib.hid (step_in hc HT8.out rfl); have HX9 := Lib.hid (step_in hc HX8.out rfl); have HY9 := Lib.hid (step_in hc HY8.out rfl); have HZ9 := Lib.hid (step_in hc HZ8.out rfl); clear hc))
  go_wp2_with (go_at_call 15; ((with_reducible refine (wide_none (w := w) Hq.out HB9.out (by omega) HV9.out HT9.out).mono ?_); rintro e w10 ⟨rfl, hb, hc⟩; have HB10 := Lib.hid hb; clear hb; have HU10 := Lib.hid (step_in hc HU9.out rfl); have HV10 := Lib.hid (step_in hc HV9.out rfl); have HT10 := Lib.hid (step_in hc HT9.out rfl); have HX10 := Lib.hid (step_in hc HX9.out rfl); have HY10 := Lib.hid (step_in hc HY9.out rfl); have HZ10 := Lib.hid (step_in hc HZ9.out rfl); clear hc))
  go_wp2_with (go_at_call 8; ((refine (lives_calls _ (Nat.le_trans HW.out HB10.out.size)).mono ?_); rintro e w9 ⟨rfl, hb⟩; have HZ := Lib.hid (HB10.out.trans (hb.mono HB10.out.size)); clear hb))
  go_ret
  exact ⟨rfl, HZ.out⟩
set_option maxRecDepth 100000 in
set_option maxHeartbeats 2000000 in
theorem order_11 (u v t : Value) (a b c xs qs : List Ft) (w : World) (h : ReadsIn w.heap.size w u a) (h' : ReadsIn w.heap.size w v b) (h'' : ReadsIn w.heap.size w t c) (hw : 8 ≤ w.heap.size) (ha : a.length ≤ 100) (hb : b.length ≤ 100) (hc : c.length ≤ 100) (x : unify a b = some xs) (y : unify b a = some xs) (sa : subs a xs = true) (sb : subs b xs = true) (z : unify c [] = some c) (ta : subs a c = true) (tb : subs b c = false) (p : unify xs c = none) (q : unify b c = some qs) (r : unify a qs = none) :
    Calls Tryz.prog 5 #[u, v, t] w fun e w' => e = .returned (.bool true) ∧ Below w.heap.size w w' := by
  obtain ⟨pu, capA, rfl, hcA, hmA, h1⟩ := open_in h
  obtain ⟨pv, capB, rfl, hcB, hmB, h2⟩ := open_in h'
  obtain ⟨pt, capC, rfl, hcC, hmC, h3⟩ := open_in h''
  clear h1 h2 h3
  have HU0 := Lib.hid h; clear h
  have HV0 := Lib.hid h'; clear h'
  have HT0 := Lib.hid h''; clear h''
  have HW := Lib.hid hw; clear hw
  have HB0 := Lib.hid (Below.refl w.heap.size w)
  have hxl : xs.length ≤ 200 := by have := unify_length x; omega
  have hql : qs.length ≤ 200 := by have := unify_length q; omega
  have Hx := Lib.hid x; clear x
  have Hy := Lib.hid y; clear y
  have Hsa := Lib.hid sa; clear sa
  have Hsb := Lib.hid sb; clear sb
  have Hz := Lib.hid z; clear z
  have Hta := Lib.hid ta; clear ta
  have Htb := Lib.hid tb; clear tb
  have Hp := Lib.hid p; clear p
  have Hq := Lib.hid q; clear q
  have Hr := Lib.hid r; clear r
  have ha' : ¬ (100 : Int) < (a.length : Int) := by omega
  have hb' : ¬ (100 : Int) < (b.length : Int) := by omega
  have hc' : ¬ (100 : Int) < (c.length : Int) := by omega
  go_enter Tryz.func5, Tryz.ntmps5
  go_wp2_with fail
  go_wp2_with (go_at_call 15; ((with_reducible refine (wide_some (w := w) Hx.out HB0.out (by omega) HU0.out HV0.out).mono ?_); rintro e w1 ⟨x1, rfl, hb, hc, ho⟩; have HB1 := Lib.hid hb; clear hb; have HU1 := Lib.hid (step_in hc HU0.out rfl); have HV1 := Lib.hid (step_in hc HV0.out rfl); have HT1 := Lib.hid (step_in hc HT0.out rfl); have HX1 := Lib.hid ho; clear ho; clear hc))
  go_wp2_with (go_at_call 15; ((with_reducible refine (wide_some (w := w) Hy.out HB1.out (by omega) HV1.out HU1.out).mono ?_); rintro e w2 ⟨x2, rfl, hb, hc, ho⟩; have HB2 := Lib.hid hb; clear hb; have HU2 := Lib.hid (step_in hc HU1.out rfl); have HV2 := Lib.hid (step_in hc HV1.out rfl); have HT2 := Lib.hid (step_in hc HT1.out rfl); have HX2 := Lib.hid (step_in hc HX1.out rfl); have HY2 := Lib.hid ho; clear ho; clear hc))
  go_wp2_with (go_at_call 17; ((with_reducible refine (same_from (w := w) (r := xs) HB2.out (reads_of_in HX2.out) (reads_of_in HY2.out)).mono ?_); rintro e w3 ⟨rfl, hb, hc⟩; have HB3 := Lib.hid hb; clear hb; have HU3 := Lib.hid (step_in hc HU2.out rfl); have HV3 := Lib.hid (step_in hc HV2.out rfl); have HT3 := Lib.hid (step_in hc HT2.out rfl); have HX3 := Lib.hid (step_in hc HX2.out rfl); have HY3 := Lib.hid (step_in hc HY2.out rfl); clear hc))
  go_wp2_with (go_at_call 18; ((with_reducible refine (subs_from (w := w) HB3.out Hsa.out HU3.out HX3.out).mono ?_); rintro e w4 ⟨rfl, hb, hc⟩; have HB4 := Lib.hid hb; clear hb; have HU4 := Lib.hid (step_in hc HU3.out rfl); have HV4 := Lib.hid (step_in hc HV3.out rfl); have HT4 := Lib.hid (step_in hc HT3.out rfl); have HX4 := Lib.hid (step_in hc HX3.out rfl); have HY4 := Lib.hid (step_in hc HY3.out rfl); clear hc))
  go_wp2_with (go_at_call 18; ((with_reducible refine (subs_from (w := w) HB4.out Hsb.out HV4.out HX4.out).mono ?_); rintro e w5 ⟨rfl, hb, hc⟩; have HB5 := Lib.hid hb; clear hb; have HU5 := Lib.hid (step_in hc HU4.out rfl); have HV5 := Lib.hid (step_in hc HV4.out rfl); have HT5 := Lib.hid (step_in hc HT4.out rfl); have HX5 := Lib.hid (step_in hc HX4.out rfl); have HY5 := Lib.hid (step_in hc HY4.out rfl); clear hc))
  go_wp2_with (go_at_call 15; ((with_reducible refine (wide_some (w := w) Hz.out HB5.out (by simp; omega) HT5.out reads_nil).mono ?_); rintro e w6 ⟨x6, rfl, hb, hc, ho⟩; have HB6 := Lib.hid hb; clear hb; have HU6 := Lib.hid (step_in hc HU5.out rfl); have HV6 := Lib.hid (step_in hc HV5.out rfl); have HT6 := Lib.hid (step_in hc HT5.out rfl); have HX6 := Lib.hid (step_in hc HX5.out rfl); have HY6 := Lib.hid (step_in hc HY5.out rfl); have HZ6 := Lib.hid ho; clear ho; clear hc))
  go_wp2_with (go_at_call 18; ((with_reducible refine (subs_from (w := w) HB6.out Hta.out HU6.out HT6.out).mono ?_); rintro e w7 ⟨rfl, hb, hc⟩; have HB7 := Lib.hid hb; clear hb; have HU7 := Lib.hid (step_in hc HU6.out rfl); have HV7 := Lib.hid (step_in hc HV6.out rfl); have HT7 := Lib.hid (step_in hc HT6.out rfl); have HX7 := Lib.hid (step_in hc HX6.out rfl); have HY7 := Lib.hid (step_in hc HY6.out rfl); have HZ7 := Lib.hid (step_in hc HZ6.out rfl); clear hc))
  go_wp2_with (go_at_call 18; ((with_reducible refine (subs_from (w := w) HB7.out Htb.out HV7.out HT7.out).mono ?_); rintro e w8 ⟨rfl, hb, hc⟩; have HB8 := Lib.hid hb; clear hb; have HU8 := Lib.hid (step_in hc HU7.out rfl); have HV8 := Lib.hid (step_in hc HV7.out rfl); have HT8 := Lib.hid (step_in hc HT7.out rfl); have HX8 := Lib.hid (step_in hc HX7.out rfl); have HY8 := Lib.hid (step_in hc HY7.out rfl); have HZ8 := Lib.hid (step_in hc HZ7.out rfl); clear hc))
  go_wp2_with (go_at_call 15; ((with_reducible refine (wide_none (w := w) Hp.out HB8.out (by omega) HX8.out HT8.out).mono ?_); rintro e w9 ⟨rfl, hb, hc⟩; have HB9 := Lib.hid hb; clear hb; have HU9 := Lib.hid (step_in hc HU8.out rfl); have HV9 := Lib.hid (step_in hc HV8.out rfl); have HT9 := Lib.hid (step_in hc HT8.out rfl); have HX9 := Lib.hid (step_in hc HX8.out rfl); have HY9 := Lib.hid (step_in hc HY8.out rfl); have HZ9 := Lib.hid (step_in hc HZ8.out rfl); clear hc))
  go_wp2_with (go_at_call 15; ((with_reducible refine (wide_some (w := w) Hq.out HB9.out (by omega) HV9.out HT9.out).mono ?_); rintro e w10 ⟨x10, rfl, hb, hc, ho⟩; have HB10 := Lib.hid hb; clear hb; have HU10 := Lib.hid (step_in hc HU9.out rfl); have HV10 := Lib.hid (step_in hc HV9.out rfl); have HT10 := Lib.hid (step_in hc HT9.out rfl); have HX10 := Lib.hid (step_in hc HX9.out rfl); have HY10 := Lib.hid (step_in hc HY9.out rfl); have HZ10 := Lib.hid (step_in hc HZ9.out rfl); have HQ10 := Lib.hid ho; clear ho; clear hc))
  go_wp2_with (go_at_call 15; ((with_reducible refine (wide_none (w := w) Hr.out HB10.out (by omega) HU10.out HQ10.out).mono ?_); rintro e w11 ⟨rfl, hb, hc⟩; have HB11 := Lib.hid hb; clear hb; have HU11 := Lib.hid (step_in hc HU10.out rfl); have HV11 := Lib.hid (step_in hc HV10.out rfl); have HT11 := Lib.hid (step_in hc HT10.out rfl); have HX11 := Lib.hid (step_in hc HX10.out rfl); have HY11 := Lib.hid (step_in hc HY10.out rfl); have HZ11 := Lib.hid (step_in hc HZ10.out rfl); have HQ11 := Lib.hid (step_in hc HQ10.out rfl); clear hc))
  go_wp2_with (go_at_call 17; ((with_reducible refine (same_from (w := w) (r := []) HB11.out (reads_of_in (reads_nil (B := 0))) (reads_of_in (reads_nil (B := 0)))).mono ?_); rintro e w12 ⟨rfl, hb, hc⟩; have HB12 := Lib.hid hb; clear hb; have HU12 := Lib.hid (step_in hc HU11.out rfl); have HV12 := Lib.hid (step_in hc HV11.out rfl); have HT12 := Lib.hid (step_in hc HT11.out rfl); have HX12 := Lib.hid (step_in hc HX11.out rfl); have HY12 := Lib.hid (step_in hc HY11.out rfl); have HZ12 := Lib.hid (step_in hc HZ11.out rfl); have HQ12 := Lib.hid (step_in hc HQ11.out rfl); clear hc))
  go_wp2_with (go_at_call 8; ((refine (lives_calls _ (Nat.le_trans HW.out HB12.out.size)).mono ?_); rintro e w9 ⟨rfl, hb⟩; have HZ := Lib.hid (HB12.out.trans (hb.mono HB12.out.size)); clear hb))
  go_ret
  exact ⟨rfl, HZ.out⟩
set_option maxRecDepth 100000 in
set_option maxHeartbeats 2000000 in
theorem order_12 (u v t : Value) (a b c xs qs ps : List Ft) (w : World) (h : ReadsIn w.heap.size w u a) (h' : ReadsIn w.heap.size w v b) (h'' : ReadsIn w.heap.size w t c) (hw : 8 ≤ w.heap.size) (ha : a.length ≤ 100) (hb : b.length ≤ 100) (hc : c.length ≤ 100) (x : unify a b = some xs) (y : unify b a = some xs) (sa : subs a xs = true) (sb : subs b xs = true) (z : unify c [] = some c) (ta : subs a c = true) (tb : subs b c = false) (p : unify xs c = some ps) (q : unify b c = some qs) (r : unify a qs = some ps) :
    Calls Tryz.prog 5 #[u, v, t] w fun e w' => e = .returned (.bool true) ∧ Below w.heap.size w w' := by
  obtain ⟨pu, capA, rfl, hcA, hmA, h1⟩ := open_in h
  obtain ⟨pv, capB, rfl, hcB, hmB, h2⟩ := open_in h'
  obtain ⟨pt, capC, rfl, hcC, hmC, h3⟩ := open_in h''
  clear h1 h2 h3
  have HU0 := Lib.hid h; clear h
  have HV0 := Lib.hid h'; clear h'
  have HT0 := Lib.hid h''; clear h''
  have HW := Lib.hid hw; clear hw
  have HB0 := Lib.hid (Below.refl w.heap.size w)
  have hxl : xs.length ≤ 200 := by have := unify_length x; omega
  have hql : qs.length ≤ 200 := by have := unify_length q; omega
  have Hx := Lib.hid x; clear x
  have Hy := Lib.hid y; clear y
  have Hsa := Lib.hid sa; clear sa
  have Hsb := Lib.hid sb; clear sb
  have Hz := Lib.hid z; clear z
  have Hta := Lib.hid ta; clear ta
  have Htb := Lib.hid tb; clear tb
  have Hp := Lib.hid p; clear p
  have Hq := Lib.hid q; clear q
  have Hr := Lib.hid r; clear r
  have ha' : ¬ (100 : Int) < (a.length : Int) := by omega
  have hb' : ¬ (100 : Int) < (b.length : Int) := by omega
  have hc' : ¬ (100 : Int) < (c.length : Int) := by omega
  go_enter Tryz.func5, Tryz.ntmps5
  go_wp2_with fail
  go_wp2_with (go_at_call 15; ((with_reducible refine (wide_some (w := w) Hx.out HB0.out (by omega) HU0.out HV0.out).mono ?_); rintro e w1 ⟨x1, rfl, hb, hc, ho⟩; have HB1 := Lib.hid hb; clear hb; have HU1 := Lib.hid (step_in hc HU0.out rfl); have HV1 := Lib.hid (step_in hc HV0.out rfl); have HT1 := Lib.hid (step_in hc HT0.out rfl); have HX1 := Lib.hid ho; clear ho; clear hc))
  go_wp2_with (go_at_call 15; ((with_reducible refine (wide_some (w := w) Hy.out HB1.out (by omega) HV1.out HU1.out).mono ?_); rintro e w2 ⟨x2, rfl, hb, hc, ho⟩; have HB2 := Lib.hid hb; clear hb; have HU2 := Lib.hid (step_in hc HU1.out rfl); have HV2 := Lib.hid (step_in hc HV1.out rfl); have HT2 := Lib.hid (step_in hc HT1.out rfl); have HX2 := Lib.hid (step_in hc HX1.out rfl); have HY2 := Lib.hid ho; clear ho; clear hc))
  go_wp2_with (go_at_call 17; ((with_reducible refine (same_from (w := w) (r := xs) HB2.out (reads_of_in HX2.out) (reads_of_in HY2.out)).mono ?_); rintro e w3 ⟨rfl, hb, hc⟩; have HB3 := Lib.hid hb; clear hb; have HU3 := Lib.hid (step_in hc HU2.out rfl); have HV3 := Lib.hid (step_in hc HV2.out rfl); have HT3 := Lib.hid (step_in hc HT2.out rfl); have HX3 := Lib.hid (step_in hc HX2.out rfl); have HY3 := Lib.hid (step_in hc HY2.out rfl); clear hc))
  go_wp2_with (go_at_call 18; ((with_reducible refine (subs_from (w := w) HB3.out Hsa.out HU3.out HX3.out).mono ?_); rintro e w4 ⟨rfl, hb, hc⟩; have HB4 := Lib.hid hb; clear hb; have HU4 := Lib.hid (step_in hc HU3.out rfl); have HV4 := Lib.hid (step_in hc HV3.out rfl); have HT4 := Lib.hid (step_in hc HT3.out rfl); have HX4 := Lib.hid (step_in hc HX3.out rfl); have HY4 := Lib.hid (step_in hc HY3.out rfl); clear hc))
  go_wp2_with (go_at_call 18; ((with_reducible refine (subs_from (w := w) HB4.out Hsb.out HV4.out HX4.out).mono ?_); rintro e w5 ⟨rfl, hb, hc⟩; have HB5 := Lib.hid hb; clear hb; have HU5 := Lib.hid (step_in hc HU4.out rfl); have HV5 := Lib.hid (step_in hc HV4.out rfl); have HT5 := Lib.hid (step_in hc HT4.out rfl); have HX5 := Lib.hid (step_in hc HX4.out rfl); have HY5 := Lib.hid (step_in hc HY4.out rfl); clear hc))
  go_wp2_with (go_at_call 15; ((with_reducible refine (wide_some (w := w) Hz.out HB5.out (by simp; omega) HT5.out reads_nil).mono ?_); rintro e w6 ⟨x6, rfl, hb, hc, ho⟩; have HB6 := Lib.hid hb; clear hb; have HU6 := Lib.hid (step_in hc HU5.out rfl); have HV6 := Lib.hid (step_in hc HV5.out rfl); have HT6 := Lib.hid (step_in hc HT5.out rfl); have HX6 := Lib.hid (step_in hc HX5.out rfl); have HY6 := Lib.hid (step_in hc HY5.out rfl); have HZ6 := Lib.hid ho; clear ho; clear hc))
  go_wp2_with (go_at_call 18; ((with_reducible refine (subs_from (w := w) HB6.out Hta.out HU6.out HT6.out).mono ?_); rintro e w7 ⟨rfl, hb, hc⟩; have HB7 := Lib.hid hb; clear hb; have HU7 := Lib.hid (step_in hc HU6.out rfl); have HV7 := Lib.hid (step_in hc HV6.out rfl); have HT7 := Lib.hid (step_in hc HT6.out rfl); have HX7 := Lib.hid (step_in hc HX6.out rfl); have HY7 := Lib.hid (step_in hc HY6.out rfl); have HZ7 := Lib.hid (step_in hc HZ6.out rfl); clear hc))
  go_wp2_with (go_at_call 18; ((with_reducible refine (subs_from (w := w) HB7.out Htb.out HV7.out HT7.out).mono ?_); rintro e w8 ⟨rfl, hb, hc⟩; have HB8 := Lib.hid hb; clear hb; have HU8 := Lib.hid (step_in hc HU7.out rfl); have HV8 := Lib.hid (step_in hc HV7.out rfl); have HT8 := Lib.hid (step_in hc HT7.out rfl); have HX8 := Lib.hid (step_in hc HX7.out rfl); have HY8 := Lib.hid (step_in hc HY7.out rfl); have HZ8 := Lib.hid (step_in hc HZ7.out rfl); clear hc))
  go_wp2_with (go_at_call 15; ((with_reducible refine (wide_some (w := w) Hp.out HB8.out (by omega) HX8.out HT8.out).mono ?_); rintro e w9 ⟨x9, rfl, hb, hc, ho⟩; have HB9 := Lib.hid hb; clear hb; have HU9 := Lib.hid (step_in hc HU8.out rfl); have HV9 := Lib.hid (step_in hc HV8.out rfl); have HT9 := Lib.hid (step_in hc HT8.out rfl); have HX9 := Lib.hid (step_in hc HX8.out rfl); have HY9 := Lib.hid (step_in hc HY8.out rfl); have HZ9 := Lib.hid (step_in hc HZ8.out rfl); have HP9 := Lib.hid ho; clear ho; clear hc))
  go_wp2_with (go_at_call 15; ((with_reducible refine (wide_some (w := w) Hq.out HB9.out (by omega) HV9.out HT9.out).mono ?_); rintro e w10 ⟨x10, rfl, hb, hc, ho⟩; have HB10 := Lib.hid hb; clear hb; have HU10 := Lib.hid (step_in hc HU9.out rfl); have HV10 := Lib.hid (step_in hc HV9.out rfl); have HT10 := Lib.hid (step_in hc HT9.out rfl); have HX10 := Lib.hid (step_in hc HX9.out rfl); have HY10 := Lib.hid (step_in hc HY9.out rfl); have HZ10 := Lib.hid (step_in hc HZ9.out rfl); have HP10 := Lib.hid (step_in hc HP9.out rfl); have HQ10 := Lib.hid ho; clear ho; clear hc))
  go_wp2_with (go_at_call 15; ((with_reducible refine (wide_some (w := w) Hr.out HB10.out (by omega) HU10.out HQ10.out).mono ?_); rintro e w11 ⟨x11, rfl, hb, hc, ho⟩; have HB11 := Lib.hid hb; clear hb; have HU11 := Lib.hid (step_in hc HU10.out rfl); have HV11 := Lib.hid (step_in hc HV10.out rfl); have HT11 := Lib.hid (step_in hc HT10.out rfl); have HX11 := Lib.hid (step_in hc HX10.out rfl); have HY11 := Lib.hid (step_in hc HY10.out rfl); have HZ11 := Lib.hid (step_in hc HZ10.out rfl); have HP11 := Lib.hid (step_in hc HP10.out rfl); have HQ11 := Lib.hid (step_in hc HQ10.out rfl); have HR11 := Lib.hid ho; clear ho; clear hc))
  go_wp2_with (go_at_call 17; ((with_reducible refine (same_from (w := w) (r := ps) HB11.out (reads_of_in HP11.out) (reads_of_in HR11.out)).mono ?_); rintro e w12 ⟨rfl, hb, hc⟩; have HB12 := Lib.hid hb; clear hb; have HU12 := Lib.hid (step_in hc HU11.out rfl); have HV12 := Lib.hid (step_in hc HV11.out rfl); have HT12 := Lib.hid (step_in hc HT11.out rfl); have HX12 := Lib.hid (step_in hc HX11.out rfl); have HY12 := Lib.hid (step_in hc HY11.out rfl); have HZ12 := Lib.hid (step_in hc HZ11.out rfl); have HP12 := Lib.hid (step_in hc HP11.out rfl); have HQ12 := Lib.hid (step_in hc HQ11.out rfl); have HR12 := Lib.hid (step_in hc HR11.out rfl); clear hc))
  go_wp2_with (go_at_call 8; ((refine (lives_calls _ (Nat.le_trans HW.out HB12.out.size)).mono ?_); rintro e w9 ⟨rfl, hb⟩; have HZ := Lib.hid (HB12.out.trans (hb.mono HB12.out.size)); clear hb))
  go_ret
  exact ⟨rfl, HZ.out⟩
end Go.Proofs.YtdfhciijpcgicaaGreatDoor
