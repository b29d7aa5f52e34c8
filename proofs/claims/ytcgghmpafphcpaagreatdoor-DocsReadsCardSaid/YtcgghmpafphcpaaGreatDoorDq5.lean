/- Write by the specification; the guard on sizes; and the law over any list of pieces, given that its examples are true. -/
import Derived.Test.YtcgghmpafphcpaaGreatDoorDq4
namespace Go.Proofs.YtcgghmpafphcpaaGreatDoor
open Go Go.RowKit
set_option maxRecDepth 100000
set_option maxHeartbeats 4000000 in
theorem refWrite_any (l : List Pc) (v : Value) (w : World) (hv : PcsAt w v l) (hb : bulk l ≤ 10000) :
    Calls Tryz.prog 9 #[v] w fun e w' => e = .returned (.tuple #[.string (bytes (writeB l)), .int .u8 (writeE l)]) ∧ Below w.heap.size w w' := by
  have cC := refCheck_any l v w hv (by omega)
  have HEB := Lib.hid (show writeB l = if checkE l ≠ 0 then [] else if 65536 < (formB l).length then [] else formB l from rfl)
  have HEE := Lib.hid (show writeE l = if checkE l ≠ 0 then checkE l else if 65536 < (formB l).length then 3 else 0 from rfl)
  have hlen := formB_length l
  by_cases hE : checkE l = 0
  · have hall := all_valid hE
    have HH := Lib.hid hE
    rw [hE] at cC
    clear hE
    have cA := fun w1 (h1 : Below w.heap.size w w1) => form_any l v w1 (hv.step h1) hb hall
    have hbs := bytes_size (formB l)
    by_cases hbig : 65536 < (formB l).length
    · exfalso; omega
    · have hI : ¬ (65536 : Int) < ((formB l).length : Int) := by omega
      have hbb := Lib.hid hbig
      clear hbig
      rw [← hbs] at hI
      go_enter Tryz.func9, Tryz.ntmps9
      go_wp2_with (first
        | (go_at_call 11; (with_reducible refine cC.mono ?_); rintro e w1 ⟨rfl, hb1⟩)
        | (go_at_call 26; (with_reducible refine (cA w1 hb1).mono ?_); rintro e w2 ⟨rfl, hb2⟩; have HB2 := Lib.hid (below_next hb1 hb2); clear hb1 hb2))
      go_ret2
      exact ⟨by rw [HEB.out, HEE.out]; simp [HH.out, hbb.out], HB2.out⟩
  · generalize hZ : checkE l = Z at cC HEB HEE hE
    have hz : (Z == 0) = false := by simpa using hE
    have HZ := Lib.hid hE
    clear hE hZ
    go_enter Tryz.func9, Tryz.ntmps9
    go_wp2_with (go_at_call 11; (with_reducible refine cC.mono ?_); rintro e w1 ⟨rfl, hb1⟩)
    go_ret2
    exact ⟨by rw [HEB.out, HEE.out]; simp [HZ.out]; rfl, hb1⟩
/-- the guard's count when the first k texts have been added -/
def cnt (l : List Pc) (k : Nat) : Nat := l.length + ((l.take k).map fun x => x.s.size).sum
theorem cnt_zero (l : List Pc) : cnt l 0 = l.length := by simp [cnt]
theorem cnt_succ (l : List Pc) (k : Nat) (hk : k < l.length) : cnt l (k + 1) = cnt l k + (l.getD k nil).s.size := by
  unfold cnt
  rw [take_succ_getD l k hk]
  simp only [List.map_append, List.sum_append, List.map_cons, List.map_nil, List.sum_cons, List.sum_nil, Nat.add_zero]
  omega
theorem cnt_all (l : List Pc) : cnt l l.length = bulk l := by unfold cnt bulk; rw [List.take_length]
def LongEnd (l : List Pc) (e : Ending) : Prop := ∃ b, e = .returned (.bool b) ∧ (b = false → bulk l ≤ 2500)
def LongAt (l : List Pc) (n i : Value) : Prop := (n = .int .i64 0 ∧ i = .int .i64 0) ∨ (i = .int .i64 1 ∧ ∃ m : Nat, n = .int .i64 m ∧ (m = bulk l ∨ 5000 ≤ m) ∧ m ≤ 500000000000000)
set_option maxHeartbeats 8000000 in
theorem long_any (l : List Pc) (v : Value) (g : Nat) (w : World) (hG : w.cell? ⟨g, 0, none⟩ = some v) (hv : PcsAt w v l) (hsz : ∀ x ∈ l, x.s.size ≤ 140737488355328) (hll : l.length ≤ 140737488355328) :
    Calls Tryz.prog 6 #[.slice (some ⟨g, 0, none⟩) 1 1] w fun e w' => LongEnd l e ∧ w' = w := by
  obtain ⟨p, cap, rfl, hl, hc, hrow⟩ := hv
  unfold maxLen at hc
  have ag := Tryz.isAgg39
  have zg := Tryz.sizeOf39
  have HR := Lib.hid hrow
  have HSZ := Lib.hid hsz
  clear hrow hsz
  go_enter Tryz.func6, Tryz.ntmps6
  go_wp2
  go_loop [3, 4] (fun n i => LongAt l n i) (fun _ i => 1 - (intOf i).toNat)
  case atStart => exact .inl ⟨rfl, rfl⟩
  case round =>
    rcases hrel with ⟨rfl, rfl⟩ | ⟨rfl, m, rfl, hm, hmb⟩
    · go_wp2
      go_loop [3, 5] (fun n k => ∃ j : Nat, j ≤ l.length ∧ k = .int .i64 j ∧ n = .int .i64 (cnt l j) ∧ Hid (cnt l j ≤ 500000000000000)) (fun _ k => l.length - (intOf k).toNat)
      case atStart => exact ⟨0, Nat.zero_le _, rfl, by rw [cnt_zero], by show _ ≤ _; rw [cnt_zero]; omega⟩
      case round =>
        obtain ⟨j, hj, rfl, rfl, HN⟩ := hrel
        by_cases hlt : j < l.length
        · by_cases h5 : cnt l j < 5000
          · obtain ⟨A, rfl, hA, hcell⟩ := HR.out (by omega)
            obtain ⟨x0, x1, x2⟩ := pcs_cells hA hcell hlt (Below.refl _ w)
            have hcs := cnt_succ l j hlt
            have hsb := HSZ.out _ (getD_mem hlt)
            clear hcell x0 x2
            generalize l.getD j nil = x at x1 hcs hsb
            have h5i : (cnt l j : Int) < 5000 := by omega
            have HCS := Lib.hid hcs
            clear hcs
            generalize cnt l j = q at h5 h5i HCS
            go_wp2
            go_round
            case rel => exact ⟨j + 1, by omega, by go_num, by rw [HCS.out]; go_num, by show _ ≤ _; rw [HCS.out]; omega⟩
            case measure => simp [intOf]; omega
          · have h5i : ¬ (cnt l j : Int) < 5000 := by omega
            have HM := Lib.hid (show LongAt l (.int .i64 (cnt l j)) (.int .i64 1) from .inr ⟨rfl, cnt l j, rfl, .inr (by omega), HN.out⟩)
            obtain ⟨A, rfl, hA, hcell⟩ := HR.out (by omega)
            clear hcell
            generalize cnt l j = q at h5 h5i HM
            go_wp2
            go_round
            case rel => exact HM.out
            case measure => simp [intOf]
        · have hjl : j = l.length := by omega
          have HM := Lib.hid (show LongAt l (.int .i64 (cnt l j)) (.int .i64 1) from .inr ⟨rfl, cnt l j, rfl, .inl (by rw [hjl, cnt_all]), HN.out⟩)
          generalize cnt l j = q at HM
          go_wp2
          go_round
          case rel => exact HM.out
          case measure => simp [intOf]
    · have HM := Lib.hid hm
      clear hm
      go_wp2
      go_ret
      exact ⟨⟨_, rfl, fun h => by simp at h; rcases HM.out with h' | h' <;> omega⟩, rfl⟩
set_option maxHeartbeats 8000000 in
theorem pieces_calls (l : List Pc) (v : Value) (w : World) (hv : PcsAt w v l) (hsz : ∀ x ∈ l, x.s.size ≤ 140737488355328) (hll : l.length ≤ 140737488355328) (hT : Tabs w) (hN : Nts w)
    (hR : ∀ w', Below w.heap.size w w' → Calls Tryz.prog 7 #[] w' fun e w'' => e = .returned (.bool true) ∧ Below w'.heap.size w' w'') :
    Calls Tryz.prog 3 #[v] w fun e w' => e = .returned (.bool true) ∧ Below w.heap.size w w' := by
  have HB1 := Lib.hid (below_box (w := w) (.cells #[v] 22))
  have hv1 := hv.step HB1.out
  have cL := long_any l v w.heap.size (w.alloc (.cells #[v] 22)) (by rw [Lib.cell_of_heap (heap_alloc_new w _)]; rfl) hv1 hsz hll
  have cR1 := hR _ HB1.out
  obtain ⟨p, cap, rfl, hl, hc, _⟩ := id hv
  by_cases hb : bulk l ≤ 2500
  · have cW1 := write_any l _ (w.alloc (.cells #[.slice p l.length cap] 22)) hv1 (by omega) (hT.step HB1.out) (hN.step HB1.out)
    have cW2 := fun wr (h : Below w.heap.size w wr) => refWrite_any l _ wr (hv.step h) (by omega)
    have cC1 := fun wr (h : Below w.heap.size w wr) => checkPieces_any l _ wr (hv.step h) (short_mem (by omega)) (hT.step h)
    have cC2 := fun wr (h : Below w.heap.size w wr) => refCheck_any l _ wr (hv.step h) (by omega)
    have cP1 := fun wr (h : Below w.heap.size w wr) => plain_any l _ wr (hv.step h) (by omega)
    have cP2 := fun wr (h : Below w.heap.size w wr) => refPlain_any l _ wr (hv.step h) (by omega)
    clear hv1 hb hT hN
    go_enter Tryz.func3, Tryz.ntmps3
    go_wp2_with (first
      | (go_at_call 6; (with_reducible refine cL.mono ?_); rintro e w1 ⟨⟨b, rfl, _⟩, hw⟩; obtain rfl := hw.symm; cases b)
      | (go_at_call 8; (with_reducible refine cW1.mono ?_); rintro e w2 ⟨rfl, hb2⟩; have HB2 := Lib.hid (below_next HB1.out hb2); clear hb2)
      | (go_at_call 9; (with_reducible refine (cW2 _ HB2.out).mono ?_); rintro e w3 ⟨rfl, hb3⟩; have HB3 := Lib.hid (below_next HB2.out hb3); clear hb3)
      | (go_at_call 10; (with_reducible refine (cC1 _ HB3.out).mono ?_); rintro e w4 ⟨rfl, hb4⟩; have HB4 := Lib.hid (below_next HB3.out hb4); clear hb4)
      | (go_at_call 11; (with_reducible refine (cC2 _ HB4.out).mono ?_); rintro e w5 ⟨rfl, hb5⟩; have HB5 := Lib.hid (below_next HB4.out hb5); clear hb5)
      | (go_at_call 12; (with_reducible refine (cP1 _ HB5.out).mono ?_); rintro e w6 ⟨rfl, hb6⟩; have HB6 := Lib.hid (below_next HB5.out hb6); clear hb6)
      | (go_at_call 13; (with_reducible refine (cP2 _ HB6.out).mono ?_); rintro e w7 ⟨rfl, hw⟩; obtain rfl := hw.symm)
      | (go_at_call 7; (with_reducible refine (hR _ HB6.out).mono ?_); rintro e w8 ⟨rfl, hb8⟩; have HB8 := Lib.hid (below_next HB6.out hb8); clear hb8)
      | (go_at_call 7; (with_reducible refine cR1.mono ?_); rintro e w8 ⟨rfl, hb8⟩; have HB8 := Lib.hid (below_next HB1.out hb8); clear hb8))
    all_goals
      go_ret
      exact ⟨rfl, HB8.out⟩
  · go_enter Tryz.func3, Tryz.ntmps3
    go_wp2_with (first
      | (go_at_call 6; (with_reducible refine cL.mono ?_); rintro e w1 ⟨⟨b, rfl, hbb⟩, hw⟩; obtain rfl := hw.symm; obtain rfl : b = true := (by cases b; exact absurd (hbb rfl) hb; rfl); clear hbb)
      | (go_at_call 7; (with_reducible refine cR1.mono ?_); rintro e w8 ⟨rfl, hb8⟩; have HB8 := Lib.hid (below_next HB1.out hb8); clear hb8))
    go_ret
    exact ⟨rfl, HB8.out⟩
end Go.Proofs.YtcgghmpafphcpaaGreatDoor
