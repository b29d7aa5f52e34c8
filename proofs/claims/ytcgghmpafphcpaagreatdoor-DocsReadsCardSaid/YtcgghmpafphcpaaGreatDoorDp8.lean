/- The texts of a list of pieces, by a strings.Builder that the call has made itself. -/
import Derived.Test.YtcgghmpafphcpaaGreatDoorDp7
namespace Go.Proofs.YtcgghmpafphcpaaGreatDoor
open Go Go.RowKit Go.Shelf
set_option maxRecDepth 100000
theorem size_bld : (Tryz.prog.info? 67).map (·.size) = some 2 := by kernel_rfl
theorem lies_bld : liesAt Tryz.prog Tryz.prog.depth 67 (2 / Tryz.prog.cellsOf 67) 0 67 1 = true := by kernel_rfl
def BldIs (B b : Nat) (l : List UInt8) (w : World) : Prop := Lib.IsBuilder 67 5 B b (Lib.byteCells l) w
theorem copy_used (b : Nat) (w : World) (h0 : w.cell? ⟨b, 0, none⟩ = some (.pointer (some ⟨b, 0, none⟩))) :
    Calls Tryz.prog 66 #[.pointer (some ⟨b, 0, none⟩)] w fun e w' => e = .returned (.tuple #[]) ∧ w' = w := by
  obtain ⟨j, hj, _⟩ := Option.map_eq_some_iff.1 size_bld
  go_enter Tryz.func66, Tryz.ntmps66
  go_wp2
  rw [Lib.run_neq_ptr_same w _ Tryz.underlying65 hj]
  go_wp2
  go_end0
  exact ⟨rfl, rfl⟩
theorem copy_fresh (b : Nat) (w : World) (h0 : w.cell? ⟨b, 0, none⟩ = some (.pointer none)) (hsh : w.shape? b = some (67, 2)) (hfz : w.frozen? ⟨b, 0, none⟩ = false) :
    Calls Tryz.prog 66 #[.pointer (some ⟨b, 0, none⟩)] w fun e w' => e = .returned (.tuple #[]) ∧ w' = w.setCell ⟨b, 0, none⟩ (.pointer (some ⟨b, 0, none⟩)) := by
  obtain ⟨j, hj, hjs⟩ := Option.map_eq_some_iff.1 size_bld
  have h1 := Lib.run_to_unsafe (P := Tryz.prog) w ⟨b, 0, none⟩ Tryz.underlying65 Tryz.underlying164 hj (by rw [hjs]; decide) hsh (Nat.zero_lt_succ 1)
  have h2 := Lib.run_from_unsafe (P := Tryz.prog) w ⟨b, 0, none⟩ Tryz.underlying164 Tryz.underlying65 hj hsh lies_bld
  go_enter Tryz.func66, Tryz.ntmps66
  go_wp2
  rw [run_callFunc_extern Tryz.func105 (by kernel_rfl) (by kernel_rfl) (by kernel_rfl) (e := Extern.AbiNoEscape.same) (by kernel_rfl)]
  rw [Lib.run_noEscape]
  simp only [Result.andThen]
  rw [Oper.upon_value]
  go_wp2
  go_end0
  exact ⟨rfl, rfl⟩
theorem copyCheck_any (B b : Nat) (l : List UInt8) (w : World) (h : BldIs B b l w) :
    Calls Tryz.prog 66 #[.pointer (some ⟨b, 0, none⟩)] w fun e w' => e = .returned (.tuple #[]) ∧ Lib.BuilderAt 67 5 B b (.pointer (some ⟨b, 0, none⟩)) (Lib.byteCells l) w' ∧ Below B w w' := by
  rcases h with h | h
  · refine (copy_fresh b w h.cell0 h.shape h.frozen0).mono ?_
    rintro e w' ⟨rfl, rfl⟩
    exact ⟨rfl, h.used _, (Below.refl B w).setCell (p := ⟨b, 0, none⟩) h.1 _⟩
  · refine (copy_used b w h.cell0).mono ?_
    rintro e w' ⟨rfl, rfl⟩
    exact ⟨rfl, h, Below.refl B _⟩
set_option maxHeartbeats 2000000 in
theorem writeString_any (B b : Nat) (l : List UInt8) (s : ByteArray) (w : World) (h : BldIs B b l w) (hlen : l.length + s.size ≤ 100000000) (hBw : B ≤ w.heap.size) :
    Calls Tryz.prog 32 #[.pointer (some ⟨b, 0, none⟩), .string s] w fun e w' => e = .returned (.tuple #[.int .i64 s.size, .nilIface]) ∧ BldIs B b (l ++ s.data.toList) w' ∧ Below B w w' := by
  obtain ⟨i0, hi, hz0, hz1, hz2⟩ := info_parts info_byte
  have hll : (Lib.byteCells l).length = l.length := Lib.byteCells_length l
  go_enter Tryz.func32, Tryz.ntmps32
  go_wp2_with (go_at_call 66; refine (copyCheck_any B b l _ h).mono ?_)
  rintro e w1 ⟨rfl, h1, hb1⟩
  obtain ⟨hB, v, hbk, hown, hne⟩ := h1
  have c0 : w1.cell? ⟨b, 0, none⟩ = some (.pointer (some ⟨b, 0, none⟩)) := by rw [Lib.cell_of_heap hbk]; rfl
  have c1 : w1.cell? ⟨b, 1, none⟩ = some v := by rw [Lib.cell_of_heap hbk]; rfl
  rw [hll] at hown
  go_wp2_with (at_builtin; refine Lib.wpList_append_own_string _ rfl _ _ 57 9 rfl B 5 i0 Tryz.underlying57 Tryz.underlying9 hi hz0 hz1 hz2 _ _ _ rfl hown s rfl ?c3 ?c4 ?c5 ?_)
  case c3 => unfold maxLen; omega
  case c4 => omega
  case c5 => have := hb1.size; omega
  intro v' w2 hown' hgrow _
  have hb2 : w2.heap[b]? = some (.cells #[.pointer (some ⟨b, 0, none⟩), v] 67 (0, 0)) := by
    rw [hgrow.block b (lt_of_block hbk) (fun e => hne e.symm)]
    exact hbk
  have d0 : w2.cell? ⟨b, 0, none⟩ = some (.pointer (some ⟨b, 0, none⟩)) := by rw [Lib.cell_of_heap hb2]; rfl
  have d1 : w2.cell? ⟨b, 1, none⟩ = some v := by rw [Lib.cell_of_heap hb2]; rfl
  have f1 : w2.frozen? ⟨b, 1, none⟩ = false := Lib.frozen_of_heap hb2 1
  obtain ⟨ao, n', cap, rfl⟩ : ∃ ao n' cap, v' = .slice ao n' cap := by
    rcases hown'.2 with ⟨hv, _⟩ | ⟨g, cap, cur, hv, _⟩
    · exact ⟨_, _, _, hv⟩
    · exact ⟨_, _, _, hv⟩
  have HO := Lib.hid (OwnB.more (l := l) (m := s.data.toList) hown')
  have HB := Lib.hid ((hb1.grown hgrow (by have := hb1.size; omega) (fun k hk => (hown.lt k hk).1)).setCell (p := ⟨b, 1, none⟩) hB (.slice ao n' cap))
  clear hown' hgrow
  go_wp2
  go_ret2
  refine ⟨rfl, .inr ?_, HB.out⟩
  exact Lib.BuilderAt.put (T := 67) (e := 5) hB hb2 (bs' := Lib.byteCells (l ++ s.data.toList)) (by have := HO.out; unfold OwnB at this; rw [Lib.byteCells_length]; exact this) (by decide)
theorem bldX : Builder.Extra Tryz.prog laysStr_ren where
  sizeBuilder := size_bld
  liesBuilder := lies_bld
  t5 := Tryz.underlying5
  a5 := Tryz.isAgg5
  z5 := Tryz.sizeOf5
  v5 := Tryz.zeroValue5
  infoByte := info_byte
  cellsByte := by kernel_rfl
  sizeByte := by kernel_rfl
  neB5 := by decide
theorem string_any (B b : Nat) (l : List UInt8) (w : World) (h : BldIs B b l w) (hBw : B ≤ w.heap.size) :
    Calls Tryz.prog 33 #[.pointer (some ⟨b, 0, none⟩)] w fun e w' => e = .returned (.string (bytes l)) ∧ Below B w w' :=
  Any.Builder_String_any laysStr bldX B b l w h hBw
theorem BldIs.step {B b : Nat} {l : List UInt8} {w w' : World} (hb : Below w.heap.size w w') (h : BldIs B b l w) : BldIs B b l w' := by
  rcases h with ⟨hB, v, h1, h2, h3⟩ | ⟨hB, v, h1, h2, h3⟩
  · exact .inl ⟨hB, v, by rw [hb.block b (lt_of_block h1)]; exact h1, ownsRow_step hb h2, h3⟩
  · exact .inr ⟨hB, v, by rw [hb.block b (lt_of_block h1)]; exact h1, ownsRow_step hb h2, h3⟩
theorem plain_length (l : List Pc) : (plainB l).length ≤ bulk l := by
  unfold plainB
  induction l with
  | nil => simp
  | cons x l ih =>
    rw [List.flatMap_cons, List.length_append, bulk_cons]
    have : (if x.k = 1 then x.s.data.toList else []).length ≤ x.s.size := by split <;> simp
    omega
set_option maxHeartbeats 8000000 in
theorem plain_any (l : List Pc) (v : Value) (w : World) (hv : PcsAt w v l) (hl : bulk l ≤ 1000000) :
    Calls Tryz.prog 12 #[v] w fun e w' => e = .returned (.string (bytes (plainB l))) ∧ Below w.heap.size w w' := by
  obtain ⟨p, cap, rfl, hl1, hc, hrow⟩ := hv
  unfold maxLen at hc
  have ag := Tryz.isAgg39
  have zg := Tryz.sizeOf39
  have HR := Lib.hid hrow
  have H0 := Lib.hid (show BldIs w.heap.size w.heap.size [] (w.alloc (.cells #[.pointer none, .slice none 0 0] 67)) from Lib.fresh_isBuilder _ _ w)
  clear hrow
  go_enter Tryz.func12, Tryz.ntmps12
  go_wp2
  go_loopw [8] (fun i wr => ∃ k : Nat, k ≤ l.length ∧ i = .int .i64 k ∧ Hid (BldIs w.heap.size w.heap.size (plainB (l.take k)) wr) ∧ Hid (Below w.heap.size w wr)) (fun i _ => l.length - (intOf i).toNat)
  case atStart => exact ⟨0, Nat.zero_le _, rfl, H0.out, below_box _⟩
  case round =>
    obtain ⟨k, hk, rfl, HO, HB⟩ := hrel
    by_cases hlt : k < l.length
    · obtain ⟨A, rfl, hA, hcell⟩ := HR.out (by omega)
      obtain ⟨x0, x1, x2⟩ := pcs_cells hA hcell hlt HB.out
      have hlen := plain_length (l.take k)
      have hbt := bulk_take l k
      have hsz := bulk_getD hlt
      have hBr : w.heap.size ≤ wr.heap.size := HB.out.size
      have HF := Lib.hid (plainB_succ l k hlt)
      clear hcell
      generalize l.getD k nil = x at x0 x1 x2 hsz HF
      have HB1 := Lib.hid (HB.out.alloc hBr (pcC x))
      have HO1 := Lib.hid (HO.out.step (below_box (pcC x)))
      have hBa : w.heap.size ≤ (wr.alloc (pcC x)).heap.size := Nat.le_trans hBr (below_box _).size
      by_cases hk1 : x.k = 1
      · rw [if_pos hk1] at HF
        have hkb : (x.k == 1) = true := by simpa using hk1
        have cW := writeString_any w.heap.size w.heap.size _ x.s _ HO1.out (by omega) hBa
        unfold pcC at cW HB1
        clear hk1
        go_wp2_with (go_at_call 32; (with_reducible refine cW.mono ?_); rintro e w2 ⟨rfl, hO2, hb2⟩; have HO2 := Lib.hid hO2; have HB2 := Lib.hid (HB1.out.trans hb2); clear hO2 hb2)
        go_roundw
        case rel => exact ⟨k + 1, by omega, by go_num, (by show BldIs _ _ _ _; rw [HF.out]; exact HO2.out), HB2.out⟩
        case measure => simp [intOf]; omega
      · rw [if_neg hk1, List.append_nil] at HF
        have hkb : (x.k == 1) = false := by simpa using hk1
        unfold pcC at HO1 HB1
        clear hk1
        go_wp2
        go_roundw
        case rel => exact ⟨k + 1, by omega, by go_num, (by show BldIs _ _ _ _; rw [HF.out]; exact HO1.out), HB1.out⟩
        case measure => simp [intOf]; omega
    · have hE : l.take k = l := List.take_of_length_le (by omega)
      rw [hE] at HO
      have cS := string_any w.heap.size w.heap.size (plainB l) wr HO.out HB.out.size
      go_wp2_with (go_at_call 33; (with_reducible refine cS.mono ?_); rintro e w2 ⟨rfl, hb2⟩; have HB2 := Lib.hid (HB.out.trans hb2); clear hb2)
      go_ret
      exact ⟨rfl, HB2.out⟩
end Go.Proofs.YtcgghmpafphcpaaGreatDoor
