/- How lists of pieces are written, as the program does it: texts with their special bytes, marks, lists. -/
import Derived.Test.YtcgghmpafphcpaaGreatDoorDp5
namespace Go.Proofs.YtcgghmpafphcpaaGreatDoor
open Go Go.RowKit
set_option maxRecDepth 100000
theorem info_byte : (Tryz.prog.info? 5).map (fun i => (i.zero, i.size, i.bytes)) = some (some (.int .u8 0), 1, 1) := by kernel_rfl
/-- a slice of bytes that the call has made itself -/
def OwnB (B : Nat) (v : Value) (l : List UInt8) (w : World) : Prop := w.ownsRow B 5 1 v l.length (Lib.byteCells l)
theorem OwnB.step {B : Nat} {v : Value} {l : List UInt8} {w w' : World} (hb : Below w.heap.size w w') (h : OwnB B v l w) : OwnB B v l w' := ownsRow_step hb h
theorem OwnB.form {B : Nat} {v : Value} {l : List UInt8} {w : World} (h : OwnB B v l w) : ∃ ao cap, v = .slice ao l.length cap := by
  rcases h.2 with ⟨hv, h0⟩ | ⟨g, cap, cur, hv, _⟩
  · exact ⟨none, 0, by rw [hv, h0]⟩
  · exact ⟨_, _, hv⟩
theorem OwnB.nil (B : Nat) (w : World) : OwnB B (.slice none 0 0) [] w := World.ownsRow_nil _ _ _ _
theorem OwnB.more {B : Nat} {v : Value} {l m : List UInt8} {w : World} (h : w.ownsRow B 5 1 v (l.length + m.length) (Lib.byteCells l ++ Lib.byteCells m)) : OwnB B v (l ++ m) w := by
  unfold OwnB
  rw [List.length_append, show Lib.byteCells (l ++ m) = Lib.byteCells l ++ Lib.byteCells m by simp [Lib.byteCells]]
  exact h
theorem esc_succ (s : ByteArray) (k : Nat) (hk : k < s.size) : esc (s.data.toList.take (k + 1)) = esc (s.data.toList.take k) ++ (if special s[k] then [92, s[k]] else [s[k]]) := by
  have hk' : k < s.data.toList.length := hk
  rw [List.take_succ_eq_append_getElem hk']
  unfold esc
  rw [List.flatMap_append, List.flatMap_cons, List.flatMap_nil, List.append_nil]
  rfl
theorem cell_new1 (w : World) (u : Value) (t : TypeId) : ∀ j x, [u][j]? = some x → (w.alloc (.cells #[u] t)).cell? ((⟨w.heap.size, 0, none⟩ : Addr).add j) = some x := by
  intro j x hj
  match j, hj with
  | 0, hj => simp at hj; subst hj; simp [Addr.add]
set_option maxHeartbeats 4000000 in
theorem appendText_any (B : Nat) (v : Value) (bs : List UInt8) (s : ByteArray) (w : World) (hO : OwnB B v bs w) (hb : bs.length ≤ 100000000) (hs : s.size ≤ 100000000) (hB : B ≤ w.heap.size) :
    Calls Tryz.prog 58 #[v, .string s] w fun e w' => ∃ v', e = .returned v' ∧ OwnB B v' (bs ++ esc s.data.toList) w' ∧ Below B w w' := by
  obtain ⟨i0, hi, hz0, hz1, hz2⟩ := info_parts info_byte
  go_enter Tryz.func58, Tryz.ntmps58
  go_wp2
  go_loopw [0, 8] (fun o i wr => ∃ k : Nat, k ≤ s.size ∧ i = .int .i64 k ∧ Hid (OwnB B o (bs ++ esc (s.data.toList.take k)) wr) ∧ Hid (Below B w wr)) (fun _ i _ => s.size - (intOf i).toNat)
  case atStart => exact ⟨0, Nat.zero_le _, rfl, (by show OwnB _ _ _ _; simpa [esc] using hO), Below.refl _ _⟩
  case round =>
    obtain ⟨k, hk, rfl, HO, HB⟩ := hrel
    by_cases hlt : k < s.size
    · have hle := esc_length (s.data.toList.take k)
      rw [List.length_take] at hle
      have hBr : B ≤ wr.heap.size := Nat.le_trans hB HB.out.size
      have hown := HO.out
      unfold OwnB at hown
      have HS := Lib.hid (esc_succ s k hlt)
      generalize hL : bs ++ esc (s.data.toList.take k) = L at hown
      have hLl : L.length ≤ 400000000 := by rw [← hL, List.length_append]; omega
      have HL := Lib.hid hL; clear hL
      have cS := fun w => isSpecial_any s[k] w
      cases hsp : special s[k]
      · rw [hsp] at cS HS
        go_wp2_with (first
          | (go_at_call 69; (with_reducible refine (cS _).mono ?_); rintro e w2 ⟨rfl, hw⟩; obtain rfl := hw.symm)
          | (at_builtin; refine wpList_append_own _ rfl _ _ 57 rfl B 5 i0 (.int .u8 0) 1 1 Tryz.underlying57 hi hz0 hz1 hz2 rfl (by decide) _ _ _ rfl (hown.alloc _) ⟨wr.heap.size, 0, none⟩ 1 1 [.int .u8 (s[k].toNat : Int)] rfl rfl (cell_new1 _ _ _) (fun x hx => by simp at hx; subst hx; rfl) (by unfold maxLen; omega) (by omega) (by simp; omega) ?_; intro v3 w3 hown3 hgrow3 hnil3; have HB3 := Lib.hid ((HB.out.alloc hBr (.cells #[.int .u8 (s[k].toNat : Int)] 5)).grown hgrow3 (by simp; omega) (fun k hk => (hown.lt k hk).1))
             have HO3 := Lib.hid (OwnB.more (m := [s[k]]) hown3)
             clear hown hown3 hgrow3 hnil3))
        go_roundw
        case rel => exact ⟨k + 1, by omega, by go_num, (by show OwnB _ _ _ _; rw [HS.out, if_neg (by simp), ← List.append_assoc, HL.out]; exact HO3.out), HB3.out⟩
        case measure => simp [intOf]; omega
      · rw [hsp] at cS HS
        go_wp2_with (first
          | (go_at_call 69; (with_reducible refine (cS _).mono ?_); rintro e w2 ⟨rfl, hw⟩; obtain rfl := hw.symm)
          | (at_builtin; refine wpList_append_own _ rfl _ _ 57 rfl B 5 i0 (.int .u8 0) 1 1 Tryz.underlying57 hi hz0 hz1 hz2 rfl (by decide) _ _ _ rfl (hown2.alloc _) ⟨w1.heap.size, 0, none⟩ 1 1 [.int .u8 (s[k].toNat : Int)] rfl rfl (cell_new1 _ _ _) (fun x hx => by simp at hx; subst hx; rfl) (by unfold maxLen; omega) (by omega) (by simp; omega) ?_; intro v3 w3 hown3 hgrow3 hnil3; have HB3 := Lib.hid ((HB1.out.alloc hB1 (.cells #[.int .u8 (s[k].toNat : Int)] 5)).grown hgrow3 (by simp; omega) (fun k hk => (hown2.lt k hk).1))
             have HO3 := Lib.hid (OwnB.more (l := L) (m := [92, s[k]]) (by rw [List.append_assoc] at hown3; exact hown3))
             clear hown2 hown3 hgrow3 hnil3)
          | (at_builtin; refine wpList_append_own _ rfl _ _ 57 rfl B 5 i0 (.int .u8 0) 1 1 Tryz.underlying57 hi hz0 hz1 hz2 rfl (by decide) _ _ _ rfl (hown.alloc _) ⟨wr.heap.size, 0, none⟩ 1 1 [.int .u8 92] rfl rfl (cell_new1 _ _ _) (fun x hx => by simp at hx; subst hx; rfl) (by unfold maxLen; omega) (by omega) (by simp; omega) ?_; intro v1 w1 hown1 hgrow1 hnil1; have hB1 : B ≤ w1.heap.size := by have := hgrow1.size; simp at this; omega
             have HB1 := Lib.hid ((HB.out.alloc hBr (.cells #[.int .u8 92] 5)).grown hgrow1 (by simp; omega) (fun k hk => (hown.lt k hk).1))
             have hown2 := hown1
             clear hown hown1 hgrow1 hnil1))
        go_roundw
        case rel => exact ⟨k + 1, by omega, by go_num, (by show OwnB _ _ _ _; rw [HS.out, if_pos trivial, ← List.append_assoc, HL.out]; exact HO3.out), HB3.out⟩
        case measure => simp [intOf]; omega
    · have hE : s.data.toList.take k = s.data.toList := List.take_of_length_le (by rw [bytes_len]; omega)
      rw [hE] at HO
      go_wp2
      go_ret
      exact ⟨_, rfl, HO.out, HB.out⟩
theorem bytes_data (s : ByteArray) : s = bytes s.data.toList := by obtain ⟨⟨l⟩⟩ := s; rfl
theorem app_bytes (a b : List UInt8) : (bytes a) ++ (bytes b) = bytes (a ++ b) := by
  unfold bytes
  apply ByteArray.ext
  simp
theorem mark_bytes (a z : List UInt8) (s : ByteArray) : (bytes a) ++ s ++ (bytes z) = bytes (a ++ s.data.toList ++ z) := by
  rw [← app_bytes, ← app_bytes, ← bytes_data]
def ntA : Array Value := #[.int .u8 2, .bool false, .string ⟨#[60]⟩, .string ⟨#[62]⟩, .int .u8 2, .bool true, .string ⟨#[60, 43]⟩, .string ⟨#[62]⟩, .int .u8 3, .bool false, .string ⟨#[60, 47]⟩, .string ⟨#[62]⟩, .int .u8 3, .bool true, .string ⟨#[60, 47, 43]⟩, .string ⟨#[62]⟩, .int .u8 4, .bool false, .string ⟨#[60]⟩, .string ⟨#[47, 62]⟩, .int .u8 5, .bool false, .string ⟨#[123]⟩, .string ⟨#[125]⟩]
/-- the table of notations lies in block 0 -/
def Nts (w : World) : Prop := 5 ≤ w.heap.size ∧ ∃ t fr, w.heap[0]? = some (.cells ntA t fr)
theorem Nts.step {w w' : World} (h : Nts w) (hb : Below w.heap.size w w') : Nts w' := by
  obtain ⟨h5, t, fr, hg⟩ := h
  exact ⟨Nat.le_trans h5 hb.size, t, fr, by rw [hb.block 0 (by omega)]; exact hg⟩
theorem ix0 (w : World) : (Instr.index 163 (.agg #[.int .u8 2, .bool false, .string ⟨#[60]⟩, .string ⟨#[62]⟩, .int .u8 2, .bool true, .string ⟨#[60, 43]⟩, .string ⟨#[62]⟩, .int .u8 3, .bool false, .string ⟨#[60, 47]⟩, .string ⟨#[62]⟩, .int .u8 3, .bool true, .string ⟨#[60, 47, 43]⟩, .string ⟨#[62]⟩, .int .u8 4, .bool false, .string ⟨#[60]⟩, .string ⟨#[47, 62]⟩, .int .u8 5, .bool false, .string ⟨#[123]⟩, .string ⟨#[125]⟩]) (.int .i64 0)).run Tryz.prog w = .ok (.agg #[.int .u8 2, .bool false, .string ⟨#[60]⟩, .string ⟨#[62]⟩]) w := by kernel_rfl
theorem ix1 (w : World) : (Instr.index 163 (.agg #[.int .u8 2, .bool false, .string ⟨#[60]⟩, .string ⟨#[62]⟩, .int .u8 2, .bool true, .string ⟨#[60, 43]⟩, .string ⟨#[62]⟩, .int .u8 3, .bool false, .string ⟨#[60, 47]⟩, .string ⟨#[62]⟩, .int .u8 3, .bool true, .string ⟨#[60, 47, 43]⟩, .string ⟨#[62]⟩, .int .u8 4, .bool false, .string ⟨#[60]⟩, .string ⟨#[47, 62]⟩, .int .u8 5, .bool false, .string ⟨#[123]⟩, .string ⟨#[125]⟩]) (.int .i64 1)).run Tryz.prog w = .ok (.agg #[.int .u8 2, .bool true, .string ⟨#[60, 43]⟩, .string ⟨#[62]⟩]) w := by kernel_rfl
theorem ix2 (w : World) : (Instr.index 163 (.agg #[.int .u8 2, .bool false, .string ⟨#[60]⟩, .string ⟨#[62]⟩, .int .u8 2, .bool true, .string ⟨#[60, 43]⟩, .string ⟨#[62]⟩, .int .u8 3, .bool false, .string ⟨#[60, 47]⟩, .string ⟨#[62]⟩, .int .u8 3, .bool true, .string ⟨#[60, 47, 43]⟩, .string ⟨#[62]⟩, .int .u8 4, .bool false, .string ⟨#[60]⟩, .string ⟨#[47, 62]⟩, .int .u8 5, .bool false, .string ⟨#[123]⟩, .string ⟨#[125]⟩]) (.int .i64 2)).run Tryz.prog w = .ok (.agg #[.int .u8 3, .bool false, .string ⟨#[60, 47]⟩, .string ⟨#[62]⟩]) w := by kernel_rfl
theorem ix3 (w : World) : (Instr.index 163 (.agg #[.int .u8 2, .bool false, .string ⟨#[60]⟩, .string ⟨#[62]⟩, .int .u8 2, .bool true, .string ⟨#[60, 43]⟩, .string ⟨#[62]⟩, .int .u8 3, .bool false, .string ⟨#[60, 47]⟩, .string ⟨#[62]⟩, .int .u8 3, .bool true, .string ⟨#[60, 47, 43]⟩, .string ⟨#[62]⟩, .int .u8 4, .bool false, .string ⟨#[60]⟩, .string ⟨#[47, 62]⟩, .int .u8 5, .bool false, .string ⟨#[123]⟩, .string ⟨#[125]⟩]) (.int .i64 3)).run Tryz.prog w = .ok (.agg #[.int .u8 3, .bool true, .string ⟨#[60, 47, 43]⟩, .string ⟨#[62]⟩]) w := by kernel_rfl
theorem ix4 (w : World) : (Instr.index 163 (.agg #[.int .u8 2, .bool false, .string ⟨#[60]⟩, .string ⟨#[62]⟩, .int .u8 2, .bool true, .string ⟨#[60, 43]⟩, .string ⟨#[62]⟩, .int .u8 3, .bool false, .string ⟨#[60, 47]⟩, .string ⟨#[62]⟩, .int .u8 3, .bool true, .string ⟨#[60, 47, 43]⟩, .string ⟨#[62]⟩, .int .u8 4, .bool false, .string ⟨#[60]⟩, .string ⟨#[47, 62]⟩, .int .u8 5, .bool false, .string ⟨#[123]⟩, .string ⟨#[125]⟩]) (.int .i64 4)).run Tryz.prog w = .ok (.agg #[.int .u8 4, .bool false, .string ⟨#[60]⟩, .string ⟨#[47, 62]⟩]) w := by kernel_rfl
theorem ix5 (w : World) : (Instr.index 163 (.agg #[.int .u8 2, .bool false, .string ⟨#[60]⟩, .string ⟨#[62]⟩, .int .u8 2, .bool true, .string ⟨#[60, 43]⟩, .string ⟨#[62]⟩, .int .u8 3, .bool false, .string ⟨#[60, 47]⟩, .string ⟨#[62]⟩, .int .u8 3, .bool true, .string ⟨#[60, 47, 43]⟩, .string ⟨#[62]⟩, .int .u8 4, .bool false, .string ⟨#[60]⟩, .string ⟨#[47, 62]⟩, .int .u8 5, .bool false, .string ⟨#[123]⟩, .string ⟨#[125]⟩]) (.int .i64 5)).run Tryz.prog w = .ok (.agg #[.int .u8 5, .bool false, .string ⟨#[123]⟩, .string ⟨#[125]⟩]) w := by kernel_rfl
set_option maxHeartbeats 8000000 in
theorem writeMark0 (s : ByteArray) (w : World) (hs : s.size ≤ 100000000) (hN : Nts w) :
    Calls Tryz.prog 59 #[.agg #[.int .u8 2, .string s, .bool false]] w fun e w' => e = .returned (.string (bytes ([60] ++ s.data.toList ++ [62]))) ∧ Below w.heap.size w w' := by
  have ag := Tryz.isAgg39
  have zg := Tryz.sizeOf39
  have ag2 := Tryz.isAgg162
  have zg2 := Tryz.sizeOf162
  have hbx := below_box (w := w) (pcC ⟨2, s, false⟩)
  obtain ⟨_, t0, fr0, hg0⟩ := hN.step hbx
  have HX := Lib.hid (Boxed.new w ⟨2, s, false⟩)
  have HB := Lib.hid hbx
  have HM := Lib.hid (mark_bytes [60] [62] s)
  clear hbx hN
  unfold pcC at hg0 HX HB
  unfold ntA at hg0
  go_enter Tryz.func59, Tryz.ntmps59
  go_wp2_with (refine wpList_load_row rfl 163 _ rfl 0 rfl t0 _ fr0 _ hg0 Tryz.underlying163 rfl (by kernel_rfl) ?_)
  go_loopw [6] (fun i wr => ∃ m : Nat, m ≤ 0 ∧ i = .int .i64 m ∧ Hid (Boxed w.heap.size ⟨2, s, false⟩ wr) ∧ Hid (Below w.heap.size w wr)) (fun i _ => 6 - (intOf i).toNat)
  case atStart => exact ⟨0, by omega, rfl, HX.out, HB.out⟩
  case round =>
    obtain ⟨m, hm, rfl, HX1, HB1⟩ := hrel
    obtain ⟨x0, x1, x2, x3⟩ := HX1.out
    have HX2 := Lib.hid (fun o => HX1.out.step (below_box (w := wr) o))
    have HB2 := Lib.hid (fun o => below_next HB1.out (below_box (w := wr) o))
    clear HX HB HX1 HB1 hg0
    obtain rfl : m = 0 := by omega
    clear hm
    have hix := ix0
    go_wp2
    go_ret
    exact ⟨congrArg (fun b => Ending.returned (.string b)) HM.out, HB2.out _⟩
set_option maxHeartbeats 8000000 in
theorem writeMark1 (s : ByteArray) (w : World) (hs : s.size ≤ 100000000) (hN : Nts w) :
    Calls Tryz.prog 59 #[.agg #[.int .u8 2, .string s, .bool true]] w fun e w' => e = .returned (.string (bytes ([60, 43] ++ s.data.toList ++ [62]))) ∧ Below w.heap.size w w' := by
  have ag := Tryz.isAgg39
  have zg := Tryz.sizeOf39
  have ag2 := Tryz.isAgg162
  have zg2 := Tryz.sizeOf162
  have hbx := below_box (w := w) (pcC ⟨2, s, true⟩)
  obtain ⟨_, t0, fr0, hg0⟩ := hN.step hbx
  have HX := Lib.hid (Boxed.new w ⟨2, s, true⟩)
  have HB := Lib.hid hbx
  have HM := Lib.hid (mark_bytes [60, 43] [62] s)
  clear hbx hN
  unfold pcC at hg0 HX HB
  unfold ntA at hg0
  go_enter Tryz.func59, Tryz.ntmps59
  go_wp2_with (refine wpList_load_row rfl 163 _ rfl 0 rfl t0 _ fr0 _ hg0 Tryz.underlying163 rfl (by kernel_rfl) ?_)
  go_loopw [6] (fun i wr => ∃ m : Nat, m ≤ 1 ∧ i = .int .i64 m ∧ Hid (Boxed w.heap.size ⟨2, s, true⟩ wr) ∧ Hid (Below w.heap.size w wr)) (fun i _ => 6 - (intOf i).toNat)
  case atStart => exact ⟨0, by omega, rfl, HX.out, HB.out⟩
  case round =>
    obtain ⟨m, hm, rfl, HX1, HB1⟩ := hrel
    obtain ⟨x0, x1, x2, x3⟩ := HX1.out
    have HX2 := Lib.hid (fun o => HX1.out.step (below_box (w := wr) o))
    have HB2 := Lib.hid (fun o => below_next HB1.out (below_box (w := wr) o))
    clear HX HB HX1 HB1 hg0
    have hmm : m = 0 ∨ m = 1 := by omega
    clear hm
    rcases hmm with rfl | rfl
    · have hix := ix0
      go_wp2
      go_roundw
      case rel => exact ⟨0 + 1, by omega, by go_num, HX2.out _, HB2.out _⟩
      case measure => simp [intOf]
    · have hix := ix1
      go_wp2
      go_ret
      exact ⟨congrArg (fun b => Ending.returned (.string b)) HM.out, HB2.out _⟩
set_option maxHeartbeats 8000000 in
theorem writeMark2 (s : ByteArray) (w : World) (hs : s.size ≤ 100000000) (hN : Nts w) :
    Calls Tryz.prog 59 #[.agg #[.int .u8 3, .string s, .bool false]] w fun e w' => e = .returned (.string (bytes ([60, 47] ++ s.data.toList ++ [62]))) ∧ Below w.heap.size w w' := by
  have ag := Tryz.isAgg39
  have zg := Tryz.sizeOf39
  have ag2 := Tryz.isAgg162
  have zg2 := Tryz.sizeOf162
  have hbx := below_box (w := w) (pcC ⟨3, s, false⟩)
  obtain ⟨_, t0, fr0, hg0⟩ := hN.step hbx
  have HX := Lib.hid (Boxed.new w ⟨3, s, false⟩)
  have HB := Lib.hid hbx
  have HM := Lib.hid (mark_bytes [60, 47] [62] s)
  clear hbx hN
  unfold pcC at hg0 HX HB
  unfold ntA at hg0
  go_enter Tryz.func59, Tryz.ntmps59
  go_wp2_with (refine wpList_load_row rfl 163 _ rfl 0 rfl t0 _ fr0 _ hg0 Tryz.underlying163 rfl (by kernel_rfl) ?_)
  go_loopw [6] (fun i wr => ∃ m : Nat, m ≤ 2 ∧ i = .int .i64 m ∧ Hid (Boxed w.heap.size ⟨3, s, false⟩ wr) ∧ Hid (Below w.heap.size w wr)) (fun i _ => 6 - (intOf i).toNat)
  case atStart => exact ⟨0, by omega, rfl, HX.out, HB.out⟩
  case round =>
    obtain ⟨m, hm, rfl, HX1, HB1⟩ := hrel
    obtain ⟨x0, x1, x2, x3⟩ := HX1.out
    have HX2 := Lib.hid (fun o => HX1.out.step (below_box (w := wr) o))
    have HB2 := Lib.hid (fun o => below_next HB1.out (below_box (w := wr) o))
    clear HX HB HX1 HB1 hg0
    have hmm : m = 0 ∨ m = 1 ∨ m = 2 := by omega
    clear hm
    rcases hmm with rfl | rfl | rfl
    · have hix := ix0
      go_wp2
      go_roundw
      case rel => exact ⟨0 + 1, by omega, by go_num, HX2.out _, HB2.out _⟩
      case measure => simp [intOf]
    · have hix := ix1
      go_wp2
      go_roundw
      case rel => exact ⟨1 + 1, by omega, by go_num, HX2.out _, HB2.out _⟩
      case measure => simp [intOf]
    · have hix := ix2
      go_wp2
      go_ret
      exact ⟨congrArg (fun b => Ending.returned (.string b)) HM.out, HB2.out _⟩
set_option maxHeartbeats 8000000 in
theorem writeMark3 (s : ByteArray) (w : World) (hs : s.size ≤ 100000000) (hN : Nts w) :
    Calls Tryz.prog 59 #[.agg #[.int .u8 3, .string s, .bool true]] w fun e w' => e = .returned (.string (bytes ([60, 47, 43] ++ s.data.toList ++ [62]))) ∧ Below w.heap.size w w' := by
  have ag := Tryz.isAgg39
  have zg := Tryz.sizeOf39
  have ag2 := Tryz.isAgg162
  have zg2 := Tryz.sizeOf162
  have hbx := below_box (w := w) (pcC ⟨3, s, true⟩)
  obtain ⟨_, t0, fr0, hg0⟩ := hN.step hbx
  have HX := Lib.hid (Boxed.new w ⟨3, s, true⟩)
  have HB := Lib.hid hbx
  have HM := Lib.hid (mark_bytes [60, 47, 43] [62] s)
  clear hbx hN
  unfold pcC at hg0 HX HB
  unfold ntA at hg0
  go_enter Tryz.func59, Tryz.ntmps59
  go_wp2_with (refine wpList_load_row rfl 163 _ rfl 0 rfl t0 _ fr0 _ hg0 Tryz.underlying163 rfl (by kernel_rfl) ?_)
  go_loopw [6] (fun i wr => ∃ m : Nat, m ≤ 3 ∧ i = .int .i64 m ∧ Hid (Boxed w.heap.size ⟨3, s, true⟩ wr) ∧ Hid (Below w.heap.size w wr)) (fun i _ => 6 - (intOf i).toNat)
  case atStart => exact ⟨0, by omega, rfl, HX.out, HB.out⟩
  case round =>
    obtain ⟨m, hm, rfl, HX1, HB1⟩ := hrel
    obtain ⟨x0, x1, x2, x3⟩ := HX1.out
    have HX2 := Lib.hid (fun o => HX1.out.step (below_box (w := wr) o))
    have HB2 := Lib.hid (fun o => below_next HB1.out (below_box (w := wr) o))
    clear HX HB HX1 HB1 hg0
    have hmm : m = 0 ∨ m = 1 ∨ m = 2 ∨ m = 3 := by omega
    clear hm
    rcases hmm with rfl | rfl | rfl | rfl
    · have hix := ix0
      go_wp2
      go_roundw
      case rel => exact ⟨0 + 1, by omega, by go_num, HX2.out _, HB2.out _⟩
      case measure => simp [intOf]
    · have hix := ix1
      go_wp2
      go_roundw
      case rel => exact ⟨1 + 1, by omega, by go_num, HX2.out _, HB2.out _⟩
      case measure => simp [intOf]
    · have hix := ix2
      go_wp2
      go_roundw
      case rel => exact ⟨2 + 1, by omega, by go_num, HX2.out _, HB2.out _⟩
      case measure => simp [intOf]
    · have hix := ix3
      go_wp2
      go_ret
      exact ⟨congrArg (fun b => Ending.returned (.string b)) HM.out, HB2.out _⟩
set_option maxHeartbeats 8000000 in
theorem writeMark4 (s : ByteArray) (w : World) (hs : s.size ≤ 100000000) (hN : Nts w) :
    Calls Tryz.prog 59 #[.agg #[.int .u8 4, .string s, .bool false]] w fun e w' => e = .returned (.string (bytes ([60] ++ s.data.toList ++ [47, 62]))) ∧ Below w.heap.size w w' := by
  have ag := Tryz.isAgg39
  have zg := Tryz.sizeOf39
  have ag2 := Tryz.isAgg162
  have zg2 := Tryz.sizeOf162
  have hbx := below_box (w := w) (pcC ⟨4, s, false⟩)
  obtain ⟨_, t0, fr0, hg0⟩ := hN.step hbx
  have HX := Lib.hid (Boxed.new w ⟨4, s, false⟩)
  have HB := Lib.hid hbx
  have HM := Lib.hid (mark_bytes [60] [47, 62] s)
  clear hbx hN
  unfold pcC at hg0 HX HB
  unfold ntA at hg0
  go_enter Tryz.func59, Tryz.ntmps59
  go_wp2_with (refine wpList_load_row rfl 163 _ rfl 0 rfl t0 _ fr0 _ hg0 Tryz.underlying163 rfl (by kernel_rfl) ?_)
  go_loopw [6] (fun i wr => ∃ m : Nat, m ≤ 4 ∧ i = .int .i64 m ∧ Hid (Boxed w.heap.size ⟨4, s, false⟩ wr) ∧ Hid (Below w.heap.size w wr)) (fun i _ => 6 - (intOf i).toNat)
  case atStart => exact ⟨0, by omega, rfl, HX.out, HB.out⟩
  case round =>
    obtain ⟨m, hm, rfl, HX1, HB1⟩ := hrel
    obtain ⟨x0, x1, x2, x3⟩ := HX1.out
    have HX2 := Lib.hid (fun o => HX1.out.step (below_box (w := wr) o))
    have HB2 := Lib.hid (fun o => below_next HB1.out (below_box (w := wr) o))
    clear HX HB HX1 HB1 hg0
    have hmm : m = 0 ∨ m = 1 ∨ m = 2 ∨ m = 3 ∨ m = 4 := by omega
    clear hm
    rcases hmm with rfl | rfl | rfl | rfl | rfl
    · have hix := ix0
      go_wp2
      go_roundw
      case rel => exact ⟨0 + 1, by omega, by go_num, HX2.out _, HB2.out _⟩
      case measure => simp [intOf]
    · have hix := ix1
      go_wp2
      go_roundw
      case rel => exact ⟨1 + 1, by omega, by go_num, HX2.out _, HB2.out _⟩
      case measure => simp [intOf]
    · have hix := ix2
      go_wp2
      go_roundw
      case rel => exact ⟨2 + 1, by omega, by go_num, HX2.out _, HB2.out _⟩
      case measure => simp [intOf]
    · have hix := ix3
      go_wp2
      go_roundw
      case rel => exact ⟨3 + 1, by omega, by go_num, HX2.out _, HB2.out _⟩
      case measure => simp [intOf]
    · have hix := ix4
      go_wp2
      go_ret
      exact ⟨congrArg (fun b => Ending.returned (.string b)) HM.out, HB2.out _⟩
set_option maxHeartbeats 8000000 in
theorem writeMark5 (s : ByteArray) (w : World) (hs : s.size ≤ 100000000) (hN : Nts w) :
    Calls Tryz.prog 59 #[.agg #[.int .u8 5, .string s, .bool false]] w fun e w' => e = .returned (.string (bytes ([123] ++ s.data.toList ++ [125]))) ∧ Below w.heap.size w w' := by
  have ag := Tryz.isAgg39
  have zg := Tryz.sizeOf39
  have ag2 := Tryz.isAgg162
  have zg2 := Tryz.sizeOf162
  have hbx := below_box (w := w) (pcC ⟨5, s, false⟩)
  obtain ⟨_, t0, fr0, hg0⟩ := hN.step hbx
  have HX := Lib.hid (Boxed.new w ⟨5, s, false⟩)
  have HB := Lib.hid hbx
  have HM := Lib.hid (mark_bytes [123] [125] s)
  clear hbx hN
  unfold pcC at hg0 HX HB
  unfold ntA at hg0
  go_enter Tryz.func59, Tryz.ntmps59
  go_wp2_with (refine wpList_load_row rfl 163 _ rfl 0 rfl t0 _ fr0 _ hg0 Tryz.underlying163 rfl (by kernel_rfl) ?_)
  go_loopw [6] (fun i wr => ∃ m : Nat, m ≤ 5 ∧ i = .int .i64 m ∧ Hid (Boxed w.heap.size ⟨5, s, false⟩ wr) ∧ Hid (Below w.heap.size w wr)) (fun i _ => 6 - (intOf i).toNat)
  case atStart => exact ⟨0, by omega, rfl, HX.out, HB.out⟩
  case round =>
    obtain ⟨m, hm, rfl, HX1, HB1⟩ := hrel
    obtain ⟨x0, x1, x2, x3⟩ := HX1.out
    have HX2 := Lib.hid (fun o => HX1.out.step (below_box (w := wr) o))
    have HB2 := Lib.hid (fun o => below_next HB1.out (below_box (w := wr) o))
    clear HX HB HX1 HB1 hg0
    have hmm : m = 0 ∨ m = 1 ∨ m = 2 ∨ m = 3 ∨ m = 4 ∨ m = 5 := by omega
    clear hm
    rcases hmm with rfl | rfl | rfl | rfl | rfl | rfl
    · have hix := ix0
      go_wp2
      go_roundw
      case rel => exact ⟨0 + 1, by omega, by go_num, HX2.out _, HB2.out _⟩
      case measure => simp [intOf]
    · have hix := ix1
      go_wp2
      go_roundw
      case rel => exact ⟨1 + 1, by omega, by go_num, HX2.out _, HB2.out _⟩
      case measure => simp [intOf]
    · have hix := ix2
      go_wp2
      go_roundw
      case rel => exact ⟨2 + 1, by omega, by go_num, HX2.out _, HB2.out _⟩
      case measure => simp [intOf]
    · have hix := ix3
      go_wp2
      go_roundw
      case rel => exact ⟨3 + 1, by omega, by go_num, HX2.out _, HB2.out _⟩
      case measure => simp [intOf]
    · have hix := ix4
      go_wp2
      go_roundw
      case rel => exact ⟨4 + 1, by omega, by go_num, HX2.out _, HB2.out _⟩
      case measure => simp [intOf]
    · have hix := ix5
      go_wp2
      go_ret
      exact ⟨congrArg (fun b => Ending.returned (.string b)) HM.out, HB2.out _⟩
end Go.Proofs.YtcgghmpafphcpaaGreatDoor
