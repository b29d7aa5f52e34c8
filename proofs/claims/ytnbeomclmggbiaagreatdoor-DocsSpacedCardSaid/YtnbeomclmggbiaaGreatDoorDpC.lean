/- How lists of pieces are written, as the program does it: texts with their special bytes, marks, lists. Lists of pieces written, and their texts, as the program does it. The texts of a list of pieces, by a strings.Builder that the call has made itself. -/
import Derived.Test.YtnbeomclmggbiaaGreatDoorDpB
import Derived.Laws.IdiomStrings
import Derived.Lib.BufferRead
namespace Go.Proofs.YtnbeomclmggbiaaGreatDoor
open Go Go.RowKit
set_option maxRecDepth 100000
theorem info_byte : (Tryz.prog.info? 5).map (fun i => (i.zero, i.size, i.bytes)) = some (some (.int .u8 0), 1, 1) := by kernel_rfl
/-- a slice of bytes that the call has made itself -/
def OwnB (B : Nat) (v : Value) (l : List UInt8) (w : World) : Prop := w.ownsRow B 5 1 v l.length (Lib.byteCells l)
theorem OwnB.step {B : Nat} {v : Value} {l : List UInt8} {w w' : World} (hb : Below w.heap.size w w') (h : OwnB B v l w) : OwnB B v l w' := ownsRow_step hb h
theorem OwnB.form {B : Nat} {v : Value} {l : List UInt8} {w : World} (h : OwnB B v l w) : ∃ ao cap, v = .slice ao l.length cap := by
  rcases h.2 with ⟨hv, h0⟩ | ⟨g, cap, cur, hv, _⟩
  · exact ⟨none, 0, by rw [hv, h0]⟩
  · exact ⟨_, _, hv⟩
theorem OwnB.nil (B : Nat) (w : World) : OwnB B (.slice none 0 0) [] w := World.ownsRow_nil _ _ _ _
theorem OwnB.more {B : Nat} {v : Value} {l m : List UInt8} {w : World} (h : w.ownsRow B 5 1 v (l.length + m.length) (Lib.byteCells l ++ Lib.byteCells m)) : OwnB B v (l ++ m) w := by
  unfold OwnB
  rw [List.length_append, show Lib.byteCells (l ++ m) = Lib.byteCells l ++ Lib.byteCells m by simp [Lib.byteCells]]
  exact h
theorem esc_succ (s : ByteArray) (k : Nat) (hk : k < s.size) : esc (s.data.toList.take (k + 1)) = esc (s.data.toList.take k) ++ (if special s[k] then [92, s[k]] else [s[k]]) := by
  have hk' : k < s.data.toList.length := hk
  rw [List.take_succ_eq_append_getElem hk']
  unfold esc
  rw [List.flatMap_append, List.flatMap_cons, List.flatMap_nil, List.append_nil]
  rfl
theorem cell_new1 (w : World) (u : Value) (t : TypeId) : ∀ j x, [u][j]? = some x → (w.alloc (.cells #[u] t)).cell? ((⟨w.heap.size, 0, none⟩ : Addr).add j) = some x := by
  intro j x hj
  match j, hj with
  | 0, hj => simp at hj; subst hj; simp [Addr.add]
set_option maxHeartbeats 4000000 in
theorem appendText_any (B : Nat) (v : Value) (bs : List UInt8) (s : ByteArray) (w : World) (hO : OwnB B v bs w) (hb : bs.length ≤ 100000000) (hs : s.size ≤ 100000000) (hB : B ≤ w.heap.size) :
    Calls Tryz.prog 85 #[v, .string s] w fun e w' => ∃ v', e = .returned v' ∧ OwnB B v' (bs ++ esc s.data.toList) w' ∧ Below B w w' := by
  obtain ⟨i0, hi, hz0, hz1, hz2⟩ := info_parts info_byte
  go_enter Tryz.func85, Tryz.ntmps85
  go_wp2
  go_loopw [0, 8] (fun o i wr => ∃ k : Nat, k ≤ s.size ∧ i = .int .i64 k ∧ Hid (OwnB B o (bs ++ esc (s.data.toList.take k)) wr) ∧ Hid (Below B w wr)) (fun _ i _ => s.size - (intOf i).toNat)
  case atStart => exact ⟨0, Nat.zero_le _, rfl, (by show OwnB _ _ _ _; simpa [esc] using hO), Below.refl _ _⟩
  case round =>
    obtain ⟨k, hk, rfl, HO, HB⟩ := hrel
    by_cases hlt : k < s.size
    · have hle := esc_length (s.data.toList.take k)
      rw [List.length_take] at hle
      have hBr : B ≤ wr.heap.size := Nat.le_trans hB HB.out.size
      have hown := HO.out
      unfold OwnB at hown
      have HS := Lib.hid (esc_succ s k hlt)
      generalize hL : bs ++ esc (s.data.toList.take k) = L at hown
      have hLl : L.length ≤ 400000000 := by rw [← hL, List.length_append]; omega
      have HL := Lib.hid hL; clear hL
      have cS := fun w => isSpecial_any s[k] w
      cases hsp : special s[k]
      · rw [hsp] at cS HS
        go_wp2_with (first
          | (go_at_call 114; (with_reducible refine (cS _).mono ?_); rintro e w2 ⟨rfl, hw⟩; obtain rfl := hw.symm)
          | (at_builtin; refine wpList_append_own _ rfl _ _ 71 rfl B 5 i0 (.int .u8 0) 1 1 Tryz.underlying71 hi hz0 hz1 hz2 rfl (by decide) _ _ _ rfl (hown.alloc _) ⟨wr.heap.size, 0, none⟩ 1 1 [.int .u8 (s[k].toNat : Int)] rfl rfl (cell_new1 _ _ _) (fun x hx => by simp at hx; subst hx; rfl) (by unfold maxLen; omega) (by omega) (by simp; omega) ?_; intro v3 w3 hown3 hgrow3 hnil3; have HB3 := Lib.hid ((HB.out.alloc hBr (.cells #[.int .u8 (s[k].toNat : Int)] 5)).grown hgrow3 (by simp; omega) (fun k hk => (hown.lt k hk).1))
             have HO3 := Lib.hid (OwnB.more (m := [s[k]]) hown3)
             clear hown hown3 hgrow3 hnil3))
        go_roundw
        case rel => exact ⟨k + 1, by omega, by go_num, (by show OwnB _ _ _ _; rw [HS.out, if_neg (by simp), ← List.append_assoc, HL.out]; exact HO3.out), HB3.out⟩
        case measure => simp [intOf]; omega
      · rw [hsp] at cS HS
        go_wp2_with (first
          | (go_at_call 114; (with_reducible refine (cS _).mono ?_); rintro e w2 ⟨rfl, hw⟩; obtain rfl := hw.symm)
          | (at_builtin; refine wpList_append_own _ rfl _ _ 71 rfl B 5 i0 (.int .u8 0) 1 1 Tryz.underlying71 hi hz0 hz1 hz2 rfl (by decide) _ _ _ rfl (hown2.alloc _) ⟨w1.heap.size, 0, none⟩ 1 1 [.int .u8 (s[k].toNat : Int)] rfl rfl (cell_new1 _ _ _) (fun x hx => by simp at hx; subst hx; rfl) (by unfold maxLen; omega) (by omega) (by simp; omega) ?_; intro v3 w3 hown3 hgrow3 hnil3; have HB3 := Lib.hid ((HB1.out.alloc hB1 (.cells #[.int .u8 (s[k].toNat : Int)] 5)).grown hgrow3 (by simp; omega) (fun k hk => (hown2.lt k hk).1))
             have HO3 := Lib.hid (OwnB.more (l := L) (m := [92, s[k]]) (by rw [List.append_assoc] at hown3; exact hown3))
             clear hown2 hown3 hgrow3 hnil3)
          | (at_builtin; refine wpList_append_own _ rfl _ _ 71 rfl B 5 i0 (.int .u8 0) 1 1 Tryz.underlying71 hi hz0 hz1 hz2 rfl (by decide) _ _ _ rfl (hown.alloc _) ⟨wr.heap.size, 0, none⟩ 1 1 [.int .u8 92] rfl rfl (cell_new1 _ _ _) (fun x hx => by simp at hx; subst hx; rfl) (by unfold maxLen; omega) (by omega) (by simp; omega) ?_; intro v1 w1 hown1 hgrow1 hnil1; have hB1 : B ≤ w1.heap.size := by have := hgrow1.size; simp at this; omega
             have HB1 := Lib.hid ((HB.out.alloc hBr (.cells #[.int .u8 92] 5)).grown hgrow1 (by simp; omega) (fun k hk => (hown.lt k hk).1))
             have hown2 := hown1
             clear hown hown1 hgrow1 hnil1))
        go_roundw
        case rel => exact ⟨k + 1, by omega, by go_num, (by show OwnB _ _ _ _; rw [HS.out, if_pos trivial, ← List.append_assoc, HL.out]; exact HO3.out), HB3.out⟩
        case measure => simp [intOf]; omega
    · have hE : s.data.toList.take k = s.data.toList := List.take_of_length_le (by rw [bytes_len]; omega)
      rw [hE] at HO
      go_wp2
      go_ret
      exact ⟨_, rfl, HO.out, HB.out⟩
theorem bytes_data (s : ByteArray) : s = bytes s.data.toList := by obtain ⟨⟨l⟩⟩ := s; rfl
theorem app_bytes (a b : List UInt8) : (bytes a) ++ (bytes b) = bytes (a ++ b) := by
  unfold bytes
  apply ByteArray.ext
  simp
theorem mark_bytes (a z : List UInt8) (s : ByteArray) : (bytes a) ++ s ++ (bytes z) = bytes (a ++ s.data.toList ++ z) := by
  rw [← app_bytes, ← app_bytes, ← bytes_data]
def ntA : Array Value := #[.int .u8 2, .bool false, .string ⟨#[60]⟩, .string ⟨#[62]⟩, .int .u8 2, .bool true, .string ⟨#[60, 43]⟩, .string ⟨#[62]⟩, .int .u8 3, .bool false, .string ⟨#[60, 47]⟩, .string ⟨#[62]⟩, .int .u8 3, .bool true, .string ⟨#[60, 47, 43]⟩, .string ⟨#[62]⟩, .int .u8 4, .bool false, .string ⟨#[60]⟩, .string ⟨#[47, 62]⟩, .int .u8 5, .bool false, .string ⟨#[123]⟩, .string ⟨#[125]⟩]
/-- the table of notations lies in block 0 -/
def Nts (w : World) : Prop := 6 ≤ w.heap.size ∧ ∃ t fr, w.heap[1]? = some (.cells ntA t fr)
theorem Nts.step {w w' : World} (h : Nts w) (hb : Below w.heap.size w w') : Nts w' := by
  obtain ⟨h5, t, fr, hg⟩ := h
  exact ⟨Nat.le_trans h5 hb.size, t, fr, by rw [hb.block 1 (by omega)]; exact hg⟩
theorem ix0 (w : World) : (Instr.index 159 (.agg #[.int .u8 2, .bool false, .string ⟨#[60]⟩, .string ⟨#[62]⟩, .int .u8 2, .bool true, .string ⟨#[60, 43]⟩, .string ⟨#[62]⟩, .int .u8 3, .bool false, .string ⟨#[60, 47]⟩, .string ⟨#[62]⟩, .int .u8 3, .bool true, .string ⟨#[60, 47, 43]⟩, .string ⟨#[62]⟩, .int .u8 4, .bool false, .string ⟨#[60]⟩, .string ⟨#[47, 62]⟩, .int .u8 5, .bool false, .string ⟨#[123]⟩, .string ⟨#[125]⟩]) (.int .i64 0)).run Tryz.prog w = .ok (.agg #[.int .u8 2, .bool false, .string ⟨#[60]⟩, .string ⟨#[62]⟩]) w := by kernel_rfl
theorem ix1 (w : World) : (Instr.index 159 (.agg #[.int .u8 2, .bool false, .string ⟨#[60]⟩, .string ⟨#[62]⟩, .int .u8 2, .bool true, .string ⟨#[60, 43]⟩, .string ⟨#[62]⟩, .int .u8 3, .bool false, .string ⟨#[60, 47]⟩, .string ⟨#[62]⟩, .int .u8 3, .bool true, .string ⟨#[60, 47, 43]⟩, .string ⟨#[62]⟩, .int .u8 4, .bool false, .string ⟨#[60]⟩, .string ⟨#[47, 62]⟩, .int .u8 5, .bool false, .string ⟨#[123]⟩, .string ⟨#[125]⟩]) (.int .i64 1)).run Tryz.prog w = .ok (.agg #[.int .u8 2, .bool true, .string ⟨#[60, 43]⟩, .string ⟨#[62]⟩]) w := by kernel_rfl
theorem ix2 (w : World) : (Instr.index 159 (.agg #[.int .u8 2, .bool false, .string ⟨#[60]⟩, .string ⟨#[62]⟩, .int .u8 2, .bool true, .string ⟨#[60, 43]⟩, .string ⟨#[62]⟩, .int .u8 3, .bool false, .string ⟨#[60, 47]⟩, .string ⟨#[62]⟩, .int .u8 3, .bool true, .string ⟨#[60, 47, 43]⟩, .string ⟨#[62]⟩, .int .u8 4, .bool false, .string ⟨#[60]⟩, .string ⟨#[47, 62]⟩, .int .u8 5, .bool false, .string ⟨#[123]⟩, .string ⟨#[125]⟩]) (.int .i64 2)).run Tryz.prog w = .ok (.agg #[.int .u8 3, .bool false, .string ⟨#[60, 47]⟩, .string ⟨#[62]⟩]) w := by kernel_rfl
theorem ix3 (w : World) : (Instr.index 159 (.agg #[.int .u8 2, .bool false, .string ⟨#[60]⟩, .string ⟨#[62]⟩, .int .u8 2, .bool true, .string ⟨#[60, 43]⟩, .string ⟨#[62]⟩, .int .u8 3, .bool false, .string ⟨#[60, 47]⟩, .string ⟨#[62]⟩, .int .u8 3, .bool true, .string ⟨#[60, 47, 43]⟩, .string ⟨#[62]⟩, .int .u8 4, .bool false, .string ⟨#[60]⟩, .string ⟨#[47, 62]⟩, .int .u8 5, .bool false, .string ⟨#[123]⟩, .string ⟨#[125]⟩]) (.int .i64 3)).run Tryz.prog w = .ok (.agg #[.int .u8 3, .bool true, .string ⟨#[60, 47, 43]⟩, .string ⟨#[62]⟩]) w := by kernel_rfl
theorem ix4 (w : World) : (Instr.index 159 (.agg #[.int .u8 2, .bool false, .string ⟨#[60]⟩, .string ⟨#[62]⟩, .int .u8 2, .bool true, .string ⟨#[60, 43]⟩, .string ⟨#[62]⟩, .int .u8 3, .bool false, .string ⟨#[60, 47]⟩, .string ⟨#[62]⟩, .int .u8 3, .bool true, .string ⟨#[60, 47, 43]⟩, .string ⟨#[62]⟩, .int .u8 4, .bool false, .string ⟨#[60]⟩, .string ⟨#[47, 62]⟩, .int .u8 5, .bool false, .string ⟨#[123]⟩, .string ⟨#[125]⟩]) (.int .i64 4)).run Tryz.prog w = .ok (.agg #[.int .u8 4, .bool false, .string ⟨#[60]⟩, .string ⟨#[47, 62]⟩]) w := by kernel_rfl
theorem ix5 (w : World) : (Instr.index 159 (.agg #[.int .u8 2, .bool false, .string ⟨#[60]⟩, .string ⟨#[62]⟩, .int .u8 2, .bool true, .string ⟨#[60, 43]⟩, .string ⟨#[62]⟩, .int .u8 3, .bool false, .string ⟨#[60, 47]⟩, .string ⟨#[62]⟩, .int .u8 3, .bool true, .string ⟨#[60, 47, 43]⟩, .string ⟨#[62]⟩, .int .u8 4, .bool false, .string ⟨#[60]⟩, .string ⟨#[47, 62]⟩, .int .u8 5, .bool false, .string ⟨#[123]⟩, .string ⟨#[125]⟩]) (.int .i64 5)).run Tryz.prog w = .ok (.agg #[.int .u8 5, .bool false, .string ⟨#[123]⟩, .string ⟨#[125]⟩]) w := by kernel_rfl
set_option maxHeartbeats 8000000 in
theorem writeMark0 (s : ByteArray) (w : World) (hs : s.size ≤ 100000000) (hN : Nts w) :
    Calls Tryz.prog 62 #[.agg #[.int .u8 2, .string s, .bool false]] w fun e w' => e = .returned (.string (bytes ([60] ++ s.data.toList ++ [62]))) ∧ Below w.heap.size w w' := by
  have ag := Tryz.isAgg56
  have zg := Tryz.sizeOf56
  have ag2 := Tryz.isAgg158
  have zg2 := Tryz.sizeOf158
  have hbx := below_box (w := w) (pcC ⟨2, s, false⟩)
  obtain ⟨_, t0, fr0, hg0⟩ := hN.step hbx
  have HX := Lib.hid (Boxed.new w ⟨2, s, false⟩)
  have HB := Lib.hid hbx
  have HM := Lib.hid (mark_bytes [60] [62] s)
  clear hbx hN
  unfold pcC at hg0 HX HB
  unfold ntA at hg0
  go_enter Tryz.func62, Tryz.ntmps62
  go_wp2_with (refine wpList_load_row rfl 159 _ rfl 1 rfl t0 _ fr0 _ hg0 Tryz.underlying159 rfl (by kernel_rfl) ?_)
  go_loopw [6] (fun i wr => ∃ m : Nat, m ≤ 0 ∧ i = .int .i64 m ∧ Hid (Boxed w.heap.size ⟨2, s, false⟩ wr) ∧ Hid (Below w.heap.size w wr)) (fun i _ => 6 - (intOf i).toNat)
  case atStart => exact ⟨0, by omega, rfl, HX.out, HB.out⟩
  case round =>
    obtain ⟨m, hm, rfl, HX1, HB1⟩ := hrel
    obtain ⟨x0, x1, x2, x3⟩ := HX1.out
    have HX2 := Lib.hid (fun o => HX1.out.step (below_box (w := wr) o))
    have HB2 := Lib.hid (fun o => below_next HB1.out (below_box (w := wr) o))
    clear HX HB HX1 HB1 hg0
    obtain rfl : m = 0 := by omega
    clear hm
    have hix := ix0
    go_wp2
    go_ret
    exact ⟨congrArg (fun b => Ending.returned (.string b)) HM.out, HB2.out _⟩
set_option maxHeartbeats 8000000 in
theorem writeMark1 (s : ByteArray) (w : World) (hs : s.size ≤ 100000000) (hN : Nts w) :
    Calls Tryz.prog 62 #[.agg #[.int .u8 2, .string s, .bool true]] w fun e w' => e = .returned (.string (bytes ([60, 43] ++ s.data.toList ++ [62]))) ∧ Below w.heap.size w w' := by
  have ag := Tryz.isAgg56
  have zg := Tryz.sizeOf56
  have ag2 := Tryz.isAgg158
  have zg2 := Tryz.sizeOf158
  have hbx := below_box (w := w) (pcC ⟨2, s, true⟩)
  obtain ⟨_, t0, fr0, hg0⟩ := hN.step hbx
  have HX := Lib.hid (Boxed.new w ⟨2, s, true⟩)
  have HB := Lib.hid hbx
  have HM := Lib.hid (mark_bytes [60, 43] [62] s)
  clear hbx hN
  unfold pcC at hg0 HX HB
  unfold ntA at hg0
  go_enter Tryz.func62, Tryz.ntmps62
  go_wp2_with (refine wpList_load_row rfl 159 _ rfl 1 rfl t0 _ fr0 _ hg0 Tryz.underlying159 rfl (by kernel_rfl) ?_)
  go_loopw [6] (fun i wr => ∃ m : Nat, m ≤ 1 ∧ i = .int .i64 m ∧ Hid (Boxed w.heap.size ⟨2, s, true⟩ wr) ∧ Hid (Below w.heap.size w wr)) (fun i _ => 6 - (intOf i).toNat)
  case atStart => exact ⟨0, by omega, rfl, HX.out, HB.out⟩
  case round =>
    obtain ⟨m, hm, rfl, HX1, HB1⟩ := hrel
    obtain ⟨x0, x1, x2, x3⟩ := HX1.out
    have HX2 := Lib.hid (fun o => HX1.out.step (below_box (w := wr) o))
    have HB2 := Lib.hid (fun o => below_next HB1.out (below_box (w := wr) o))
    clear HX HB HX1 HB1 hg0
    have hmm : m = 0 ∨ m = 1 := by omega
    clear hm
    rcases hmm with rfl | rfl
    · have hix := ix0
      go_wp2
      go_roundw
      case rel => exact ⟨0 + 1, by omega, by go_num, HX2.out _, HB2.out _⟩
      case measure => simp [intOf]
    · have hix := ix1
      go_wp2
      go_ret
      exact ⟨congrArg (fun b => Ending.returned (.string b)) HM.out, HB2.out _⟩
set_option maxHeartbeats 8000000 in
theorem writeMark2 (s : ByteArray) (w : World) (hs : s.size ≤ 100000000) (hN : Nts w) :
    Calls Tryz.prog 62 #[.agg #[.int .u8 3, .string s, .bool false]] w fun e w' => e = .returned (.string (bytes ([60, 47] ++ s.data.toList ++ [62]))) ∧ Below w.heap.size w w' := by
  have ag := Tryz.isAgg56
  have zg := Tryz.sizeOf56
  have ag2 := Tryz.isAgg158
  have zg2 := Tryz.sizeOf158
  have hbx := below_box (w := w) (pcC ⟨3, s, false⟩)
  obtain ⟨_, t0, fr0, hg0⟩ := hN.step hbx
  have HX := Lib.hid (Boxed.new w ⟨3, s, false⟩)
  have HB := Lib.hid hbx
  have HM := Lib.hid (mark_bytes [60, 47] [62] s)
  clear hbx hN
  unfold pcC at hg0 HX HB
  unfold ntA at hg0
  go_enter Tryz.func62, Tryz.ntmps62
  go_wp2_with (refine wpList_load_row rfl 159 _ rfl 1 rfl t0 _ fr0 _ hg0 Tryz.underlying159 rfl (by kernel_rfl) ?_)
  go_loopw [6] (fun i wr => ∃ m : Nat, m ≤ 2 ∧ i = .int .i64 m ∧ Hid (Boxed w.heap.size ⟨3, s, false⟩ wr) ∧ Hid (Below w.heap.size w wr)) (fun i _ => 6 - (intOf i).toNat)
  case atStart => exact ⟨0, by omega, rfl, HX.out, HB.out⟩
  case round =>
    obtain ⟨m, hm, rfl, HX1, HB1⟩ := hrel
    obtain ⟨x0, x1, x2, x3⟩ := HX1.out
    have HX2 := Lib.hid (fun o => HX1.out.step (below_box (w := wr) o))
    have HB2 := Lib.hid (fun o => below_next HB1.out (below_box (w := wr) o))
    clear HX HB HX1 HB1 hg0
    have hmm : m = 0 ∨ m = 1 ∨ m = 2 := by omega
    clear hm
    rcases hmm with rfl | rfl | rfl
    · have hix := ix0
      go_wp2
      go_roundw
      case rel => exact ⟨0 + 1, by omega, by go_num, HX2.out _, HB2.out _⟩
      case measure => simp [intOf]
    · have hix := ix1
      go_wp2
      go_roundw
      case rel => exact ⟨1 + 1, by omega, by go_num, HX2.out _, HB2.out _⟩
      case measure => simp [intOf]
    · have hix := ix2
      go_wp2
      go_ret
      exact ⟨congrArg (fun b => Ending.returned (.string b)) HM.out, HB2.out _⟩
set_option maxHeartbeats 8000000 in
theorem writeMark3 (s : ByteArray) (w : World) (hs : s.size ≤ 100000000) (hN : Nts w) :
    Calls Tryz.prog 62 #[.agg #[.int .u8 3, .string s, .bool true]] w fun e w' => e = .returned (.string (bytes ([60, 47, 43] ++ s.data.toList ++ [62]))) ∧ Below w.heap.size w w' := by
  have ag := Tryz.isAgg56
  have zg := Tryz.sizeOf56
  have ag2 := Tryz.isAgg158
  have zg2 := Tryz.sizeOf158
  have hbx := below_box (w := w) (pcC ⟨3, s, true⟩)
  obtain ⟨_, t0, fr0, hg0⟩ := hN.step hbx
  have HX := Lib.hid (Boxed.new w ⟨3, s, true⟩)
  have HB := Lib.hid hbx
  have HM := Lib.hid (mark_bytes [60, 47, 43] [62] s)
  clear hbx hN
  unfold pcC at hg0 HX HB
  unfold ntA at hg0
  go_enter Tryz.func62, Tryz.ntmps62
  go_wp2_with (refine wpList_load_row rfl 159 _ rfl 1 rfl t0 _ fr0 _ hg0 Tryz.underlying159 rfl (by kernel_rfl) ?_)
  go_loopw [6] (fun i wr => ∃ m : Nat, m ≤ 3 ∧ i = .int .i64 m ∧ Hid (Boxed w.heap.size ⟨3, s, true⟩ wr) ∧ Hid (Below w.heap.size w wr)) (fun i _ => 6 - (intOf i).toNat)
  case atStart => exact ⟨0, by omega, rfl, HX.out, HB.out⟩
  case round =>
    obtain ⟨m, hm, rfl, HX1, HB1⟩ := hrel
    obtain ⟨x0, x1, x2, x3⟩ := HX1.out
    have HX2 := Lib.hid (fun o => HX1.out.step (below_box (w := wr) o))
    have HB2 := Lib.hid (fun o => below_next HB1.out (below_box (w := wr) o))
    clear HX HB HX1 HB1 hg0
    have hmm : m = 0 ∨ m = 1 ∨ m = 2 ∨ m = 3 := by omega
    clear hm
    rcases hmm with rfl | rfl | rfl | rfl
    · have hix := ix0
      go_wp2
      go_roundw
      case rel => exact ⟨0 + 1, by omega, by go_num, HX2.out _, HB2.out _⟩
      case measure => simp [intOf]
    · have hix := ix1
      go_wp2
      go_roundw
      case rel => exact ⟨1 + 1, by omega, by go_num, HX2.out _, HB2.out _⟩
      case measure => simp [intOf]
    · have hix := ix2
      go_wp2
      go_roundw
      case rel => exact ⟨2 + 1, by omega, by go_num, HX2.out _, HB2.out _⟩
      case measure => simp [intOf]
    · have hix := ix3
      go_wp2
      go_ret
      exact ⟨congrArg (fun b => Ending.returned (.string b)) HM.out, HB2.out _⟩
set_option maxHeartbeats 8000000 in
theorem writeMark4 (s : ByteArray) (w : World) (hs : s.size ≤ 100000000) (hN : Nts w) :
    Calls Tryz.prog 62 #[.agg #[.int .u8 4, .string s, .bool false]] w fun e w' => e = .returned (.string (bytes ([60] ++ s.data.toList ++ [47, 62]))) ∧ Below w.heap.size w w' := by
  have ag := Tryz.isAgg56
  have zg := Tryz.sizeOf56
  have ag2 := Tryz.isAgg158
  have zg2 := Tryz.sizeOf158
  have hbx := below_box (w := w) (pcC ⟨4, s, false⟩)
  obtain ⟨_, t0, fr0, hg0⟩ := hN.step hbx
  have HX := Lib.hid (Boxed.new w ⟨4, s, false⟩)
  have HB := Lib.hid hbx
  have HM := Lib.hid (mark_bytes [60] [47, 62] s)
  clear hbx hN
  unfold pcC at hg0 HX HB
  unfold ntA at hg0
  go_enter Tryz.func62, Tryz.ntmps62
  go_wp2_with (refine wpList_load_row rfl 159 _ rfl 1 rfl t0 _ fr0 _ hg0 Tryz.underlying159 rfl (by kernel_rfl) ?_)
  go_loopw [6] (fun i wr => ∃ m : Nat, m ≤ 4 ∧ i = .int .i64 m ∧ Hid (Boxed w.heap.size ⟨4, s, false⟩ wr) ∧ Hid (Below w.heap.size w wr)) (fun i _ => 6 - (intOf i).toNat)
  case atStart => exact ⟨0, by omega, rfl, HX.out, HB.out⟩
  case round =>
    obtain ⟨m, hm, rfl, HX1, HB1⟩ := hrel
    obtain ⟨x0, x1, x2, x3⟩ := HX1.out
    have HX2 := Lib.hid (fun o => HX1.out.step (below_box (w := wr) o))
    have HB2 := Lib.hid (fun o => below_next HB1.out (below_box (w := wr) o))
    clear HX HB HX1 HB1 hg0
    have hmm : m = 0 ∨ m = 1 ∨ m = 2 ∨ m = 3 ∨ m = 4 := by omega
    clear hm
    rcases hmm with rfl | rfl | rfl | rfl | rfl
    · have hix := ix0
      go_wp2
      go_roundw
      case rel => exact ⟨0 + 1, by omega, by go_num, HX2.out _, HB2.out _⟩
      case measure => simp [intOf]
    · have hix := ix1
      go_wp2
      go_roundw
      case rel => exact ⟨1 + 1, by omega, by go_num, HX2.out _, HB2.out _⟩
      case measure => simp [intOf]
    · have hix := ix2
      go_wp2
      go_roundw
      case rel => exact ⟨2 + 1, by omega, by go_num, HX2.out _, HB2.out _⟩
      case measure => simp [intOf]
    · have hix := ix3
      go_wp2
      go_roundw
      case rel => exact ⟨3 + 1, by omega, by go_num, HX2.out _, HB2.out _⟩
      case measure => simp [intOf]
    · have hix := ix4
      go_wp2
      go_ret
      exact ⟨congrArg (fun b => Ending.returned (.string b)) HM.out, HB2.out _⟩
set_option maxHeartbeats 8000000 in
theorem writeMark5 (s : ByteArray) (w : World) (hs : s.size ≤ 100000000) (hN : Nts w) :
    Calls Tryz.prog 62 #[.agg #[.int .u8 5, .string s, .bool false]] w fun e w' => e = .returned (.string (bytes ([123] ++ s.data.toList ++ [125]))) ∧ Below w.heap.size w w' := by
  have ag := Tryz.isAgg56
  have zg := Tryz.sizeOf56
  have ag2 := Tryz.isAgg158
  have zg2 := Tryz.sizeOf158
  have hbx := below_box (w := w) (pcC ⟨5, s, false⟩)
  obtain ⟨_, t0, fr0, hg0⟩ := hN.step hbx
  have HX := Lib.hid (Boxed.new w ⟨5, s, false⟩)
  have HB := Lib.hid hbx
  have HM := Lib.hid (mark_bytes [123] [125] s)
  clear hbx hN
  unfold pcC at hg0 HX HB
  unfold ntA at hg0
  go_enter Tryz.func62, Tryz.ntmps62
  go_wp2_with (refine wpList_load_row rfl 159 _ rfl 1 rfl t0 _ fr0 _ hg0 Tryz.underlying159 rfl (by kernel_rfl) ?_)
  go_loopw [6] (fun i wr => ∃ m : Nat, m ≤ 5 ∧ i = .int .i64 m ∧ Hid (Boxed w.heap.size ⟨5, s, false⟩ wr) ∧ Hid (Below w.heap.size w wr)) (fun i _ => 6 - (intOf i).toNat)
  case atStart => exact ⟨0, by omega, rfl, HX.out, HB.out⟩
  case round =>
    obtain ⟨m, hm, rfl, HX1, HB1⟩ := hrel
    obtain ⟨x0, x1, x2, x3⟩ := HX1.out
    have HX2 := Lib.hid (fun o => HX1.out.step (below_box (w := wr) o))
    have HB2 := Lib.hid (fun o => below_next HB1.out (below_box (w := wr) o))
    clear HX HB HX1 HB1 hg0
    have hmm : m = 0 ∨ m = 1 ∨ m = 2 ∨ m = 3 ∨ m = 4 ∨ m = 5 := by omega
    clear hm
    rcases hmm with rfl | rfl | rfl | rfl | rfl | rfl
    · have hix := ix0
      go_wp2
      go_roundw
      case rel => exact ⟨0 + 1, by omega, by go_num, HX2.out _, HB2.out _⟩
      case measure => simp [intOf]
    · have hix := ix1
      go_wp2
      go_roundw
      case rel => exact ⟨1 + 1, by omega, by go_num, HX2.out _, HB2.out _⟩
      case measure => simp [intOf]
    · have hix := ix2
      go_wp2
      go_roundw
      case rel => exact ⟨2 + 1, by omega, by go_num, HX2.out _, HB2.out _⟩
      case measure => simp [intOf]
    · have hix := ix3
      go_wp2
      go_roundw
      case rel => exact ⟨3 + 1, by omega, by go_num, HX2.out _, HB2.out _⟩
      case measure => simp [intOf]
    · have hix := ix4
      go_wp2
      go_roundw
      case rel => exact ⟨4 + 1, by omega, by go_num, HX2.out _, HB2.out _⟩
      case measure => simp [intOf]
    · have hix := ix5
      go_wp2
      go_ret
      exact ⟨congrArg (fun b => Ending.returned (.string b)) HM.out, HB2.out _⟩
end Go.Proofs.YtnbeomclmggbiaaGreatDoor
namespace Go.Proofs.YtnbeomclmggbiaaGreatDoor
open Go Go.RowKit
set_option maxRecDepth 100000
theorem piece_kinds {x : Pc} (h : pieceE x = 0) (h1 : x.k ≠ 1) : (x.k = 2) ∨ (x.k = 3) ∨ (x.k = 4 ∧ x.c = false) ∨ (x.k = 5 ∧ x.c = false) := by
  unfold pieceE at h
  by_cases a : x.k < 1 ∨ 5 < x.k
  · rw [if_pos a] at h; cases h
  · rw [if_neg a] at h
    by_cases b : x.c = true ∧ x.k ≠ 2 ∧ x.k ≠ 3
    · rw [if_pos b] at h; cases h
    · by_cases h2 : x.k = 2
      · exact .inl h2
      · by_cases h3 : x.k = 3
        · exact .inr (.inl h3)
        · have hc : x.c = false := by
            cases e : x.c
            · rfl
            · exact absurd ⟨e, h2, h3⟩ b
          by_cases h4 : x.k = 4
          · exact .inr (.inr (.inl ⟨h4, hc⟩))
          · exact .inr (.inr (.inr ⟨by omega, hc⟩))
theorem writeMark_any (x : Pc) (w : World) (hs : x.s.size ≤ 100000000) (hN : Nts w) (h : pieceE x = 0) (h1 : x.k ≠ 1) :
    Calls Tryz.prog 62 #[pcV x] w fun e w' => e = .returned (.string (bytes (wB x))) ∧ Below w.heap.size w w' := by
  have hk := piece_kinds h h1
  obtain ⟨k, s, c⟩ := x
  simp only at hk hs
  unfold pcV
  rcases hk with rfl | rfl | ⟨rfl, rfl⟩ | ⟨rfl, rfl⟩
  · cases c
    · exact writeMark0 s w hs hN
    · exact writeMark1 s w hs hN
  · cases c
    · exact writeMark2 s w hs hN
    · exact writeMark3 s w hs hN
  · exact writeMark4 s w hs hN
  · exact writeMark5 s w hs hN
theorem take_succ_getD (l : List Pc) (k : Nat) (hk : k < l.length) : l.take (k + 1) = l.take k ++ [l.getD k nil] := by
  rw [List.take_succ_eq_append_getElem hk]
  simp [List.getD_eq_getElem?_getD, hk]
theorem formB_succ (l : List Pc) (k : Nat) (hk : k < l.length) : formB (l.take (k + 1)) = formB (l.take k) ++ wB (l.getD k nil) := by
  rw [take_succ_getD l k hk]
  unfold formB
  rw [List.flatMap_append, List.flatMap_cons, List.flatMap_nil, List.append_nil]
theorem plainB_succ (l : List Pc) (k : Nat) (hk : k < l.length) : plainB (l.take (k + 1)) = plainB (l.take k) ++ (if (l.getD k nil).k = 1 then (l.getD k nil).s.data.toList else []) := by
  rw [take_succ_getD l k hk]
  unfold plainB
  rw [List.flatMap_append, List.flatMap_cons, List.flatMap_nil, List.append_nil]
theorem bulk_take (l : List Pc) (k : Nat) : bulk (l.take k) ≤ bulk l := by
  induction l generalizing k with
  | nil => simp
  | cons x l ih =>
    cases k with
    | zero => simp [bulk]
    | succ k =>
      rw [List.take_succ_cons, bulk_cons, bulk_cons]
      have := ih k
      omega
theorem bulk_getD {l : List Pc} {k : Nat} (hk : k < l.length) : (l.getD k nil).s.size ≤ bulk l := by
  have := bulk_get hk
  rw [List.getD_eq_getElem?_getD, List.getElem?_eq_getElem hk]
  simp only [Option.getD_some]; omega
/-- the cells of the piece at a place -/
theorem pcs_cells {B : Nat} {w : World} {A : Addr} {l : List Pc} {k : Nat} (hA : A.block < B) (hcell : ∀ i j, i < l.length → j < 3 → w.cell? (A.add (i * 3 + j)) = some (pcF l i j)) (hk : k < l.length) {wr : World} (hb : Below B w wr) :
    wr.cell? (A.add (k * 3)) = some (.int .u8 (l.getD k nil).k) ∧ wr.cell? { block := (A.add (k * 3)).block, off := (A.add (k * 3)).off + 1 } = some (.string (l.getD k nil).s) ∧ wr.cell? { block := (A.add (k * 3)).block, off := (A.add (k * 3)).off + 2 } = some (.bool (l.getD k nil).c) := by
  have hAb : (A.add (k * 3)).block < B := by rw [add_block]; exact hA
  refine ⟨?_, ?_, ?_⟩
  · rw [hb.cell hAb]; have := hcell k 0 hk (by omega); simpa [pcF] using this
  · rw [hb.cell (p := { block := (A.add (k * 3)).block, off := (A.add (k * 3)).off + 1 }) hAb]; have := cell_off (by omega) (hcell k 1 hk (by omega)); simpa [pcF] using this
  · rw [hb.cell (p := { block := (A.add (k * 3)).block, off := (A.add (k * 3)).off + 2 }) hAb]; have := cell_off (by omega) (hcell k 2 hk (by omega)); simpa [pcF] using this
theorem Nts.below {B : Nat} {w w' : World} (h : Nts w) (hB : 6 ≤ B) (hb : Below B w w') : Nts w' := by
  obtain ⟨h5, t, fr, hg⟩ := h
  exact ⟨Nat.le_trans h5 hb.size, t, fr, by rw [hb.block 1 (by omega)]; exact hg⟩
set_option maxHeartbeats 8000000 in
theorem appendPieces_any (B : Nat) (l : List Pc) (o v : Value) (bs : List UInt8) (w : World) (hO : OwnB B o bs w) (hv : SliceAt B w v l.length 3 (pcF l)) (hB5 : 6 ≤ B) (hB : B ≤ w.heap.size) (hN : Nts w)
    (hval : ∀ i, i < l.length → pieceE (l.getD i nil) = 0) (hb : bs.length ≤ 1000000) (hl : bulk l ≤ 1000000) :
    Calls Tryz.prog 40 #[o, v] w fun e w' => ∃ v', e = .returned v' ∧ OwnB B v' (bs ++ formB l) w' ∧ Below B w w' := by
  obtain ⟨i0, hi, hz0, hz1, hz2⟩ := info_parts info_byte
  obtain ⟨p, cap, rfl, hl1, hc, hrow⟩ := hv
  unfold maxLen at hc
  have ag := Tryz.isAgg56
  have zg := Tryz.sizeOf56
  have HR := Lib.hid hrow
  have HV := Lib.hid hval
  have HN := Lib.hid hN
  clear hrow hval hN
  go_enter Tryz.func40, Tryz.ntmps40
  go_wp2
  go_loopw [0, 9] (fun o i wr => ∃ k : Nat, k ≤ l.length ∧ i = .int .i64 k ∧ Hid (OwnB B o (bs ++ formB (l.take k)) wr) ∧ Hid (Below B w wr)) (fun _ i _ => l.length - (intOf i).toNat)
  case atStart => exact ⟨0, Nat.zero_le _, rfl, (by show OwnB _ _ _ _; simpa [formB] using hO), Below.refl _ _⟩
  case round =>
    obtain ⟨k, hk, rfl, HO, HB⟩ := hrel
    by_cases hlt : k < l.length
    · obtain ⟨A, rfl, hA, hcell⟩ := HR.out (by omega)
      obtain ⟨x0, x1, x2⟩ := pcs_cells hA hcell hlt HB.out
      have hlen := formB_length (l.take k)
      have hbt := bulk_take l k
      have hsz := bulk_getD hlt
      have hBr : B ≤ wr.heap.size := Nat.le_trans hB HB.out.size
      have HF := Lib.hid (formB_succ l k hlt)
      have hvx := HV.out k hlt
      clear hcell
      generalize l.getD k nil = x at x0 x1 x2 hsz HF hvx
      have hO1 := HO.out
      generalize hL : bs ++ formB (l.take k) = L at hO1
      have hLl : L.length ≤ 50000000 := by rw [← hL, List.length_append]; omega
      have HL := Lib.hid hL; clear hL
      have HO1 := Lib.hid (hO1.step (below_box (pcC x)))
      have HB1 := Lib.hid (HB.out.alloc hBr (pcC x))
      have HX := Lib.hid (Boxed.new wr x)
      have hBa : B ≤ (wr.alloc (pcC x)).heap.size := Nat.le_trans hBr (below_box _).size
      have HN1 := Lib.hid (HN.out.below hB5 HB1.out)
      clear hO1
      by_cases hk1 : x.k = 1
      · have hwB : wB x = esc x.s.data.toList := by unfold wB; rw [if_pos hk1]
        have cA := appendText_any B _ L x.s _ HO1.out (by omega) (by omega) hBa
        unfold pcC at cA HB1
        have hkb : (x.k == 1) = true := by simpa using hk1
        rw [hwB] at HF
        have HK := Lib.hid hk1
        clear hk1 hwB
        go_wp2_with (go_at_call 85; (with_reducible refine cA.mono ?_); rintro e w2 ⟨v2, rfl, hO2, hb2⟩; have HO2 := Lib.hid hO2; have HB2 := Lib.hid (HB1.out.trans hb2); clear hO2 hb2)
        go_roundw
        case rel => exact ⟨k + 1, by omega, by go_num, (by show OwnB _ _ _ _; rw [HF.out, ← List.append_assoc, HL.out]; exact HO2.out), HB2.out⟩
        case measure => simp [intOf]; omega
      · have cM := writeMark_any x _ (by omega) HN1.out hvx hk1
        unfold pcC at cM HB1 HX
        unfold pcV at cM
        have hkb : (x.k == 1) = false := by simpa using hk1
        have hwl := wB_length x
        have hbl : (bytes (wB x)).size = (wB x).length := by unfold bytes; simp [ByteArray.size]
        have HK := Lib.hid hk1
        clear hk1
        go_wp2_with (first
          | (go_at_call 62; (with_reducible refine cM.mono ?_); rintro e w2 ⟨rfl, hb2⟩; have hown2 := HO1.out.step hb2; unfold OwnB at hown2; have HB2 := Lib.hid (HB1.out.trans (hb2.mono hBa)); have hB2 : B ≤ w2.heap.size := Nat.le_trans hBa hb2.size; clear hb2)
          | (at_builtin; refine Lib.wpList_append_own_string _ rfl _ _ 71 9 rfl B 5 i0 Tryz.underlying71 Tryz.underlying9 hi hz0 hz1 hz2 _ _ _ rfl hown2 (bytes (wB x)) rfl (by unfold maxLen; omega) (by omega) (by omega) ?_; intro v3 w3 hown3 hgrow3 hnil3
             have HB3 := Lib.hid (HB2.out.grown hgrow3 hB2 (fun k hk => (hown2.lt k hk).1))
             have HO3 := Lib.hid (OwnB.more (l := L) (m := wB x) (by rw [hbl] at hown3; exact hown3))
             clear hown2 hown3 hgrow3 hnil3))
        go_roundw
        case rel => exact ⟨k + 1, by omega, by go_num, (by show OwnB _ _ _ _; rw [HF.out, ← List.append_assoc, HL.out]; exact HO3.out), HB3.out⟩
        case measure => simp [intOf]; omega
    · have hE : l.take k = l := List.take_of_length_le (by omega)
      rw [hE] at HO
      go_wp2
      go_ret
      exact ⟨_, rfl, HO.out, HB.out⟩
theorem all_valid {l : List Pc} (h : checkE l = 0) : ∀ i, i < l.length → pieceE (l.getD i nil) = 0 := by
  unfold checkE at h
  split at h
  · cases h
  · split at h
    · rename_i e he
      subst h
      intro i hi
      exfalso
      have key : ∀ n op, runC l n = op → op ≠ .error 0 := by
        intro n
        induction n with
        | zero => intro op h; subst h; simp [runC]
        | succ n ih =>
          intro op h hop
          subst h
          simp only [runC] at hop
          cases e : runC l n with
          | error x => rw [e] at hop; exact ih _ rfl (by rw [e]; exact hop)
          | ok o =>
            rw [e] at hop
            have hop' : (if hereE l n ≠ 0 then Except.error (hereE l n) else folE o (l.getD n nil)) = Except.error 0 := hop
            split at hop'
            · rename_i hh; injection hop' with h0; exact hh h0
            · unfold folE at hop'
              split at hop'
              · split at hop' <;> cases hop'
              · split at hop'
                · split at hop' <;> cases hop'
                · cases hop'
      exact key _ _ rfl he
    · rename_i op ho
      exact pieceE_zero ho
theorem short_mem {l : List Pc} (h : bulk l ≤ 100000) : ∀ x ∈ l, x.s.size ≤ maxLen := by
  intro x hx
  obtain ⟨i, hi, rfl⟩ := List.getElem_of_mem hx
  have := bulk_get hi
  unfold maxLen; omega
/-- a slice of bytes that the call owns, as a string -/
theorem convert_own {B : Nat} {v : Value} {l : List UInt8} {w : World} (h : OwnB B v l w) : (convert 71 9 v).run Tryz.prog w = .ok (.string (bytes l)) w := by
  rcases h.2 with ⟨rfl, h0⟩ | ⟨g, cap, cur, rfl, _⟩
  · obtain rfl : l = [] := List.eq_nil_of_length_eq_zero h0
    exact Lib.run_convert_nil_bytes w _ _ 5 0 Tryz.underlying71 Tryz.underlying5 Tryz.underlying9
  · have hc := World.ownsRow.cells h (g := g) rfl
    exact run_convert_bytes_back w _ _ 5 ⟨g, 0, none⟩ cap l Tryz.underlying71 Tryz.underlying5 Tryz.underlying9 (by intro j hj; exact hc j _ (by simp [Lib.byteCells, hj]))
end Go.Proofs.YtnbeomclmggbiaaGreatDoor
namespace Go.Proofs.YtnbeomclmggbiaaGreatDoor
open Go Go.RowKit Go.Shelf
set_option maxRecDepth 100000
theorem plain_length (l : List Pc) : (plainB l).length ≤ bulk l := by
  unfold plainB
  induction l with
  | nil => simp
  | cons x l ih =>
    rw [List.flatMap_cons, List.length_append, bulk_cons]
    have : (if x.k = 1 then x.s.data.toList else []).length ≤ x.s.size := by split <;> simp
    omega
end Go.Proofs.YtnbeomclmggbiaaGreatDoor
