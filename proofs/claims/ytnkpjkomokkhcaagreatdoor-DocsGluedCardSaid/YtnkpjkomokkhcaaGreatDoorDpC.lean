/- How lists of pieces are written, as the program does it: texts with their special bytes, marks, lists. Lists of pieces written, and their texts, as the program does it. The texts of a list of pieces, by a strings.Builder that the call has made itself. -/
import Derived.Test.YtnkpjkomokkhcaaGreatDoorDpB
import Derived.Laws.IdiomStrings
import Derived.Lib.BufferRead
namespace Go.Proofs.YtnkpjkomokkhcaaGreatDoor
open Go Go.RowKit
set_option maxRecDepth 100000
theorem info_byte : (Tryz.prog.info? 5).map (fun i => (i.zero, i.size, i.bytes)) = some (some (.int .u8 0), 1, 1) := by kernel_rfl
/-- a slice of bytes that the call has made itself -/
def OwnB (B : Nat) (v : Value) (l : List UInt8) (w : World) : Prop := w.ownsRow B 5 1 v l.length (Lib.byteCells l)
theorem OwnB.step {B : Nat} {v : Value} {l : List UInt8} {w w' : World} (hb : Below w.heap.size w w') (h : OwnB B v l w) : OwnB B v l w' := ownsRow_step hb h
theorem OwnB.form {B : Nat} {v : Value} {l : List UInt8} {w : World} (h : OwnB B v l w) : ∃ ao cap, v = .slice ao l.length cap := by
  rcases h.2 with ⟨hv, h0⟩ | ⟨g, cap, cur, hv, _⟩
  · exact ⟨none, 0, by rw [hv, h0]⟩
  · exact ⟨_, _, hv⟩
theorem OwnB.nil (B : Nat) (w : World) : OwnB B (.slice none 0 0) [] w := World.ownsRow_nil _ _ _ _
theorem OwnB.more {B : Nat} {v : Value} {l m : List UInt8} {w : World} (h : w.ownsRow B 5 1 v (l.length + m.length) (Lib.byteCells l ++ Lib.byteCells m)) : OwnB B v (l ++ m) w := by
  unfold OwnB
  rw [List.length_append, show Lib.byteCells (l ++ m) = Lib.byteCells l ++ Lib.byteCells m by simp [Lib.byteCells]]
  exact h
theorem cell_new1 (w : World) (u : Value) (t : TypeId) : ∀ j x, [u][j]? = some x → (w.alloc (.cells #[u] t)).cell? ((⟨w.heap.size, 0, none⟩ : Addr).add j) = some x := by
  intro j x hj
  match j, hj with
  | 0, hj => simp at hj; subst hj; simp [Addr.add]
theorem bytes_data (s : ByteArray) : s = bytes s.data.toList := by obtain ⟨⟨l⟩⟩ := s; rfl
theorem app_bytes (a b : List UInt8) : (bytes a) ++ (bytes b) = bytes (a ++ b) := by
  unfold bytes
  apply ByteArray.ext
  simp
def ntA : Array Value := #[.int .u8 2, .bool false, .string ⟨#[60]⟩, .string ⟨#[62]⟩, .int .u8 2, .bool true, .string ⟨#[60, 43]⟩, .string ⟨#[62]⟩, .int .u8 3, .bool false, .string ⟨#[60, 47]⟩, .string ⟨#[62]⟩, .int .u8 3, .bool true, .string ⟨#[60, 47, 43]⟩, .string ⟨#[62]⟩, .int .u8 4, .bool false, .string ⟨#[60]⟩, .string ⟨#[47, 62]⟩, .int .u8 5, .bool false, .string ⟨#[123]⟩, .string ⟨#[125]⟩]
/-- the table of notations lies in block 0 -/
def Nts (w : World) : Prop := 5 ≤ w.heap.size ∧ ∃ t fr, w.heap[1]? = some (.cells ntA t fr)
theorem Nts.step {w w' : World} (h : Nts w) (hb : Below w.heap.size w w') : Nts w' := by
  obtain ⟨h5, t, fr, hg⟩ := h
  exact ⟨Nat.le_trans h5 hb.size, t, fr, by rw [hb.block 1 (by omega)]; exact hg⟩
end Go.Proofs.YtnkpjkomokkhcaaGreatDoor
namespace Go.Proofs.YtnkpjkomokkhcaaGreatDoor
open Go Go.RowKit
set_option maxRecDepth 100000
theorem take_succ_getD (l : List Pc) (k : Nat) (hk : k < l.length) : l.take (k + 1) = l.take k ++ [l.getD k nil] := by
  rw [List.take_succ_eq_append_getElem hk]
  simp [List.getD_eq_getElem?_getD, hk]
theorem plainB_succ (l : List Pc) (k : Nat) (hk : k < l.length) : plainB (l.take (k + 1)) = plainB (l.take k) ++ (if (l.getD k nil).k = 1 then (l.getD k nil).s.data.toList else []) := by
  rw [take_succ_getD l k hk]
  unfold plainB
  rw [List.flatMap_append, List.flatMap_cons, List.flatMap_nil, List.append_nil]
theorem bulk_take (l : List Pc) (k : Nat) : bulk (l.take k) ≤ bulk l := by
  induction l generalizing k with
  | nil => simp
  | cons x l ih =>
    cases k with
    | zero => simp [bulk]
    | succ k =>
      rw [List.take_succ_cons, bulk_cons, bulk_cons]
      have := ih k
      omega
theorem bulk_getD {l : List Pc} {k : Nat} (hk : k < l.length) : (l.getD k nil).s.size ≤ bulk l := by
  have := bulk_get hk
  rw [List.getD_eq_getElem?_getD, List.getElem?_eq_getElem hk]
  simp only [Option.getD_some]; omega
/-- the cells of the piece at a place -/
theorem pcs_cells {B : Nat} {w : World} {A : Addr} {l : List Pc} {k : Nat} (hA : A.block < B) (hcell : ∀ i j, i < l.length → j < 3 → w.cell? (A.add (i * 3 + j)) = some (pcF l i j)) (hk : k < l.length) {wr : World} (hb : Below B w wr) :
    wr.cell? (A.add (k * 3)) = some (.int .u8 (l.getD k nil).k) ∧ wr.cell? { block := (A.add (k * 3)).block, off := (A.add (k * 3)).off + 1 } = some (.string (l.getD k nil).s) ∧ wr.cell? { block := (A.add (k * 3)).block, off := (A.add (k * 3)).off + 2 } = some (.bool (l.getD k nil).c) := by
  have hAb : (A.add (k * 3)).block < B := by rw [add_block]; exact hA
  refine ⟨?_, ?_, ?_⟩
  · rw [hb.cell hAb]; have := hcell k 0 hk (by omega); simpa [pcF] using this
  · rw [hb.cell (p := { block := (A.add (k * 3)).block, off := (A.add (k * 3)).off + 1 }) hAb]; have := cell_off (by omega) (hcell k 1 hk (by omega)); simpa [pcF] using this
  · rw [hb.cell (p := { block := (A.add (k * 3)).block, off := (A.add (k * 3)).off + 2 }) hAb]; have := cell_off (by omega) (hcell k 2 hk (by omega)); simpa [pcF] using this
theorem Nts.below {B : Nat} {w w' : World} (h : Nts w) (hB : 5 ≤ B) (hb : Below B w w') : Nts w' := by
  obtain ⟨h5, t, fr, hg⟩ := h
  exact ⟨Nat.le_trans h5 hb.size, t, fr, by rw [hb.block 1 (by omega)]; exact hg⟩
theorem all_valid {l : List Pc} (h : checkE l = 0) : ∀ i, i < l.length → pieceE (l.getD i nil) = 0 := by
  unfold checkE at h
  split at h
  · cases h
  · split at h
    · rename_i e he
      subst h
      intro i hi
      exfalso
      have key : ∀ n op, runC l n = op → op ≠ .error 0 := by
        intro n
        induction n with
        | zero => intro op h; subst h; simp [runC]
        | succ n ih =>
          intro op h hop
          subst h
          simp only [runC] at hop
          cases e : runC l n with
          | error x => rw [e] at hop; exact ih _ rfl (by rw [e]; exact hop)
          | ok o =>
            rw [e] at hop
            have hop' : (if hereE l n ≠ 0 then Except.error (hereE l n) else folE o (l.getD n nil)) = Except.error 0 := hop
            split at hop'
            · rename_i hh; injection hop' with h0; exact hh h0
            · unfold folE at hop'
              split at hop'
              · split at hop' <;> cases hop'
              · split at hop'
                · split at hop' <;> cases hop'
                · cases hop'
      exact key _ _ rfl he
    · rename_i op ho
      exact pieceE_zero ho
theorem short_mem {l : List Pc} (h : bulk l ≤ 100000) : ∀ x ∈ l, x.s.size ≤ maxLen := by
  intro x hx
  obtain ⟨i, hi, rfl⟩ := List.getElem_of_mem hx
  have := bulk_get hi
  unfold maxLen; omega
/-- a slice of bytes that the call owns, as a string -/
theorem convert_own {B : Nat} {v : Value} {l : List UInt8} {w : World} (h : OwnB B v l w) : (convert 64 9 v).run Tryz.prog w = .ok (.string (bytes l)) w := by
  rcases h.2 with ⟨rfl, h0⟩ | ⟨g, cap, cur, rfl, _⟩
  · obtain rfl : l = [] := List.eq_nil_of_length_eq_zero h0
    exact Lib.run_convert_nil_bytes w _ _ 5 0 Tryz.underlying64 Tryz.underlying5 Tryz.underlying9
  · have hc := World.ownsRow.cells h (g := g) rfl
    exact run_convert_bytes_back w _ _ 5 ⟨g, 0, none⟩ cap l Tryz.underlying64 Tryz.underlying5 Tryz.underlying9 (by intro j hj; exact hc j _ (by simp [Lib.byteCells, hj]))
end Go.Proofs.YtnkpjkomokkhcaaGreatDoor
namespace Go.Proofs.YtnkpjkomokkhcaaGreatDoor
open Go Go.RowKit Go.Shelf
set_option maxRecDepth 100000
theorem size_bld : (Tryz.prog.info? 89).map (·.size) = some 2 := by kernel_rfl
theorem lies_bld : liesAt Tryz.prog Tryz.prog.depth 89 (2 / Tryz.prog.cellsOf 89) 0 89 1 = true := by kernel_rfl
def BldIs (B b : Nat) (l : List UInt8) (w : World) : Prop := Lib.IsBuilder 89 5 B b (Lib.byteCells l) w
theorem copy_used (b : Nat) (w : World) (h0 : w.cell? ⟨b, 0, none⟩ = some (.pointer (some ⟨b, 0, none⟩))) :
    Calls Tryz.prog 84 #[.pointer (some ⟨b, 0, none⟩)] w fun e w' => e = .returned (.tuple #[]) ∧ w' = w := by
  obtain ⟨j, hj, _⟩ := Option.map_eq_some_iff.1 size_bld
  go_enter Tryz.func84, Tryz.ntmps84
  go_wp2
  rw [Lib.run_neq_ptr_same w _ Tryz.underlying87 hj]
  go_wp2
  go_end0
  exact ⟨rfl, rfl⟩
theorem copy_fresh (b : Nat) (w : World) (h0 : w.cell? ⟨b, 0, none⟩ = some (.pointer none)) (hsh : w.shape? b = some (89, 2)) (hfz : w.frozen? ⟨b, 0, none⟩ = false) :
    Calls Tryz.prog 84 #[.pointer (some ⟨b, 0, none⟩)] w fun e w' => e = .returned (.tuple #[]) ∧ w' = w.setCell ⟨b, 0, none⟩ (.pointer (some ⟨b, 0, none⟩)) := by
  obtain ⟨j, hj, hjs⟩ := Option.map_eq_some_iff.1 size_bld
  have h1 := Lib.run_to_unsafe (P := Tryz.prog) w ⟨b, 0, none⟩ Tryz.underlying87 Tryz.underlying183 hj (by rw [hjs]; decide) hsh (Nat.zero_lt_succ 1)
  have h2 := Lib.run_from_unsafe (P := Tryz.prog) w ⟨b, 0, none⟩ Tryz.underlying183 Tryz.underlying87 hj hsh lies_bld
  go_enter Tryz.func84, Tryz.ntmps84
  go_wp2
  rw [run_callFunc_extern Tryz.func121 (by kernel_rfl) (by kernel_rfl) (by kernel_rfl) (e := Extern.AbiNoEscape.same) (by kernel_rfl)]
  rw [Lib.run_noEscape]
  simp only [Result.andThen]
  rw [Oper.upon_value]
  go_wp2
  go_end0
  exact ⟨rfl, rfl⟩
theorem copyCheck_any (B b : Nat) (l : List UInt8) (w : World) (h : BldIs B b l w) :
    Calls Tryz.prog 84 #[.pointer (some ⟨b, 0, none⟩)] w fun e w' => e = .returned (.tuple #[]) ∧ Lib.BuilderAt 89 5 B b (.pointer (some ⟨b, 0, none⟩)) (Lib.byteCells l) w' ∧ Below B w w' := by
  rcases h with h | h
  · refine (copy_fresh b w h.cell0 h.shape h.frozen0).mono ?_
    rintro e w' ⟨rfl, rfl⟩
    exact ⟨rfl, h.used _, (Below.refl B w).setCell (p := ⟨b, 0, none⟩) h.1 _⟩
  · refine (copy_used b w h.cell0).mono ?_
    rintro e w' ⟨rfl, rfl⟩
    exact ⟨rfl, h, Below.refl B _⟩
set_option maxHeartbeats 2000000 in
theorem writeString_any (B b : Nat) (l : List UInt8) (s : ByteArray) (w : World) (h : BldIs B b l w) (hlen : l.length + s.size ≤ 100000000) (hBw : B ≤ w.heap.size) :
    Calls Tryz.prog 50 #[.pointer (some ⟨b, 0, none⟩), .string s] w fun e w' => e = .returned (.tuple #[.int .i64 s.size, .nilIface]) ∧ BldIs B b (l ++ s.data.toList) w' ∧ Below B w w' := by
  obtain ⟨i0, hi, hz0, hz1, hz2⟩ := info_parts info_byte
  have hll : (Lib.byteCells l).length = l.length := Lib.byteCells_length l
  go_enter Tryz.func50, Tryz.ntmps50
  go_wp2_with (go_at_call 84; refine (copyCheck_any B b l _ h).mono ?_)
  rintro e w1 ⟨rfl, h1, hb1⟩
  obtain ⟨hB, v, hbk, hown, hne⟩ := h1
  have c0 : w1.cell? ⟨b, 0, none⟩ = some (.pointer (some ⟨b, 0, none⟩)) := by rw [Lib.cell_of_heap hbk]; rfl
  have c1 : w1.cell? ⟨b, 1, none⟩ = some v := by rw [Lib.cell_of_heap hbk]; rfl
  rw [hll] at hown
  go_wp2_with (at_builtin; refine Lib.wpList_append_own_string _ rfl _ _ 64 9 rfl B 5 i0 Tryz.underlying64 Tryz.underlying9 hi hz0 hz1 hz2 _ _ _ rfl hown s rfl ?c3 ?c4 ?c5 ?_)
  case c3 => unfold maxLen; omega
  case c4 => omega
  case c5 => have := hb1.size; omega
  intro v' w2 hown' hgrow _
  have hb2 : w2.heap[b]? = some (.cells #[.pointer (some ⟨b, 0, none⟩), v] 89 (0, 0)) := by
    rw [hgrow.block b (lt_of_block hbk) (fun e => hne e.symm)]
    exact hbk
  have d0 : w2.cell? ⟨b, 0, none⟩ = some (.pointer (some ⟨b, 0, none⟩)) := by rw [Lib.cell_of_heap hb2]; rfl
  have d1 : w2.cell? ⟨b, 1, none⟩ = some v := by rw [Lib.cell_of_heap hb2]; rfl
  have f1 : w2.frozen? ⟨b, 1, none⟩ = false := Lib.frozen_of_heap hb2 1
  obtain ⟨ao, n', cap, rfl⟩ : ∃ ao n' cap, v' = .slice ao n' cap := by
    rcases hown'.2 with ⟨hv, _⟩ | ⟨g, cap, cur, hv, _⟩
    · exact ⟨_, _, _, hv⟩
    · exact ⟨_, _, _, hv⟩
  have HO := Lib.hid (OwnB.more (l := l) (m := s.data.toList) hown')
  have HB := Lib.hid ((hb1.grown hgrow (by have := hb1.size; omega) (fun k hk => (hown.lt k hk).1)).setCell (p := ⟨b, 1, none⟩) hB (.slice ao n' cap))
  clear hown' hgrow
  go_wp2
  go_ret2
  refine ⟨rfl, .inr ?_, HB.out⟩
  exact Lib.BuilderAt.put (T := 89) (e := 5) hB hb2 (bs' := Lib.byteCells (l ++ s.data.toList)) (by have := HO.out; unfold OwnB at this; rw [Lib.byteCells_length]; exact this) (by decide)
theorem BldIs.step {B b : Nat} {l : List UInt8} {w w' : World} (hb : Below w.heap.size w w') (h : BldIs B b l w) : BldIs B b l w' := by
  -- of 89
  rcases h with ⟨hB, v, h1, h2, h3⟩ | ⟨hB, v, h1, h2, h3⟩
  · exact .inl ⟨hB, v, by rw [hb.block b (lt_of_block h1)]; exact h1, ownsRow_step hb h2, h3⟩
  · exact .inr ⟨hB, v, by rw [hb.block b (lt_of_block h1)]; exact h1, ownsRow_step hb h2, h3⟩
theorem plain_length (l : List Pc) : (plainB l).length ≤ bulk l := by
  unfold plainB
  induction l with
  | nil => simp
  | cons x l ih =>
    rw [List.flatMap_cons, List.length_append, bulk_cons]
    have : (if x.k = 1 then x.s.data.toList else []).length ≤ x.s.size := by split <;> simp
    omega
end Go.Proofs.YtnkpjkomokkhcaaGreatDoor
