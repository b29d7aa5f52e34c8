/- How lists of pieces are written, as the program does it: texts with their special bytes, marks, lists. Lists of pieces written, and their texts, as the program does it. The texts of a list of pieces, by a strings.Builder that the call has made itself. -/
import Derived.Test.YtnkpjkomokkhcaaGreatDoorDpB
import Derived.Laws.IdiomStrings
import Derived.Lib.BufferRead
namespace Go.Proofs.YtnkpjkomokkhcaaGreatDoor
open Go Go.RowKit
set_option maxRecDepth 100000
/-- a slice of bytes that the call has made itself -/
def OwnB (B : Nat) (v : Value) (l : List UInt8) (w : World) : Prop := w.ownsRow B 5 1 v l.length (Lib.byteCells l)
theorem OwnB.step {B : Nat} {v : Value} {l : List UInt8} {w w' : World} (hb : Below w.heap.size w w') (h : OwnB B v l w) : OwnB B v l w' := ownsRow_step hb h
theorem OwnB.form {B : Nat} {v : Value} {l : List UInt8} {w : World} (h : OwnB B v l w) : ∃ ao cap, v = .slice ao l.length cap := by
  rcases h.2 with ⟨hv, h0⟩ | ⟨g, cap, cur, hv, _⟩
  · exact ⟨none, 0, by rw [hv, h0]⟩
  · exact ⟨_, _, hv⟩
theorem OwnB.nil (B : Nat) (w : World) : OwnB B (.slice none 0 0) [] w := World.ownsRow_nil _ _ _ _
theorem OwnB.more {B : Nat} {v : Value} {l m : List UInt8} {w : World} (h : w.ownsRow B 5 1 v (l.length + m.length) (Lib.byteCells l ++ Lib.byteCells m)) : OwnB B v (l ++ m) w := by
  unfold OwnB
  rw [List.length_append, show Lib.byteCells (l ++ m) = Lib.byteCells l ++ Lib.byteCells m by simp [Lib.byteCells]]
  exact h
theorem cell_new1 (w : World) (u : Value) (t : TypeId) : ∀ j x, [u][j]? = some x → (w.alloc (.cells #[u] t)).cell? ((⟨w.heap.size, 0, none⟩ : Addr).add j) = some x := by
  intro j x hj
  match j, hj with
  | 0, hj => simp at hj; subst hj; simp [Addr.add]
theorem bytes_data (s : ByteArray) : s = bytes s.data.toList := by obtain ⟨⟨l⟩⟩ := s; rfl
theorem app_bytes (a b : List UInt8) : (bytes a) ++ (bytes b) = bytes (a ++ b) := by
  unfold bytes
  apply ByteArray.ext
  simp
def ntA : Array Value := #[.int .u8 2, .bool false, .string ⟨#[60]⟩, .string ⟨#[62]⟩, .int .u8 2, .bool true, .string ⟨#[60, 43]⟩, .string ⟨#[62]⟩, .int .u8 3, .bool false, .string ⟨#[60, 47]⟩, .string ⟨#[62]⟩, .int .u8 3, .bool true, .string ⟨#[60, 47, 43]⟩, .string ⟨#[62]⟩, .int .u8 4, .bool false, .string ⟨#[60]⟩, .string ⟨#[47, 62]⟩, .int .u8 5, .bool false, .string ⟨#[123]⟩, .string ⟨#[125]⟩]
/-- the table of notations lies in block 0 -/
def Nts (w : World) : Prop := 5 ≤ w.heap.size ∧ ∃ t fr, w.heap[1]? = some (.cells ntA t fr)
theorem Nts.step {w w' : World} (h : Nts w) (hb : Below w.heap.size w w') : Nts w' := by
  obtain ⟨h5, t, fr, hg⟩ := h
  exact ⟨Nat.le_trans h5 hb.size, t, fr, by rw [hb.block 1 (by omega)]; exact hg⟩
end Go.Proofs.YtnkpjkomokkhcaaGreatDoor
namespace Go.Proofs.YtnkpjkomokkhcaaGreatDoor
open Go Go.RowKit
set_option maxRecDepth 100000
theorem take_succ_getD (l : List Pc) (k : Nat) (hk : k < l.length) : l.take (k + 1) = l.take k ++ [l.getD k nil] := by
  rw [List.take_succ_eq_append_getElem hk]
  simp [List.getD_eq_getElem?_getD, hk]
theorem plainB_succ (l : List Pc) (k : Nat) (hk : k < l.length) : plainB (l.take (k + 1)) = plainB (l.take k) ++ (if (l.getD k nil).k = 1 then (l.getD k nil).s.data.toList else []) := by
  rw [take_succ_getD l k hk]
  unfold plainB
  rw [List.flatMap_append, List.flatMap_cons, List.flatMap_nil, List.append_nil]
theorem bulk_take (l : List Pc) (k : Nat) : bulk (l.take k) ≤ bulk l := by
  induction l generalizing k with
  | nil => simp
  | cons x l ih =>
    cases k with
    | zero => simp [bulk]
    | succ k =>
      rw [List.take_succ_cons, bulk_cons, bulk_cons]
      have := ih k
      omega
theorem bulk_getD {l : List Pc} {k : Nat} (hk : k < l.length) : (l.getD k nil).s.size ≤ bulk l := by
  have := bulk_get hk
  rw [List.getD_eq_getElem?_getD, List.getElem?_eq_getElem hk]
  simp only [Option.getD_some]; omega
/-- the cells of the piece at a place -/
theorem pcs_cells {B : Nat} {w : World} {A : Addr} {l : List Pc} {k : Nat} (hA : A.block < B) (hcell : ∀ i j, i < l.length → j < 3 → w.cell? (A.add (i * 3 + j)) = some (pcF l i j)) (hk : k < l.length) {wr : World} (hb : Below B w wr) :
    wr.cell? (A.add (k * 3)) = some (.int .u8 (l.getD k nil).k) ∧ wr.cell? { block := (A.add (k * 3)).block, off := (A.add (k * 3)).off + 1 } = some (.string (l.getD k nil).s) ∧ wr.cell? { block := (A.add (k * 3)).block, off := (A.add (k * 3)).off + 2 } = some (.bool (l.getD k nil).c) := by
  have hAb : (A.add (k * 3)).block < B := by rw [add_block]; exact hA
  refine ⟨?_, ?_, ?_⟩
  · rw [hb.cell hAb]; have := hcell k 0 hk (by omega); simpa [pcF] using this
  · rw [hb.cell (p := { block := (A.add (k * 3)).block, off := (A.add (k * 3)).off + 1 }) hAb]; have := cell_off (by omega) (hcell k 1 hk (by omega)); simpa [pcF] using this
  · rw [hb.cell (p := { block := (A.add (k * 3)).block, off := (A.add (k * 3)).off + 2 }) hAb]; have := cell_off (by omega) (hcell k 2 hk (by omega)); simpa [pcF] using this
theorem Nts.below {B : Nat} {w w' : World} (h : Nts w) (hB : 5 ≤ B) (hb : Below B w w') : Nts w' := by
  obtain ⟨h5, t, fr, hg⟩ := h
  exact ⟨Nat.le_trans h5 hb.size, t, fr, by rw [hb.block 1 (by omega)]; exact hg⟩
theorem all_valid {l : List Pc} (h : checkE l = 0) : ∀ i, i < l.length → pieceE (l.getD i nil) = 0 := by
  unfold checkE at h
  split at h
  · cases h
  · split at h
    · rename_i e he
      subst h
      intro i hi
      exfalso
      have key : ∀ n op, runC l n = op → op ≠ .error 0 := by
        intro n
        induction n with
        | zero => intro op h; subst h; simp [runC]
        | succ n ih =>
          intro op h hop
          subst h
          simp only [runC] at hop
          cases e : runC l n with
          | error x => rw [e] at hop; exact ih _ rfl (by rw [e]; exact hop)
          | ok o =>
            rw [e] at hop
            have hop' : (if hereE l n ≠ 0 then Except.error (hereE l n) else folE o (l.getD n nil)) = Except.error 0 := hop
            split at hop'
            · rename_i hh; injection hop' with h0; exact hh h0
            · unfold folE at hop'
              split at hop'
              · split at hop' <;> cases hop'
              · split at hop'
                · split at hop' <;> cases hop'
                · cases hop'
      exact key _ _ rfl he
    · rename_i op ho
      exact pieceE_zero ho
theorem short_mem {l : List Pc} (h : bulk l ≤ 100000) : ∀ x ∈ l, x.s.size ≤ maxLen := by
  intro x hx
  obtain ⟨i, hi, rfl⟩ := List.getElem_of_mem hx
  have := bulk_get hi
  unfold maxLen; omega
end Go.Proofs.YtnkpjkomokkhcaaGreatDoor
namespace Go.Proofs.YtnkpjkomokkhcaaGreatDoor
open Go Go.RowKit Go.Shelf
set_option maxRecDepth 100000
def BldIs (B b : Nat) (l : List UInt8) (w : World) : Prop := Lib.IsBuilder 89 5 B b (Lib.byteCells l) w
theorem BldIs.step {B b : Nat} {l : List UInt8} {w w' : World} (hb : Below w.heap.size w w') (h : BldIs B b l w) : BldIs B b l w' := by
  -- of 89
  rcases h with ⟨hB, v, h1, h2, h3⟩ | ⟨hB, v, h1, h2, h3⟩
  · exact .inl ⟨hB, v, by rw [hb.block b (lt_of_block h1)]; exact h1, ownsRow_step hb h2, h3⟩
  · exact .inr ⟨hB, v, by rw [hb.block b (lt_of_block h1)]; exact h1, ownsRow_step hb h2, h3⟩
theorem plain_length (l : List Pc) : (plainB l).length ≤ bulk l := by
  unfold plainB
  induction l with
  | nil => simp
  | cons x l ih =>
    rw [List.flatMap_cons, List.length_append, bulk_cons]
    have : (if x.k = 1 then x.s.data.toList else []).length ≤ x.s.size := by split <;> simp
    omega
end Go.Proofs.YtnkpjkomokkhcaaGreatDoor
