/- Glue: what parts are glued together, as data. No run of any program here. Lists of lists of pieces in memory; rows of words that are turned round. Glue: what one part closes for now is what the next one opens once more, by the program. Glue: what one part closes for now is what the next one opens once more, by the program. Glue: what one part closes for now is what the next one opens once more, by the program: the whole. Glue, by the program. -/
import Derived.Test.YtnkpjkomokkhcaaGreatDoorHtA
namespace Go.Proofs.YtnkpjkomokkhcaaGreatDoor
open Go Go.RowKit Go.Lib
set_option maxRecDepth 100000
def closesL (l : List Pc) : List ByteArray := (l.filter ccB).map Pc.s
def opensL (l : List Pc) : List ByteArray := (l.filter coB).map Pc.s
/-- what one part closes for now is what the next one opens once more -/
def fitB (a b : List Pc) : Bool := decide (closesL a = (opensL b).reverse)
/-- what a part has between parts: it is not glued -/
def innerB (n i : Nat) (x : Pc) : Bool := (coB x && decide (0 < i)) || (ccB x && decide (i + 1 < n))
/-- the first error of the first k parts -/
def checkPs (ps : List (List Pc)) : Nat → Int
  | 0 => 0
  | k + 1 => if checkPs ps k ≠ 0 then checkPs ps k else checkE (ps.getD k [])
/-- the first k pairs of neighbours fit -/
def fitPs (ps : List (List Pc)) : Nat → Bool
  | 0 => true
  | k + 1 => fitPs ps k && fitB (ps.getD k []) (ps.getD (k + 1) [])
def gAdd (n i : Nat) (o : List Pc) (x : Pc) : List Pc := if innerB n i x = true then o else addP o x
def jAdd (n i : Nat) (st : Js) (x : Pc) : Js := if innerB n i x = true then st else js3 x st
def gPart (n i : Nat) (o l : List Pc) (k : Nat) : List Pc := (l.take k).foldl (gAdd n i) o
def jPart (n i : Nat) (st : Js) (l : List Pc) (k : Nat) : Js := (l.take k).foldl (jAdd n i) st
def gTo (ps : List (List Pc)) : Nat → List Pc
  | 0 => []
  | i + 1 => gPart ps.length i (gTo ps i) (ps.getD i []) (ps.getD i []).length
def js0 : Js := ⟨[], [], nil, false⟩
def jgTo (ps : List (List Pc)) : Nat → Js
  | 0 => js0
  | i + 1 => jPart ps.length i (jgTo ps i) (ps.getD i []) (ps.getD i []).length
theorem gPart_succ {n i : Nat} {o l : List Pc} {k : Nat} (h : k < l.length) : gPart n i o l (k + 1) = gAdd n i (gPart n i o l k) (l.getD k nil) := by
  unfold gPart
  rw [take_succ_getD l k h, List.foldl_append]; rfl
theorem jPart_succ {n i : Nat} {st : Js} {l : List Pc} {k : Nat} (h : k < l.length) : jPart n i st l (k + 1) = jAdd n i (jPart n i st l k) (l.getD k nil) := by
  unfold jPart
  rw [take_succ_getD l k h, List.foldl_append]; rfl
/-- both ways to keep what has been glued -/
def JG (o : List Pc) (st : Js) : Prop := o = st.o ++ flush st.t ∧ ∀ y, st.o.getLast? = some y → y.k ≠ 1
/-- a piece that is one: a text is not empty, and is not carried -/
def fineP (x : Pc) : Prop := x.k = 1 → x = ⟨1, x.s, false⟩ ∧ 0 < x.s.size
theorem fine_of {x : Pc} (h : pieceE x = 0) : fineP x := by
  intro hk
  obtain ⟨k, s, c⟩ := x
  dsimp only at hk
  subst hk
  unfold pieceE at h
  cases c
  · refine ⟨rfl, ?_⟩
    have hs : ¬ (s.size = 0 ∨ textB s = false) := fun e => by
      dsimp only at h
      rw [if_neg (by omega), if_neg (by simp), if_pos rfl, if_pos e] at h
      cases h
    show 0 < s.size
    omega
  · simp at h
theorem JG.add {n i : Nat} {o : List Pc} {st : Js} {x : Pc} (h : JG o st) (hx : fineP x) : JG (gAdd n i o x) (jAdd n i st x) := by
  unfold gAdd jAdd
  by_cases hi : innerB n i x = true
  · rw [if_pos hi, if_pos hi]; exact h
  · rw [if_neg hi, if_neg hi]
    have := js3_add h.2 hx
    exact ⟨by rw [h.1, this.1], this.2.1⟩
theorem JG.part {n i : Nat} {l : List Pc} (hl : ∀ k, k < l.length → fineP (l.getD k nil)) {o : List Pc} {st : Js} (h : JG o st) : ∀ k, k ≤ l.length → JG (gPart n i o l k) (jPart n i st l k)
  | 0, _ => h
  | k + 1, hk => by
    rw [gPart_succ hk, jPart_succ hk]
    exact (JG.part hl h k (by omega)).add (hl k hk)
theorem JG.all {ps : List (List Pc)} (hc : ∀ k, k < ps.length → checkE (ps.getD k []) = 0) : ∀ i, i ≤ ps.length → JG (gTo ps i) (jgTo ps i)
  | 0, _ => ⟨rfl, fun y h => by cases h⟩
  | i + 1, hi => JG.part (fun k hk => fine_of (all_valid (hc i hi) k hk)) (JG.all hc i (by omega)) _ (Nat.le_refl _)
/-- the error of Glue, and what it glues -/
def glueE (ps : List (List Pc)) : Int :=
  if ps.length = 0 then 1
  else if checkPs ps ps.length ≠ 0 then checkPs ps ps.length
  else if fitPs ps (ps.length - 1) = false then 10
  else if 512 < (gTo ps ps.length).length then 3 else 0
def glueL (ps : List (List Pc)) : List Pc := if glueE ps = 0 then gTo ps ps.length else []
/-- how many pieces and bytes parts have together -/
def bulkPs (ps : List (List Pc)) : Nat := (ps.map bulk).sum
theorem bulkPs_take_succ {ps : List (List Pc)} {k : Nat} (h : k < ps.length) : bulkPs (ps.take (k + 1)) = bulkPs (ps.take k) + bulk (ps.getD k []) := by
  unfold bulkPs
  rw [List.take_add_one, List.getElem?_eq_getElem h, List.getD_eq_getElem?_getD, List.getElem?_eq_getElem h, List.map_append, List.sum_append]
  rfl
end Go.Proofs.YtnkpjkomokkhcaaGreatDoor
namespace Go.Proofs.YtnkpjkomokkhcaaGreatDoor
open Go Go.RowKit Go.Lib
set_option maxRecDepth 100000
def nilV1 : Value := .slice none 0 0
def ptF (us : List Value) (i _j : Nat) : Value := us.getD i nilV1
/-- lists of pieces lie in memory -/
def PtsAt (w : World) (v : Value) (ps : List (List Pc)) : Prop :=
  ∃ us : List Value, us.length = ps.length ∧ SliceAt w.heap.size w v ps.length 1 (ptF us) ∧ ∀ i, i < ps.length → PcsAt w (us.getD i nilV1) (ps.getD i [])
theorem PtsAt.step {w w' : World} {v : Value} {ps : List (List Pc)} (hb : Below w.heap.size w w') (h : PtsAt w v ps) : PtsAt w' v ps := by
  obtain ⟨us, h1, h2, h3⟩ := h
  exact ⟨us, h1, (SliceAt.below hb h2).mono hb.size, fun i hi => (h3 i hi).step hb⟩
theorem PtsAt.form {w : World} {v : Value} {ps : List (List Pc)} (h : PtsAt w v ps) : ∃ p cap, v = .slice p ps.length cap ∧ ps.length ≤ cap ∧ cap ≤ maxLen := by
  obtain ⟨_, _, ⟨p, cap, e, h1, h2, _⟩, _⟩ := h
  exact ⟨p, cap, e, h1, h2⟩
/-- one of the lists, read in a later world -/
theorem PtsAt.part {w W : World} {p : Option Addr} {cap : Nat} {ps : List (List Pc)} (h : PtsAt w (.slice p ps.length cap) ps) (hb : Below w.heap.size w W) {i : Nat} (hi : i < ps.length) :
    ∃ A q c, p = some A ∧ W.cell? (A.add i) = some (.slice q (ps.getD i []).length c) ∧ PcsAt W (.slice q (ps.getD i []).length c) (ps.getD i []) := by
  obtain ⟨us, h1, ⟨p', cap', e, _, _, h2⟩, h3⟩ := h
  obtain ⟨rfl, rfl⟩ : p = p' ∧ cap = cap' := by simpa using e
  obtain ⟨A, rfl, hA, hc⟩ := h2 (by omega)
  have hu := h3 i hi
  have hu2 := hu
  obtain ⟨q, c, e2, _⟩ := hu
  have hcell := hc i 0 hi (by omega)
  rw [show i * 1 + 0 = i by omega] at hcell
  refine ⟨A, q, c, rfl, ?_, ?_⟩
  · rw [hb.cell (by rw [add_block]; exact hA), hcell]
    unfold ptF
    rw [e2]
  · rw [← e2]
    exact hu2.step hb
/-- a row of words of which the first n are known -/
def RowS (w : World) (g n : Nat) (f : Nat → ByteArray) : Prop := ∃ cur : Array Value, w.heap[g]? = some (.cells cur 9 (0, 0)) ∧ n ≤ cur.size ∧ ∀ j, j < n → cur[j]? = some (.string (f j))
theorem RowS.own {w : World} {B g cap : Nat} {l : List ByteArray} (h : OwnS B (.slice (some ⟨g, 0, none⟩) l.length cap) l w) : RowS w g l.length (fun j => l.getD j ByteArray.empty) := by
  rcases h.2 with ⟨h', _⟩ | ⟨g', cap', cur, h', _, hg, hnc, hcm, hcs, htake⟩
  · simp at h'
  · simp only [Value.slice.injEq, Option.some.injEq, Addr.mk.injEq, and_true, true_and] at h'
    obtain ⟨rfl, rfl⟩ := h'
    refine ⟨cur, hg, by omega, fun j hj => ?_⟩
    rw [Nat.mul_one] at htake
    rw [← Array.getElem?_toList]
    have e : (cur.toList.take l.length)[j]? = (l.map Value.string)[j]? := by rw [htake]
    rw [List.getElem?_take_of_lt hj] at e
    show _ = some (Value.string (l.getD j ByteArray.empty))
    rw [e, List.getElem?_map, List.getD_eq_getElem?_getD, List.getElem?_eq_getElem hj]
    rfl
theorem RowS.cell {w : World} {g n : Nat} {f : Nat → ByteArray} (h : RowS w g n f) {j : Nat} (hj : j < n) : w.cell? ⟨g, j, none⟩ = some (.string (f j)) := by
  obtain ⟨cur, h1, _, h3⟩ := h
  simp [World.cell?, h1, h3 j hj]
theorem RowS.frozen {w : World} {g n : Nat} {f : Nat → ByteArray} (h : RowS w g n f) (j : Nat) : w.frozen? ⟨g, j, none⟩ = false := by
  obtain ⟨cur, h1, _⟩ := h
  exact Lib.frozen_of_heap h1 j
theorem RowS.lt {w : World} {g n : Nat} {f : Nat → ByteArray} (h : RowS w g n f) : g < w.heap.size := by
  obtain ⟨cur, h1, _⟩ := h
  exact lt_of_block h1
theorem RowS.congr {w : World} {g n : Nat} {f f' : Nat → ByteArray} (h : RowS w g n f) (e : ∀ j, j < n → f j = f' j) : RowS w g n f' := by
  obtain ⟨cur, h1, h2, h3⟩ := h
  exact ⟨cur, h1, h2, fun j hj => by rw [h3 j hj, e j hj]⟩
theorem RowS.set {w : World} {g n : Nat} {f : Nat → ByteArray} (h : RowS w g n f) (j : Nat) (s : ByteArray) : RowS (w.setCell ⟨g, j, none⟩ (.string s)) g n (fun q => if q = j then s else f q) := by
  obtain ⟨cur, h1, h2, h3⟩ := h
  refine ⟨cur.setIfInBounds j (.string s), cells_setCell h1 j _, by simpa using h2, fun q hq => ?_⟩
  show _ = some (Value.string (if q = j then s else f q))
  by_cases e : q = j
  · subst e
    rw [if_pos rfl, Array.getElem?_setIfInBounds_self_of_lt (by omega)]
  · rw [if_neg e, Array.getElem?_setIfInBounds_ne (Ne.symm e)]
    exact h3 q hq
theorem RowS.drew {w : World} {g n k : Nat} {f : Nat → ByteArray} (h : RowS w g n f) : RowS (w.drewN k) g n f := h
theorem RowS.step {w w' : World} {g n : Nat} {f : Nat → ByteArray} (hb : Below w.heap.size w w') (h : RowS w g n f) : RowS w' g n f := by
  obtain ⟨cur, h1, h2, h3⟩ := h
  exact ⟨cur, (hb.block g (lt_of_block h1)).trans h1, h2, h3⟩
end Go.Proofs.YtnkpjkomokkhcaaGreatDoor
namespace Go.Proofs.YtnkpjkomokkhcaaGreatDoor
open Go Go.RowKit Go.Lib
set_option maxRecDepth 100000
theorem KeptBut.drew {B b : Nat} {a w : World} (h : KeptBut B b a w) : KeptBut B b a w.drew := ⟨h.os, h.tape, h.output, h.size, h.block⟩
def turned (n k : Nat) (f : Nat → ByteArray) (q : Nat) : ByteArray := if q < k ∨ n - k ≤ q then f (n - 1 - q) else f q
end Go.Proofs.YtnkpjkomokkhcaaGreatDoor
namespace Go.Proofs.YtnkpjkomokkhcaaGreatDoor
open Go Go.RowKit Go.Lib
set_option maxRecDepth 100000
/-- words in memory, told by their places -/
def WsAt (w : World) (v : Value) (n : Nat) (f : Nat → ByteArray) : Prop := SliceAt w.heap.size w v n 1 (fun i _ => .string (f i))
theorem WsAt.step {w w' : World} {v : Value} {n : Nat} {f : Nat → ByteArray} (hb : Below w.heap.size w w') (h : WsAt w v n f) : WsAt w' v n f := (SliceAt.below hb h).mono hb.size
theorem WsAt.own {w : World} {B : Nat} {v : Value} {l : List ByteArray} (h : OwnS B v l w) : WsAt w v l.length (fun j => l.getD j ByteArray.empty) := by
  obtain ⟨ao, cap, rfl⟩ := h.form
  rcases h.2 with ⟨hv, h0⟩ | ⟨g, cap', cur, hv, hg, hh, hn, hm, _⟩
  · exact ⟨ao, cap, rfl, by omega, by simp at hv; obtain ⟨_, _, rfl⟩ := hv; unfold maxLen; omega, fun h => by omega⟩
  · simp at hv
    obtain ⟨rfl, rfl⟩ := hv
    have hr := RowS.own h
    exact ⟨_, cap, rfl, hn, hm, fun _ => ⟨_, rfl, hr.lt, fun i j hi hj => by
      rw [show i * 1 + j = i by omega, add_at]
      exact hr.cell hi⟩⟩
theorem WsAt.row {w : World} {g n cap : Nat} {f : Nat → ByteArray} (h : RowS w g n f) (h1 : n ≤ cap) (h2 : cap ≤ maxLen) : WsAt w (.slice (some ⟨g, 0, none⟩) n cap) n f :=
  ⟨_, cap, rfl, h1, h2, fun _ => ⟨_, rfl, h.lt, fun i j hi hj => by
    rw [show i * 1 + j = i by omega, add_at]
    exact h.cell hi⟩⟩
theorem WsAt.cell {w wr : World} {p : Option Addr} {n cap : Nat} {f : Nat → ByteArray} (h : WsAt w (.slice p n cap) n f) (hb : Below w.heap.size w wr) {i : Nat} (hi : i < n) : ∃ A, p = some A ∧ wr.cell? (A.add i) = some (.string (f i)) := by
  obtain ⟨p', cap', e, _, _, h3⟩ := h
  obtain ⟨rfl, rfl⟩ : p = p' ∧ cap = cap' := by simpa using e
  obtain ⟨A, rfl, hA, hc⟩ := h3 (by omega)
  refine ⟨A, rfl, ?_⟩
  have := hc i 0 hi (by omega)
  rw [show i * 1 + 0 = i by omega] at this
  rw [hb.cell (by rw [add_block]; exact hA), this]
/-- two rows of words are equal -/
def eqB (n m : Nat) (f h : Nat → ByteArray) : Bool := decide (n = m) && (List.range n).all fun i => decide (f i = h i)
end Go.Proofs.YtnkpjkomokkhcaaGreatDoor
namespace Go.Proofs.YtnkpjkomokkhcaaGreatDoor
open Go Go.RowKit Go.Lib
set_option maxRecDepth 100000
end Go.Proofs.YtnkpjkomokkhcaaGreatDoor
namespace Go.Proofs.YtnkpjkomokkhcaaGreatDoor
open Go Go.RowKit Go.Lib
set_option maxRecDepth 100000
theorem bulk_app2 (l m : List Pc) : bulk (l ++ m) = bulk l + bulk m := by
  unfold bulk
  simp
  omega
theorem flush_small (t : List UInt8) : t.length ≤ bulk (flush t) := by
  unfold flush
  split
  · rename_i e; subst e; simp
  · rw [bulk_cons]
    show _ ≤ bulk [] + (bytes t).size + 1
    have : (bytes t).size = t.length := rfl
    omega
theorem JG.small {o : List Pc} {st : Js} (h : JG o st) {N : Nat} (hb : bulk o ≤ N) : st.o.length ≤ N ∧ st.t.length ≤ N := by
  rw [h.1, bulk_app2] at hb
  have h1 := flush_small st.t
  have h2 : st.o.length ≤ bulk st.o := by unfold bulk; omega
  omega
/-- the joiner of Glue, made and empty -/
theorem JoinAt.begin (w : World) : JoinAt (w.heap.size + 1) w.heap.size [] [] (w.alloc (.cells #[.slice none 0 0, .slice none 0 0] 66)) :=
  ⟨Nat.zero_le _, .slice none 0 0, .slice none 0 0, heap_alloc_new w _, OwnP.nil _ _, OwnB.nil _ _⟩
/-- what holds while parts are glued: the joiner, and all that was there -/
def GlS (W0 : World) (st : Js) (wr : World) : Prop := JoinAt (W0.heap.size + 1) W0.heap.size st.o st.t wr ∧ Below W0.heap.size W0 wr ∧ W0.heap.size + 1 ≤ wr.heap.size
theorem GlS.step {W0 : World} {st : Js} {wr w2 : World} (h : GlS W0 st wr) (hb : Below wr.heap.size wr w2) : GlS W0 st w2 :=
  ⟨h.1.step hb, below_next h.2.1 hb, Nat.le_trans h.2.2 hb.size⟩
end Go.Proofs.YtnkpjkomokkhcaaGreatDoor
