/- Cut as data: the places, the parts, what is open. No run of any program here. whether places are cuts, by the program. The memory of Cut: the finished parts, the part under way, what is open. -/
import Derived.Test.YtnkpjkomokkhcaaGreatDoorGlC
namespace Go.Proofs.YtnkpjkomokkhcaaGreatDoor
open Go Go.RowKit Go.Lib
set_option maxRecDepth 100000
/-- places strictly increasing, above the last one and below n -/
def cutsB (n : Int) : Int → List Int → Bool
  | _, [] => true
  | last, p :: r => if p ≤ last ∨ n ≤ p then false else cutsB n p r
def closersP (o : List ByteArray) : List Pc := o.reverse.map fun s => ⟨3, s, true⟩
def openersP (o : List ByteArray) : List Pc := o.map fun s => ⟨2, s, true⟩
structure Cs where
  out : List (List Pc)
  part : List Pc
  opn : List ByteArray
  unit : Nat
def cutHere (at' : List Int) (st : Cs) (x : Pc) : Bool := decide (st.out.length < at'.length) && (decide ((st.unit : Int) = at'.getD st.out.length 0) && decide (x.k ≠ 3))
def cutOpn (o : List ByteArray) (x : Pc) : List ByteArray := if x.k = 2 then o ++ [x.s] else if x.k = 3 then o.dropLast else o
def cutUn (u : Nat) (x : Pc) : Nat := if x.k = 1 ∨ x.k = 5 then u + 1 else u
def cutPre (at' : List Int) (st : Cs) (x : Pc) : Cs := if cutHere at' st x = true then ⟨st.out ++ [st.part ++ closersP st.opn], openersP st.opn, st.opn, st.unit⟩ else st
def cutStepP (at' : List Int) (st : Cs) (x : Pc) : Cs := ⟨(cutPre at' st x).out, addP (cutPre at' st x).part x, cutOpn st.opn x, cutUn st.unit x⟩
def cs0 : Cs := ⟨[], [], [], 0⟩
def cutRunP (at' : List Int) (S : List Pc) (k : Nat) : Cs := (S.take k).foldl (cutStepP at') cs0
def cutPs (at' : List Int) (S : List Pc) : List (List Pc) := (cutRunP at' S S.length).out ++ [(cutRunP at' S S.length).part]
def longAny (ps : List (List Pc)) : Bool := ps.any fun p => decide (512 < p.length)
def ctE (l : List Pc) (at' : List Int) : Int := if checkE l ≠ 0 then checkE l else if cutsB (nUnits l) 0 at' = false then 1 else if longAny (cutPs at' (singleL l)) = true then 3 else 0
def ctR (l : List Pc) (at' : List Int) : List (List Pc) := if ctE l at' = 0 then cutPs at' (singleL l) else []
/-! what is open -/
def okS : List ByteArray → List Pc → Prop
  | _, [] => True
  | op, x :: S => (x.k = 3 → op ≠ []) ∧ op.length ≤ 16 ∧ okS (cutOpn op x) S
/-! how large it all becomes -/
def obk (o : List ByteArray) : Nat := (o.map fun s => s.size + 1).sum
end Go.Proofs.YtnkpjkomokkhcaaGreatDoor
namespace Go.Proofs.YtnkpjkomokkhcaaGreatDoor
open Go Go.RowKit Go.Lib
set_option maxRecDepth 100000
/-- whole numbers in memory -/
def IntsAt (w : World) (v : Value) (l : List Int) : Prop := SliceAt w.heap.size w v l.length 1 (fun i _ => .int .i64 (l.getD i 0))
theorem IntsAt.step {w w' : World} {v : Value} {l : List Int} (hb : Below w.heap.size w w') (h : IntsAt w v l) : IntsAt w' v l := (SliceAt.below hb h).mono hb.size
theorem IntsAt.cell {w wr : World} {p : Option Addr} {cap : Nat} {l : List Int} (h : IntsAt w (.slice p l.length cap) l) (hb : Below w.heap.size w wr) {i : Nat} (hi : i < l.length) : ∃ A, p = some A ∧ wr.cell? (A.add i) = some (.int .i64 (l.getD i 0)) := by
  obtain ⟨p', cap', e, _, _, h3⟩ := h
  obtain ⟨rfl, rfl⟩ : p = p' ∧ cap = cap' := by simpa using e
  obtain ⟨A, rfl, hA, hc⟩ := h3 (by omega)
  refine ⟨A, rfl, ?_⟩
  have := hc i 0 hi (by omega)
  rw [show i * 1 + 0 = i by omega] at this
  rw [hb.cell (by rw [add_block]; exact hA), this]
theorem IntsAt.form {w : World} {v : Value} {l : List Int} (h : IntsAt w v l) : ∃ p cap, v = .slice p l.length cap ∧ l.length ≤ cap ∧ cap ≤ maxLen := by
  obtain ⟨p, cap, e, h1, h2, _⟩ := h
  exact ⟨p, cap, e, h1, h2⟩
theorem drop_ints {l : List Int} {k : Nat} (h : k < l.length) : l.drop k = l.getD k 0 :: l.drop (k + 1) := by
  rw [List.getD_eq_getElem?_getD, List.getElem?_eq_getElem h, Option.getD_some]
  exact List.drop_eq_getElem_cons h
end Go.Proofs.YtnkpjkomokkhcaaGreatDoor
namespace Go.Proofs.YtnkpjkomokkhcaaGreatDoor
open Go Go.RowKit Go.Lib
set_option maxRecDepth 100000
/-- all that was is as it was, but for one block -/
structure Besd (w w' : World) (blk : Option Nat) : Prop where
  size : w.heap.size ≤ w'.heap.size
  heap : ∀ b, b < w.heap.size → blk ≠ some b → w'.heap[b]? = w.heap[b]?
theorem Besd.grown {w w' : World} {o : Obj} {blk : Option Nat} (h : (w.alloc o).grownBy w' blk) : Besd w w' blk := by
  refine ⟨Nat.le_trans (by simp) h.size, fun b hb hne => ?_⟩
  rw [h.block b (by simp; omega) (fun e => hne e.symm), Below.heap_alloc _ _ _ hb]
theorem Besd.below {w w' : World} (hb : Below w.heap.size w w') : Besd w w' none := ⟨hb.size, fun b hl _ => hb.block b hl⟩
theorem own_lower {w : World} {B B' sz n : Nat} {e : TypeId} {v : Value} {xs : List Value} (h : w.ownsRow B e sz v n xs) (hB : B' ≤ B) : w.ownsRow B' e sz v n xs := by
  refine ⟨h.1, ?_⟩
  rcases h.2 with hn | ⟨g, cap, cur, hv, hbg, rest⟩
  · exact .inl hn
  · exact .inr ⟨g, cap, cur, hv, Nat.le_trans hB hbg, rest⟩
theorem row_slice {w : World} {B n : Nat} {e : TypeId} {v : Value} {us : List Value} (h : w.ownsRow B e 1 v n us) : SliceAt w.heap.size w v n 1 (ptF us) := by
  have h0 := h
  have hul : us.length = n := by have := h.1; omega
  rcases h.2 with ⟨rfl, h0'⟩ | ⟨g, cap, cur, rfl, hg, hh, hn, hm, _⟩
  · subst h0'
    exact ⟨none, 0, rfl, by simp, by simp, fun h => absurd h (by simp)⟩
  · refine ⟨_, cap, rfl, hn, hm, fun _ => ⟨_, rfl, lt_of_block hh, fun i j hi hj => ?_⟩⟩
    obtain rfl : j = 0 := by omega
    have hu : us[i]? = some (us.getD i nilV1) := by rw [List.getD_eq_getElem?_getD, List.getElem?_eq_getElem (by omega)]; rfl
    have := World.ownsRow.cells h0 (g := g) rfl i _ hu
    rw [show i * 1 + 0 = i by omega]
    exact this
theorem getD_left {α : Type} (a b : List α) (d : α) {i : Nat} (h : i < a.length) : (a ++ b).getD i d = a.getD i d := by
  rw [List.getD_eq_getElem?_getD, List.getD_eq_getElem?_getD, List.getElem?_append_left h]
/-- the parts that are finished, the one under way, and what is open, all in rows of the call's own -/
structure CutMem (B Bp : Nat) (us : List Value) (out part opn : Value) (o : List (List Pc)) (p : List Pc) (n : List ByteArray) (w : World) : Prop where
  len : us.length = o.length
  row : w.ownsRow B 22 1 out o.length us
  old : ∀ i, i < o.length → OwnP B (us.getD i nilV1) (o.getD i []) w ∧ ∀ b, (us.getD i nilV1).ownBlock = some b → b < Bp
  prt : OwnP Bp part p w
  opn : OwnS B opn n w
  le : B ≤ Bp
  lt : Bp ≤ w.heap.size
theorem CutMem.step {B Bp : Nat} {us : List Value} {out part opn : Value} {o : List (List Pc)} {p : List Pc} {n : List ByteArray} {w w' : World} (h : CutMem B Bp us out part opn o p n w) (hb : Below w.heap.size w w') : CutMem B Bp us out part opn o p n w' :=
  ⟨h.len, ownsRow_step hb h.row, fun i hi => ⟨(h.old i hi).1.step hb, (h.old i hi).2⟩, h.prt.step hb, h.opn.step hb, h.le, Nat.le_trans h.lt hb.size⟩
end Go.Proofs.YtnkpjkomokkhcaaGreatDoor
