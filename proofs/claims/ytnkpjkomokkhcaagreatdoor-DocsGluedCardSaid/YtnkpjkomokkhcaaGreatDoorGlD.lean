/- Cut as data: the places, the parts, what is open. No run of any program here. whether places are cuts, by the program. The memory of Cut: the finished parts, the part under way, what is open. -/
import Derived.Test.YtnkpjkomokkhcaaGreatDoorGlC
namespace Go.Proofs.YtnkpjkomokkhcaaGreatDoor
open Go Go.RowKit Go.Lib
set_option maxRecDepth 100000
/-- places strictly increasing, above the last one and below n -/
def cutsB (n : Int) : Int → List Int → Bool
  | _, [] => true
  | last, p :: r => if p ≤ last ∨ n ≤ p then false else cutsB n p r
def closersP (o : List ByteArray) : List Pc := o.reverse.map fun s => ⟨3, s, true⟩
def openersP (o : List ByteArray) : List Pc := o.map fun s => ⟨2, s, true⟩
structure Cs where
  out : List (List Pc)
  part : List Pc
  opn : List ByteArray
  unit : Nat
def cutHere (at' : List Int) (st : Cs) (x : Pc) : Bool := decide (st.out.length < at'.length) && (decide ((st.unit : Int) = at'.getD st.out.length 0) && decide (x.k ≠ 3))
def cutOpn (o : List ByteArray) (x : Pc) : List ByteArray := if x.k = 2 then o ++ [x.s] else if x.k = 3 then o.dropLast else o
def cutUn (u : Nat) (x : Pc) : Nat := if x.k = 1 ∨ x.k = 5 then u + 1 else u
def cutPre (at' : List Int) (st : Cs) (x : Pc) : Cs := if cutHere at' st x = true then ⟨st.out ++ [st.part ++ closersP st.opn], openersP st.opn, st.opn, st.unit⟩ else st
def cutStepP (at' : List Int) (st : Cs) (x : Pc) : Cs := ⟨(cutPre at' st x).out, addP (cutPre at' st x).part x, cutOpn st.opn x, cutUn st.unit x⟩
def cs0 : Cs := ⟨[], [], [], 0⟩
def cutRunP (at' : List Int) (S : List Pc) (k : Nat) : Cs := (S.take k).foldl (cutStepP at') cs0
def cutPs (at' : List Int) (S : List Pc) : List (List Pc) := (cutRunP at' S S.length).out ++ [(cutRunP at' S S.length).part]
def longAny (ps : List (List Pc)) : Bool := ps.any fun p => decide (512 < p.length)
def ctE (l : List Pc) (at' : List Int) : Int := if checkE l ≠ 0 then checkE l else if cutsB (nUnits l) 0 at' = false then 1 else if longAny (cutPs at' (singleL l)) = true then 3 else 0
def ctR (l : List Pc) (at' : List Int) : List (List Pc) := if ctE l at' = 0 then cutPs at' (singleL l) else []
/-! what is open -/
def okS : List ByteArray → List Pc → Prop
  | _, [] => True
  | op, x :: S => (x.k = 3 → op ≠ []) ∧ op.length ≤ 16 ∧ okS (cutOpn op x) S
/-! how large it all becomes -/
def obk (o : List ByteArray) : Nat := (o.map fun s => s.size + 1).sum
end Go.Proofs.YtnkpjkomokkhcaaGreatDoor
namespace Go.Proofs.YtnkpjkomokkhcaaGreatDoor
open Go Go.RowKit Go.Lib
set_option maxRecDepth 100000
/-- whole numbers in memory -/
def IntsAt (w : World) (v : Value) (l : List Int) : Prop := SliceAt w.heap.size w v l.length 1 (fun i _ => .int .i64 (l.getD i 0))
theorem IntsAt.step {w w' : World} {v : Value} {l : List Int} (hb : Below w.heap.size w w') (h : IntsAt w v l) : IntsAt w' v l := (SliceAt.below hb h).mono hb.size
theorem IntsAt.cell {w wr : World} {p : Option Addr} {cap : Nat} {l : List Int} (h : IntsAt w (.slice p l.length cap) l) (hb : Below w.heap.size w wr) {i : Nat} (hi : i < l.length) : ∃ A, p = some A ∧ wr.cell? (A.add i) = some (.int .i64 (l.getD i 0)) := by
  obtain ⟨p', cap', e, _, _, h3⟩ := h
  obtain ⟨rfl, rfl⟩ : p = p' ∧ cap = cap' := by simpa using e
  obtain ⟨A, rfl, hA, hc⟩ := h3 (by omega)
  refine ⟨A, rfl, ?_⟩
  have := hc i 0 hi (by omega)
  rw [show i * 1 + 0 = i by omega] at this
  rw [hb.cell (by rw [add_block]; exact hA), this]
theorem IntsAt.form {w : World} {v : Value} {l : List Int} (h : IntsAt w v l) : ∃ p cap, v = .slice p l.length cap ∧ l.length ≤ cap ∧ cap ≤ maxLen := by
  obtain ⟨p, cap, e, h1, h2, _⟩ := h
  exact ⟨p, cap, e, h1, h2⟩
theorem drop_ints {l : List Int} {k : Nat} (h : k < l.length) : l.drop k = l.getD k 0 :: l.drop (k + 1) := by
  rw [List.getD_eq_getElem?_getD, List.getElem?_eq_getElem h, Option.getD_some]
  exact List.drop_eq_getElem_cons h
theorem cuts_no {n last : Int} {l : List Int} {k : Nat} (h : k < l.length) (hc : l.getD k 0 ≤ last ∨ n ≤ l.getD k 0) : cutsB n last (l.drop k) = false := by
  rw [drop_ints h]; unfold cutsB; rw [if_pos hc]
theorem cuts_go {n last : Int} {l : List Int} {k : Nat} (h : k < l.length) (h1 : ¬ l.getD k 0 ≤ last) (h2 : ¬ n ≤ l.getD k 0) : cutsB n last (l.drop k) = cutsB n (l.getD k 0) (l.drop (k + 1)) := by
  rw [drop_ints h]
  show (if _ ∨ _ then _ else _) = _
  rw [if_neg (by intro h; rcases h with h | h <;> contradiction)]
theorem cuts_end (n last : Int) (l : List Int) : cutsB n last (l.drop l.length) = true := by rw [List.drop_length]; rfl
set_option maxHeartbeats 4000000 in
theorem areCuts_any (l : List Int) (n : Int) (v : Value) (w : World) (hv : IntsAt w v l) :
    Calls Tryz.prog 34 #[v, .int .i64 n] w fun e w' => e = .returned (.bool (cutsB n 0 l)) ∧ w' = w := by
  have HV := Lib.hid hv
  obtain ⟨p, cap, rfl, hl, hc⟩ := hv.form
  unfold maxLen at hc
  clear hv
  obtain ⟨R, hR⟩ : ∃ R, R = cutsB n 0 l := ⟨_, rfl⟩
  rw [← hR]
  go_enter Tryz.func34, Tryz.ntmps34
  go_wp2
  go_loop [5, 10] (fun la i => ∃ (k : Nat) (last : Int), k ≤ l.length ∧ i = .int .i64 k ∧ la = .int .i64 last ∧ Hid (R = cutsB n last (l.drop k))) (fun _ i => l.length - (RowKit.intOf i).toNat)
  case atStart => exact ⟨0, 0, Nat.zero_le _, rfl, rfl, hR⟩
  case round =>
    clear hR
    obtain ⟨k, last, hk, rfl, rfl, HC⟩ := hrel
    by_cases hlt : k < l.length
    · obtain ⟨A, rfl, x0⟩ := HV.out.cell (Below.refl _ _) hlt
      have hki : (k : Int) < (l.length : Int) := by omega
      have hk0 : (0 : Int) ≤ (k : Int) := by omega
      by_cases h1 : l.getD k 0 ≤ last
      · have HR := Lib.hid (HC.out.trans (cuts_no hlt (.inl h1)))
        generalize l.getD k 0 = x at x0 h1
        go_wp2
        go_ret
        exact ⟨by rw [HR.out]; rfl, rfl⟩
      · by_cases h2 : n ≤ l.getD k 0
        · have HR := Lib.hid (HC.out.trans (cuts_no hlt (.inr h2)))
          generalize l.getD k 0 = x at x0 h1 h2
          go_wp2
          go_ret
          exact ⟨by rw [HR.out]; rfl, rfl⟩
        · have HR := Lib.hid (HC.out.trans (cuts_go hlt h1 h2))
          generalize l.getD k 0 = x at x0 h1 h2 HR
          go_wp2
          go_round
          case rel => exact ⟨k + 1, x, hlt, by go_num, rfl, HR.out⟩
          case measure => simp [RowKit.intOf] <;> omega
    · obtain rfl : k = l.length := by omega
      have hki : ¬ (l.length : Int) < (l.length : Int) := by omega
      have HR := Lib.hid (HC.out.trans (cuts_end n last l))
      go_wp2
      go_ret
      exact ⟨by rw [HR.out]; rfl, rfl⟩
end Go.Proofs.YtnkpjkomokkhcaaGreatDoor
namespace Go.Proofs.YtnkpjkomokkhcaaGreatDoor
open Go Go.RowKit Go.Lib
set_option maxRecDepth 100000
/-- all that was is as it was, but for one block -/
structure Besd (w w' : World) (blk : Option Nat) : Prop where
  size : w.heap.size ≤ w'.heap.size
  heap : ∀ b, b < w.heap.size → blk ≠ some b → w'.heap[b]? = w.heap[b]?
theorem Besd.grown {w w' : World} {o : Obj} {blk : Option Nat} (h : (w.alloc o).grownBy w' blk) : Besd w w' blk := by
  refine ⟨Nat.le_trans (by simp) h.size, fun b hb hne => ?_⟩
  rw [h.block b (by simp; omega) (fun e => hne e.symm), Below.heap_alloc _ _ _ hb]
theorem Besd.below {w w' : World} (hb : Below w.heap.size w w') : Besd w w' none := ⟨hb.size, fun b hl _ => hb.block b hl⟩
theorem own_lower {w : World} {B B' sz n : Nat} {e : TypeId} {v : Value} {xs : List Value} (h : w.ownsRow B e sz v n xs) (hB : B' ≤ B) : w.ownsRow B' e sz v n xs := by
  refine ⟨h.1, ?_⟩
  rcases h.2 with hn | ⟨g, cap, cur, hv, hbg, rest⟩
  · exact .inl hn
  · exact .inr ⟨g, cap, cur, hv, Nat.le_trans hB hbg, rest⟩
theorem row_slice {w : World} {B n : Nat} {e : TypeId} {v : Value} {us : List Value} (h : w.ownsRow B e 1 v n us) : SliceAt w.heap.size w v n 1 (ptF us) := by
  have h0 := h
  have hul : us.length = n := by have := h.1; omega
  rcases h.2 with ⟨rfl, h0'⟩ | ⟨g, cap, cur, rfl, hg, hh, hn, hm, _⟩
  · subst h0'
    exact ⟨none, 0, rfl, by simp, by simp, fun h => absurd h (by simp)⟩
  · refine ⟨_, cap, rfl, hn, hm, fun _ => ⟨_, rfl, lt_of_block hh, fun i j hi hj => ?_⟩⟩
    obtain rfl : j = 0 := by omega
    have hu : us[i]? = some (us.getD i nilV1) := by rw [List.getD_eq_getElem?_getD, List.getElem?_eq_getElem (by omega)]; rfl
    have := World.ownsRow.cells h0 (g := g) rfl i _ hu
    rw [show i * 1 + 0 = i by omega]
    exact this
theorem getD_left {α : Type} (a b : List α) (d : α) {i : Nat} (h : i < a.length) : (a ++ b).getD i d = a.getD i d := by
  rw [List.getD_eq_getElem?_getD, List.getD_eq_getElem?_getD, List.getElem?_append_left h]
/-- the parts that are finished, the one under way, and what is open, all in rows of the call's own -/
structure CutMem (B Bp : Nat) (us : List Value) (out part opn : Value) (o : List (List Pc)) (p : List Pc) (n : List ByteArray) (w : World) : Prop where
  len : us.length = o.length
  row : w.ownsRow B 22 1 out o.length us
  old : ∀ i, i < o.length → OwnP B (us.getD i nilV1) (o.getD i []) w ∧ ∀ b, (us.getD i nilV1).ownBlock = some b → b < Bp
  prt : OwnP Bp part p w
  opn : OwnS B opn n w
  le : B ≤ Bp
  lt : Bp ≤ w.heap.size
theorem CutMem.step {B Bp : Nat} {us : List Value} {out part opn : Value} {o : List (List Pc)} {p : List Pc} {n : List ByteArray} {w w' : World} (h : CutMem B Bp us out part opn o p n w) (hb : Below w.heap.size w w') : CutMem B Bp us out part opn o p n w' :=
  ⟨h.len, ownsRow_step hb h.row, fun i hi => ⟨(h.old i hi).1.step hb, (h.old i hi).2⟩, h.prt.step hb, h.opn.step hb, h.le, Nat.le_trans h.lt hb.size⟩
end Go.Proofs.YtnkpjkomokkhcaaGreatDoor
