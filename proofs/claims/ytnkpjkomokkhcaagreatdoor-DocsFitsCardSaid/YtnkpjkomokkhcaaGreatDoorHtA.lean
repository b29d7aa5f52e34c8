/- Drawn regions: what the loads read is asked only till the last operation that waits for them has come up (so that the region's own stores may write it). A joiner and a list to which pieces are added, on both sides (parts of the texts about words). -/
import Derived.Deep.RegionHeld3
import Derived.Test.YtnkpjkomokkhcaaGreatDoorRwA
import Derived.Test.YtnkpjkomokkhcaaGreatDoorDqA
import Derived.StillTailTactics
namespace Go.Proofs.YtnkpjkomokkhcaaGreatDoor
open Go
variable {P : Program} {ops : Array Oper} {Q : Exit → Act → World → Prop} {md : Region.Mode} {S : World → Prop} {T : Array Bool → Bool}
/-- whatever order is picked from here on; behind an operation S holds as long as T asks for it -/
def wpTill (P : Program) (md : Region.Mode) (ops : Array Oper) (Q : Exit → Act → World → Prop) (S : World → Prop) (T : Array Bool → Bool) : Nat → Array Bool → Act → World → Prop
  | 0, listed, a, w => Region.ready md ops listed = [] ∧ Q .normal a w
  | fuel + 1, listed, a, w =>
    (Region.ready md ops listed = [] → Q .normal a w) ∧
    ∀ i ∈ Region.ready md ops listed, wpOp P ops Q i (fun b x => (T (listed.setIfInBounds i true) = true → S x) ∧ wpTill P md ops Q S T fuel (listed.setIfInBounds i true) b x) a w
/-- what has come up has all that it waits for behind it -/
def closedB (md : Region.Mode) (ops : Array Oper) (listed : Array Bool) : Bool :=
  (List.range ops.size).all fun j => !listed.getD j false || (match ops[j]? with | some o => o.after.all fun e => !Region.binds md e || listed.getD e.on false | none => true)
def Closed (md : Region.Mode) (ops : Array Oper) (listed : Array Bool) : Prop := ∀ j o, ops[j]? = some o → listed.getD j false = true → ∀ e ∈ o.after, Region.binds md e = true → listed.getD e.on false = true
theorem Closed.of {listed : Array Bool} (h : closedB md ops listed = true) : Closed md ops listed := by
  intro j o ho hl e he hb
  have hj : j < ops.size := (Array.getElem?_eq_some_iff.1 ho).1
  have h1 := List.all_eq_true.1 h j (List.mem_range.2 hj)
  rw [hl, ho] at h1
  simp only [Bool.not_true, Bool.false_or, Array.all_eq_true_iff_forall_mem] at h1
  have h2 := h1 e he
  rw [hb] at h2
  simpa using h2
theorem Closed.set {listed : Array Bool} {i : Nat} (h : Closed md ops listed) (hi : i ∈ Region.ready md ops listed) : Closed md ops (listed.setIfInBounds i true) := by
  obtain ⟨_, oi, hoi, hall⟩ := mem_ready.1 hi
  intro j o ho hl e he hb
  by_cases hij : i = j
  · subst hij
    obtain rfl : oi = o := Option.some.inj (hoi.symm.trans ho)
    exact getD_set_true (hall e he hb)
  · rw [getD_set_ne false hij] at hl
    exact getD_set_true (h j o ho hl e he hb)
/-- does one operation wait for another one? -/
def waitsB (md : Region.Mode) (ops : Array Oper) (m i : Nat) : Bool := match ops[m]? with | some o => m != i && o.after.any fun e => Region.binds md e && e.on == i | none => false
/-- S is asked as long as one of these operations has not come up -/
def tillAll (ms : List Nat) (l : Array Bool) : Bool := ms.any fun m => !l.getD m true
/-- each of these operations comes up next -/
def NextTill (P : Program) (md : Region.Mode) (ops : Array Oper) (Q : Exit → Act → World → Prop) (S : World → Prop) (T : Array Bool → Bool) (fuel : Nat) (listed : Array Bool) (a : Act) (w : World) (rs : List Nat) : Prop :=
  ∀ i ∈ rs, wpOp P ops Q i (fun b x => (T (listed.setIfInBounds i true) = true → S x) ∧ wpTill P md ops Q S T fuel (listed.setIfInBounds i true) b x) a w
theorem NextTill.nil {fuel : Nat} {listed : Array Bool} {a : Act} {w : World} : NextTill P md ops Q S T fuel listed a w [] := fun _ h => by cases h
theorem NextTill.cons {fuel : Nat} {listed : Array Bool} {a : Act} {w : World} {i : Nat} {o : Oper} {rs : List Nat} (ho : ops[i]? = some o)
    (h : ∀ K : Act → World → Prop, Shut (∀ b x, (T (listed.setIfInBounds i true) = true → S x) → wpTill P md ops Q S T fuel (listed.setIfInBounds i true) b x → K b x) → if Region.wanted o (yielded ops a.tmps) = true then Oper.wp P o a w K Q else K (a.put o.dst undef) w)
    (hs : NextTill P md ops Q S T fuel listed a w rs) : NextTill P md ops Q S T fuel listed a w (i :: rs) := fun j hj => by
  rcases List.mem_cons.1 hj with rfl | hj
  · exact wpOp_step ho (fun K hK => h K (fun b x h1 h2 => hK b x ⟨h1, h2⟩))
  · exact hs j hj
end Go.Proofs.YtnkpjkomokkhcaaGreatDoor
namespace Go.Proofs.YtnkpjkomokkhcaaGreatDoor
open Go Go.RowKit Go.Lib
set_option maxRecDepth 100000
set_option maxRecDepth 1000000
set_option maxRecDepth 100000
theorem cells_setCell {w : World} {g : Nat} {cur : Array Value} {t : TypeId} (h : w.heap[g]? = some (.cells cur t (0, 0))) (j : Nat) (u : Value) :
    (w.setCell ⟨g, j, none⟩ u).heap[g]? = some (.cells (cur.setIfInBounds j u) t (0, 0)) := by
  simp [World.setCell, Array.getElem?_modify, h]
theorem ownsRow_put {w : World} {base : Nat} {e : TypeId} {size n cap g : Nat} {xs : List Value} (h : w.ownsRow base e size (.slice (some ⟨g, 0, none⟩) n cap) n xs) (j : Nat) (u : Value) :
    (w.setCell ⟨g, j, none⟩ u).ownsRow base e size (.slice (some ⟨g, 0, none⟩) n cap) n (xs.set j u) := by
  obtain ⟨h1, h2⟩ := h
  refine ⟨by rw [List.length_set]; exact h1, ?_⟩
  rcases h2 with ⟨h2, _⟩ | ⟨g', cap', cur, hv, hg, hh, hn, hm, hs, ht⟩
  · cases h2
  · cases hv
    exact .inr ⟨g, cap, _, rfl, hg, cells_setCell hh j u, hn, hm, by simpa using hs, by rw [← ht]; simp [List.take_set]⟩
theorem OwnP.put {B : Nat} {g cap : Nat} {o : List Pc} {y : Pc} {s : ByteArray} {w : World} (h : OwnP B (.slice (some ⟨g, 0, none⟩) (o.length + 1) cap) (o ++ [y]) w) :
    OwnP B (.slice (some ⟨g, 0, none⟩) (o.length + 1) cap) (o ++ [⟨y.k, s, y.c⟩]) (w.setCell ⟨g, o.length * 3 + 1, none⟩ (.string s)) := by
  unfold OwnP at h ⊢
  rw [List.length_append] at h ⊢
  have := ownsRow_put h (o.length * 3 + 1) (.string s)
  have hc : (cells3 o).length = o.length * 3 := by
    have h1 := h.1
    rw [cells3_app, List.length_append] at h1
    simp [cells3] at h1 ⊢
    omega
  rw [cells3_app] at this ⊢
  rw [List.set_append_right (h := by omega)] at this
  rw [show o.length * 3 + 1 - (cells3 o).length = 1 by omega] at this
  exact this
def addP (l : List Pc) (x : Pc) : List Pc := match l.getLast? with
  | some y => if x.k = 1 ∧ y.k = 1 then l.dropLast ++ [⟨y.k, y.s ++ x.s, y.c⟩] else l ++ [x]
  | none => l ++ [x]
theorem addP_more {o : List Pc} {y x : Pc} (h : ¬ (x.k = 1 ∧ y.k = 1)) : addP (o ++ [y]) x = (o ++ [y]) ++ [x] := by unfold addP; rw [List.getLast?_concat]; simp [h]
theorem addP_join {o : List Pc} {y x : Pc} (h : x.k = 1) (h' : y.k = 1) : addP (o ++ [y]) x = o ++ [⟨y.k, y.s ++ x.s, y.c⟩] := by unfold addP; rw [List.getLast?_concat]; simp [h, h']
theorem OwnP.last {B : Nat} {o : List Pc} {y : Pc} {v : Value} {w : World} (h : OwnP B v (o ++ [y]) w) : ∃ g cap, v = .slice (some ⟨g, 0, none⟩) (o.length + 1) cap ∧ o.length + 1 ≤ cap ∧ g < w.heap.size ∧ B ≤ g ∧
    w.cell? ⟨g, o.length * 3, none⟩ = some (.int .u8 y.k) ∧ w.cell? ⟨g, o.length * 3 + 1, none⟩ = some (.string y.s) ∧ w.cell? ⟨g, o.length * 3 + 2, none⟩ = some (.bool y.c) ∧ w.frozen? ⟨g, o.length * 3 + 1, none⟩ = false := by
  have hp := h.at
  obtain ⟨p, cap', e, h1, h2, h3⟩ := hp
  rcases h.2 with ⟨rfl, h0⟩ | ⟨g, cap, cur, rfl, hg, hh, hn, hm, _⟩
  · simp at h0
  · cases e
    obtain ⟨A, hA1, hA, hcell⟩ := h3 (by simp)
    cases hA1
    obtain ⟨c0, c1, c2⟩ := pcs_cells hA hcell (k := o.length) (by simp) (Below.refl _ w)
    have hy : (o ++ [y]).getD o.length Go.Proofs.YtnkpjkomokkhcaaGreatDoor.nil = y := by simp
    rw [hy, add_at] at c0 c1 c2
    refine ⟨g, _, by rw [List.length_append, List.length_singleton], by simpa using hn, hA, hg, c0, c1, c2, Lib.frozen_of_heap hh _⟩
/-- all that was is as it was, but for the row itself -/
def BesideOwn (w w' : World) (v : Value) : Prop := ∀ b, b < w.heap.size → v.ownBlock ≠ some b → w'.heap[b]? = w.heap[b]?
theorem BesideOwn.grown {w w' : World} {v : Value} {o o' : Obj} (h : ((w.alloc o).alloc o').grownBy w' v.ownBlock) : BesideOwn w w' v := fun b hb hv => by
  have h1 : b < (w.alloc o).heap.size := by simp; omega
  have h2 : b < ((w.alloc o).alloc o').heap.size := by simp; omega
  rw [h.block b h2 (fun e => hv e.symm), Below.heap_alloc _ _ _ h1, Below.heap_alloc _ _ _ hb]
set_option maxRecDepth 100000
structure Js where
  o : List Pc
  t : List UInt8
  last : Pc
  due : Bool
def js3 (x : Pc) (st : Js) : Js := if x.k = 1 then ⟨st.o, st.t ++ x.s.data.toList, st.last, st.due⟩ else ⟨st.o ++ flush st.t ++ [x], [], st.last, st.due⟩
theorem list_size (s : ByteArray) : s.data.toList.length = s.size := rfl
theorem flush_text {o : List Pc} {t : List UInt8} {s : ByteArray} (ho : ∀ y, o.getLast? = some y → y.k ≠ 1) (hs : 0 < s.size) : addP (o ++ flush t) ⟨1, s, false⟩ = o ++ flush (t ++ s.data.toList) := by
  have hne : s.data.toList ≠ [] := by intro h; rw [← list_size, h] at hs; simp at hs
  by_cases ht : t = []
  · subst ht
    have e1 : flush [] = [] := rfl
    have e2 : flush ([] ++ s.data.toList) = [⟨1, s, false⟩] := by unfold flush; rw [List.nil_append, if_neg hne]; rfl
    rw [e1, e2, List.append_nil]
    rcases List.eq_nil_or_concat o with rfl | ⟨o', y, rfl⟩
    · rfl
    · rw [List.concat_eq_append] at ho ⊢
      exact addP_more (fun h => ho y List.getLast?_concat h.2)
  · have e1 : flush t = [⟨1, bytes t, false⟩] := by unfold flush; rw [if_neg ht]
    have e2 : flush (t ++ s.data.toList) = [⟨1, bytes (t ++ s.data.toList), false⟩] := by unfold flush; rw [if_neg (by simp [ht])]
    rw [e1, e2, addP_join rfl rfl]
    apply congrArg (fun z => o ++ [Pc.mk 1 z false])
    apply ByteArray.ext
    apply Array.ext'
    simp [bytes]
theorem flush_other {o : List Pc} {t : List UInt8} {x : Pc} (hx : x.k ≠ 1) : addP (o ++ flush t) x = o ++ flush t ++ [x] := by
  rcases List.eq_nil_or_concat (o ++ flush t) with e | ⟨o', y, e⟩
  · rw [e]; rfl
  · rw [e, List.concat_eq_append]
    exact addP_more (fun h => hx h.1)
/-- a word's piece behind all that stands -/
theorem js3_add {st : Js} {x : Pc} (ho : ∀ y, st.o.getLast? = some y → y.k ≠ 1) (hx : x.k = 1 → x = ⟨1, x.s, false⟩ ∧ 0 < x.s.size) :
    addP (st.o ++ flush st.t) x = (js3 x st).o ++ flush (js3 x st).t ∧ (∀ y, (js3 x st).o.getLast? = some y → y.k ≠ 1) ∧ (js3 x st).last = st.last ∧ (js3 x st).due = st.due := by
  unfold js3
  by_cases h : x.k = 1
  · rw [if_pos h]
    obtain ⟨e, hs⟩ := hx h
    refine ⟨?_, ho, rfl, rfl⟩
    rw [e]
    exact flush_text ho hs
  · rw [if_neg h]
    refine ⟨by rw [flush_other h]; exact (List.append_nil _).symm, fun y hy => ?_, rfl, rfl⟩
    rw [List.getLast?_concat] at hy
    cases hy
    exact h
end Go.Proofs.YtnkpjkomokkhcaaGreatDoor
