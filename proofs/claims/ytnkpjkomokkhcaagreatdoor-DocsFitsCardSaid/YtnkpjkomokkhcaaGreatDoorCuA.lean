/- What a call keeps, told by the kind of block; an append that leaves full rows alone. Laws; no run of the program here. The joiner's contracts, with what they keep told by the kind of block. The stack's contracts, with what they keep told by the kind of block; follow, whatever it answers. -/
import Derived.Maps.AppendAt
import Derived.Test.YtnkpjkomokkhcaaGreatDoorHtA
import Derived.Test.YtnkpjkomokkhcaaGreatDoorGlD
namespace Go.Proofs.YtnkpjkomokkhcaaGreatDoor
open Go Go.RowKit Go.Lib
set_option maxRecDepth 100000
/-- blocks of a kind are as they were -/
structure Keeps (C : Obj → Prop) (w w' : World) : Prop where
  size : w.heap.size ≤ w'.heap.size
  same : ∀ (k : Nat) (o : Obj), w.heap[k]? = some o → C o → w'.heap[k]? = some o
theorem Keeps.refl (C : Obj → Prop) (w : World) : Keeps C w w := ⟨Nat.le_refl _, fun _ _ h _ => h⟩
theorem Keeps.trans {C : Obj → Prop} {x y z : World} (h : Keeps C x y) (k : Keeps C y z) : Keeps C x z := ⟨Nat.le_trans h.size k.size, fun i o h1 h2 => k.same i o (h.same i o h1 h2) h2⟩
theorem Keeps.mono {C D : Obj → Prop} {w w' : World} (h : Keeps C w w') (hd : ∀ q, D q → C q) : Keeps D w w' := ⟨h.size, fun _ _ h1 h2 => h.same _ _ h1 (hd _ h2)⟩
theorem Keeps.below {C : Obj → Prop} {w w' : World} (hb : Below w.heap.size w w') : Keeps C w w' := ⟨hb.size, fun k _ hk _ => (hb.block k (lt_of_block hk)).trans hk⟩
theorem Keeps.alloc {C : Obj → Prop} {a w : World} (h : Keeps C a w) (o : Obj) : Keeps C a (w.alloc o) := h.trans (Keeps.below (below_box o))
theorem Keeps.setCell {C : Obj → Prop} {a w : World} {b : Nat} {cs : Array Value} {t : TypeId} {fr : Nat × Nat} (h : Keeps C a w) (hb : w.heap[b]? = some (.cells cs t fr)) (hC : ¬ C (.cells cs t fr)) (j : Nat) (u : Value) : Keeps C a (w.setCell ⟨b, j, none⟩ u) :=
  h.trans ⟨by simp [World.setCell], fun k o hk hc => (Below.heap_setCell _ _ _ _ (by rintro rfl; rw [hk] at hb; cases hb; exact hC hc)).trans hk⟩
/-- where the row that may have been changed is of another kind -/
theorem Keeps.grown {C : Obj → Prop} {w w' : World} {B sz n : Nat} {e : TypeId} {v : Value} {xs : List Value} (hown : w.ownsRow B e sz v n xs) (hg : w.grownBy w' v.ownBlock) (hC : ∀ cs, ¬ C (.cells cs e (0, 0))) : Keeps C w w' := by
  refine ⟨hg.size, fun k o hk hc => (hg.block k (lt_of_block hk) ?_).trans hk⟩
  intro e'
  rcases hown.2 with ⟨rfl, _⟩ | ⟨g, cap, cur, rfl, _, hgg, _⟩
  · simp [Value.ownBlock] at e'
  · simp only [Value.ownBlock, Option.some.injEq] at e'
    subst e'
    rw [hk] at hgg
    cases hgg
    exact hC _ hc
theorem Keeps.row {C : Obj → Prop} {w w' : World} {B sz n : Nat} {e : TypeId} {v : Value} {xs : List Value} (h : w.ownsRow B e sz v n xs) (hk : Keeps C w w') (hC : ∀ cs, C (.cells cs e (0, 0))) : w'.ownsRow B e sz v n xs := by
  refine ⟨h.1, ?_⟩
  rcases h.2 with hn | ⟨g, cap, cur, hv, hbg, hg, rest⟩
  · exact .inl hn
  · exact .inr ⟨g, cap, cur, hv, hbg, hk.same g _ hg (hC _), rest⟩
/-- the append of a row of the call's own leaves each block that is no row with room as it was -/
def Full (e : TypeId) (k size : Nat) (w w' : World) : Prop := ∀ (g : Nat) (o : Obj), w.heap[g]? = some o → (∀ cs t fr, o = .cells cs t fr → t = e → cs.size < k * size) → w'.heap[g]? = some o
section
variable {P : Program} (w : World)
end
/-- what the joiner's own rows are not: neither bytes, nor a joiner, nor a row of several pieces -/
def calmJ : Obj → Prop
  | .cells cs t _ => t ≠ 66 ∧ t ≠ 5 ∧ (t = 52 → cs.size ≤ 3)
  | _ => True
/-- what a stack of names is not -/
def calmS : Obj → Prop
  | .cells _ t _ => t ≠ 67 ∧ t ≠ 9
  | _ => True
end Go.Proofs.YtnkpjkomokkhcaaGreatDoor
namespace Go.Proofs.YtnkpjkomokkhcaaGreatDoor
open Go Go.RowKit Go.Lib
set_option maxRecDepth 100000
/-- a joiner in a block of its own, whose list is nil where it is empty -/
def JoinC (B b : Nat) (o : List Pc) (t : List UInt8) (w : World) : Prop := 0 ≤ b ∧ ∃ vo vt, w.heap[b]? = some (.cells #[vo, vt] 66 (0, 0)) ∧ OwnP B vo o w ∧ OwnB B vt t w ∧ (o = [] → vo = .slice none 0 0)
theorem JoinC.at {B b : Nat} {o : List Pc} {t : List UInt8} {w : World} (h : JoinC B b o t w) : JoinAt B b o t w := by
  obtain ⟨h0, vo, vt, h1, h2, h3, _⟩ := h
  exact ⟨h0, vo, vt, h1, h2, h3⟩
theorem JoinC.step {B b : Nat} {o : List Pc} {t : List UInt8} {w w' : World} (hb : Below w.heap.size w w') (h : JoinC B b o t w) : JoinC B b o t w' := by
  obtain ⟨h0, vo, vt, h1, h2, h3, h4⟩ := h
  exact ⟨h0, vo, vt, by rw [hb.block b (lt_of_block h1)]; exact h1, h2.step hb, h3.step hb, h4⟩
theorem JoinC.lt {B b : Nat} {o : List Pc} {t : List UInt8} {w : World} (h : JoinC B b o t w) : b < w.heap.size := h.at.lt
theorem JoinC.put {B b : Nat} {o : List Pc} {t : List UInt8} {w w' : World} {vo vt : Value} (hB : 0 ≤ b) (hw : w'.heap[b]? = some (.cells #[vo, vt] 66 (0, 0))) (hg : w.grownBy w' (some b)) (hb : ∃ cs, w.heap[b]? = some (.cells cs 66 (0, 0)))
    (ho : OwnP B vo o w) (ht : OwnB B vt t w) (hn : o = [] → vo = .slice none 0 0) : JoinC B b o t w' := by
  obtain ⟨cs, hb⟩ := hb
  exact ⟨hB, vo, vt, hw, ho.kept hg (.inr (own_other ho hb (by decide))), ht.kept hg (.inr (own_other ht hb (by decide))), hn⟩
end Go.Proofs.YtnkpjkomokkhcaaGreatDoor
namespace Go.Proofs.YtnkpjkomokkhcaaGreatDoor
open Go Go.RowKit Go.Lib
set_option maxRecDepth 100000
end Go.Proofs.YtnkpjkomokkhcaaGreatDoor
