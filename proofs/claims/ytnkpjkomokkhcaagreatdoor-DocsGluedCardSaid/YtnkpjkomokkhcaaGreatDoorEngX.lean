/-
  A CLOSED RUN, HELD AGAINST THE MODEL (17): a call without arguments, in any world: the package-level variables are not looked at.
-/
import Derived.Test.YtnkpjkomokkhcaaGreatDoorEngR
import Derived.Below
namespace Go.Eng
open Go.RowKit
noncomputable section
set_option linter.unusedVariables false

def okB (r : Option (Value × EM)) (b : Bool) : Bool :=
  match r with
  | some (.bool x, _) => x == b
  | _ => false
/-- Nothing of the package-level variables is known. -/
def bareE (ng : Nat) : EM := ⟨ng, .leaf⟩
theorem bare_good (P : Program) {ng : Nat} {w : World} (h : ng ≤ w.heap.size) : ∃ β, Good P w.heap.size w β (bareE ng) w ∧ Glob ng β := by
  refine ⟨fun k => if k < ng then some ⟨k, 0, 0, 0, 0⟩ else none, ⟨fun k hk => ⟨_, if_pos hk⟩, ?_, ?_, ?_, ?_, fun _ _ => rfl, Nat.le_refl _, rfl, rfl, rfl⟩, ?_⟩
  · intro k l e

    split at e
    · assumption
    · cases e
  · intro k k' l l' e e' d _ _
    exact absurd (by rw [EM.get_eq]; show (if k < ng then (Tr.leaf : Tr EB).get .dead k else EB.dead) = .dead; rw [Tr.get_leaf]; split <;> rfl) d
  · intro k l e

    split at e
    · cases e; show k < _; omega
    · cases e
  · intro k l e
    have : (bareE ng).get k = .dead := by rw [EM.get_eq]; show (if k < ng then (Tr.leaf : Tr EB).get .dead k else EB.dead) = .dead; rw [Tr.get_leaf]; split <;> rfl
    rw [this]
    trivial
  · intro g hg
    exact ⟨⟨g, 0, 0, 0, 0⟩, by simp [hg], rfl, rfl⟩
theorem Good.below {P : Program} {w w' : World} {β : Map} {E : EM} (g : Good P w.heap.size w β E w') : Below w.heap.size w w' := ⟨g.os, g.tape, g.out, g.ge, g.old⟩
/-- THE CLOSED CALL: what the kernel runs, the model's call returns, in any world. -/
theorem closed_call {P : Program} (hmix : P.follows .mixedOrders = true) (hrec : P.follows .rangeFuncRecover = true) (hn : plainNames P = true) {f : FuncId} {fn : Func} {b : Code} (hf : P.funcs[f]? = some fn) (hb : fn.body = some b) {ng n : Nat} {r : Bool}
    (h : okB (runF P ng n ⟨f, Slots.ofL [] (fn.ntmps - 0), [.code b], [], false, none⟩ (bareE ng)) r = true) (w : World) (hw : ng ≤ w.heap.size) :
    Calls P f #[] w fun e w' => e = .returned (.bool r) ∧ Below w.heap.size w w' := by
  obtain ⟨β, g, hg⟩ := bare_good P hw
  unfold okB at h
  split at h
  case h_2 => cases h
  rename_i x E1 hrun
  have hx : x = r := by simpa using h
  subst hx
  refine (calls_of_run hmix hrec hn g hg hf hb (args := []) (args' := #[]) .nil hrun).mono fun e w' ⟨β1, v', he, hv, _, g1⟩ => ⟨?_, g1.below⟩
  rw [he, hv.boolInv]
end
end Go.Eng
