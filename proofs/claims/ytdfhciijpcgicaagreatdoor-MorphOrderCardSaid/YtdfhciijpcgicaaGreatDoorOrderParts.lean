/- MorphOrder's walk: unifying does not depend on the order, and what two lists unify to is the least one that both subsume. -/
import Derived.Test.YtdfhciijpcgicaaGreatDoorOpen
import Derived.Test.YtdfhciijpcgicaaGreatDoorUnifyW
import Derived.Test.YtdfhciijpcgicaaGreatDoorOrderFacts
import Derived.Test.YtdfhciijpcgicaaGreatDoorUnifies
namespace Go.Proofs.YtdfhciijpcgicaaGreatDoor
open Go Go.Eng Go.ChangeShapes Go.WideShapes Go.ChangeAt Go.ChangeMaps Go.RowKit
/-- what a unification leaves, from any world of the call's own on -/
theorem wide_from {w wr : World} {u v : Value} {l m : List Ft} (hb : Below w.heap.size w wr) (hl : l.length + m.length ≤ 400) (h : ReadsIn wr.heap.size wr u l) (h' : ReadsIn wr.heap.size wr v m) :
    Calls Tryz.prog 15 #[u, v] wr fun e w' => Below w.heap.size w w' ∧ Below wr.heap.size wr w' ∧
      ((unify l m = none ∧ e = .returned (.tuple #[.slice none 0 0, .bool false])) ∨ ∃ r x, unify l m = some r ∧ e = .returned (.tuple #[x, .bool true]) ∧ ReadsIn w'.heap.size w' x r) := by
  refine (unify_wide u v l m wr hl h h').mono fun e w' ⟨hb', he⟩ => ⟨hb.trans (hb'.mono hb.size), hb', ?_⟩
  rcases he with he | ⟨r, x, h1, h2, h3⟩
  · exact .inl he
  · exact .inr ⟨r, x, h1, h2, reads_owned h3⟩
theorem wide_none {w wr : World} {u v : Value} {l m : List Ft} (hn : unify l m = none) (hb : Below w.heap.size w wr) (hl : l.length + m.length ≤ 400) (h : ReadsIn wr.heap.size wr u l) (h' : ReadsIn wr.heap.size wr v m) :
    Calls Tryz.prog 15 #[u, v] wr fun e w' => e = .returned (.tuple #[.slice none 0 0, .bool false]) ∧ Below w.heap.size w w' ∧ Below wr.heap.size wr w' := by
  refine (wide_from hb hl h h').mono fun e w' ⟨h1, h2, h3⟩ => ?_
  rcases h3 with ⟨_, he⟩ | ⟨r, x, h4, _⟩
  · exact ⟨he, h1, h2⟩
  · rw [hn] at h4; cases h4
theorem wide_some {w wr : World} {u v : Value} {l m r : List Ft} (hn : unify l m = some r) (hb : Below w.heap.size w wr) (hl : l.length + m.length ≤ 400) (h : ReadsIn wr.heap.size wr u l) (h' : ReadsIn wr.heap.size wr v m) :
    Calls Tryz.prog 15 #[u, v] wr fun e w' => ∃ x, e = .returned (.tuple #[x, .bool true]) ∧ Below w.heap.size w w' ∧ Below wr.heap.size wr w' ∧ ReadsIn w'.heap.size w' x r := by
  refine (wide_from hb hl h h').mono fun e w' ⟨h1, h2, h3⟩ => ?_
  rcases h3 with ⟨h4, _⟩ | ⟨r', x, h4, he, h5⟩
  · rw [hn] at h4; cases h4
  · rw [hn] at h4; cases h4; exact ⟨x, he, h1, h2, h5⟩
theorem same_from {w wr : World} {u v : Value} {r : List Ft} (hb : Below w.heap.size w wr) (h : Reads wr u r) (h' : Reads wr v r) :
    Calls Tryz.prog 17 #[u, v] wr fun e w' => e = .returned (.bool true) ∧ Below w.heap.size w w' ∧ Below wr.heap.size wr w' := by
  refine (same_any wr h h').mono ?_
  rintro e w' ⟨rfl, n, rfl⟩
  exact ⟨by simp, hb.trans ((below_drew wr n).mono hb.size), below_drew wr n⟩
theorem subs_from {w wr : World} {u v : Value} {l m : List Ft} {b : Bool} (hb : Below w.heap.size w wr) (hs : subs l m = b) (h : ReadsIn wr.heap.size wr u l) (h' : ReadsIn wr.heap.size wr v m) :
    Calls Tryz.prog 18 #[u, v] wr fun e w' => e = .returned (.bool b) ∧ Below w.heap.size w w' ∧ Below wr.heap.size wr w' := by
  refine (subsumes_any wr h h').mono ?_
  rintro e w' ⟨rfl, hb'⟩
  exact ⟨by rw [hs], hb.trans (hb'.mono hb.size), hb'⟩
theorem reads_nil {B : Nat} {w : World} : ReadsIn B w (.slice none 0 0) [] := .inl ⟨rfl, rfl⟩
end Go.Proofs.YtdfhciijpcgicaaGreatDoor
