/- A map of counts by grams, that a call makes itself. -/
import Derived.Test.YthgllfbigcoaiaaGreatDoorCk4
import Derived.Maps.OwnOps
import Derived.Maps.Views
import Derived.DeepKeys4
import Derived.WideKeyEntry
namespace Go.Proofs.YthgllfbigcoaiaaGreatDoor
open Go Go.RowKit Go.Lib
set_option maxRecDepth 100000
/-- how an element reads: as itself -/
def heldR (v : Value) : Option (DataW Value × List MemPlace) := some (.held v, [])
/-- a block is a map that finds what f says -/
def MapIs {α : Type} (κ : α → Value) (ok : α → Prop) (w : World) (k : TypeId) (b n : Nat) (f : α → Option Value) : Prop :=
  ∃ D : DataW Value, w.ownsMap Tryz.prog k heldR b n D ∧ Maps.IsMap D ∧ ∀ a kl, ok a → keyOf Tryz.prog k (κ a) = some kl → ∀ zd, D.atKey kl zd = match f a with | some v => .held v | none => zd
section
variable {α : Type} {κ : α → Value} {ok : α → Prop} {w : World} {k : TypeId} {b n : Nat} {f : α → Option Value}
theorem MapIs.made (w : World) (k : TypeId) : MapIs κ ok (w.alloc (.map #[] 0)) k w.heap.size 0 fun _ => none :=
  ⟨_, World.ownsMap_made w _ k heldR, ⟨_, rfl⟩, fun _ _ _ _ _ => rfl⟩
theorem MapIs.lt (h : MapIs κ ok w k b n f) : b < w.heap.size := by
  obtain ⟨D, h, _⟩ := h
  exact h.lt
theorem MapIs.step {w' : World} (hb : Below w.heap.size w w') (h : MapIs κ ok w k b n f) : MapIs κ ok w' k b n f := by
  have hl := h.lt
  obtain ⟨D, ⟨es, clock, he, h2, h3, h4⟩, h5⟩ := h
  exact ⟨D, ⟨es, clock, (hb.block _ hl).trans he, h2, h3, h4⟩, h5⟩
theorem MapIs.kept {w' : World} {row : Option Nat} (h : MapIs κ ok w k b n f) (hg : w.grownBy w' row) (hne : some b ≠ row) : MapIs κ ok w' k b n f := by
  obtain ⟨D, h1, h2⟩ := h
  exact ⟨D, h1.kept hg hne, h2⟩
theorem MapIs.congr {f' : α → Option Value} (h : MapIs κ ok w k b n f) (hf : ∀ a, ok a → f a = f' a) : MapIs κ ok w k b n f' := by
  obtain ⟨D, h1, h2, h3⟩ := h
  exact ⟨D, h1, h2, fun a kl ha hk zd => by rw [← hf a ha]; exact h3 a kl ha hk zd⟩
theorem MapIs.look (c : Bool) {t e : TypeId} (h : MapIs κ ok w k b n f) (K : Maps.Keyed Tryz.prog k) (ht : Tryz.prog.underlying t = some (.map k e)) {z : Value} (hz : (zeroValue e).run Tryz.prog w = .ok z w) {a : α} (ha : ok a) {kl : Lit} (hkey : keyOf Tryz.prog k (κ a) = some kl) :
    (Instr.lookup t (.map (some b)) (κ a) c).run Tryz.prog w = .ok (if c then .tuple #[(f a).getD z, .bool (f a).isSome] else (f a).getD z) w := by
  obtain ⟨D, ⟨es, clock, hb, F, _, rfl⟩, _, hf⟩ := h
  rcases Maps.fit_look c K ht hz hb F hkey with ⟨hrun, _, hat⟩ | ⟨e0, y, _, _, hrun, hRv, hat, _⟩
  · have h1 := hf a kl ha hkey .nil
    rw [hat] at h1
    cases hfa : f a with
    | none => rw [hrun]; rfl
    | some v => rw [hfa] at h1; cases h1
  · have h1 := hf a kl ha hkey .nil
    rw [hat] at h1
    simp only [heldR, Option.some.injEq] at hRv
    subst hRv
    cases hfa : f a with
    | none => rw [hfa] at h1; cases h1
    | some v =>
      rw [hfa] at h1
      simp only [DataW.held.injEq] at h1
      subst h1
      rw [hrun]; rfl
theorem MapIs.put {w' : World} {v : Value} {a : α} {kl : Lit} {D : DataW Value} {f' : α → Option Value} (K : Maps.Keyed Tryz.prog k) (hD : Maps.IsMap D) (hf : ∀ a kl, ok a → keyOf Tryz.prog k (κ a) = some kl → ∀ zd, D.atKey kl zd = match f a with | some v => .held v | none => zd)
    (hκ : ∀ a a', κ a = κ a' → a = a') (hkey : keyOf Tryz.prog k (κ a) = some kl) (h : w'.ownsMap Tryz.prog k heldR b n (D.put kl (.held v)))
    (hs : f' a = some v) (ho : ∀ a', a' ≠ a → f' a' = f a') : MapIs κ ok w' k b n f' := by
  refine ⟨_, h, ?_, fun a' kl' ha' hk' zd => ?_⟩
  · obtain ⟨es, rfl⟩ := hD
    exact ⟨_, rfl⟩
  · by_cases e : a' = a
    · subst e
      rw [hkey] at hk'
      cases hk'
      rw [Maps.atKey_put_same hD (K.key hkey), hs]
    · have hne : kl' ≠ kl := fun h0 => e (hκ _ _ (K.inj hk' (h0 ▸ hkey)))
      rw [Maps.atKey_put_other hne, hf a' kl' ha' hk', ho a' e]
end
theorem laidO : laidOutB Tryz.prog = true := by kernel_rfl
theorem lawQ : WideMaps.KeyLaw Tryz.prog 74 := deep_law_laid laidO (m := 2) (by omega) (of_decide_eq_true (by kernel_rfl)) (by kernel_rfl) (by rw [Tryz.underlying74])
theorem keyQ : Maps.Keyed Tryz.prog 74 := Maps.Keyed.of_law lawQ
def okQ (q : Q4) : Prop := q.a.size ≤ maxLen ∧ q.b.size ≤ maxLen ∧ q.c.size ≤ maxLen ∧ q.d.size ≤ maxLen
theorem κQ_inj (a a' : Q4) (h : κQ a = κQ a') : a = a' := by
  obtain ⟨a1, a2, a3, a4⟩ := a
  obtain ⟨b1, b2, b3, b4⟩ := a'
  simp [κQ] at h
  simp [h.1, h.2.1, h.2.2.1, h.2.2.2]
theorem keyQ_of {q : Q4} (h : okQ q) : ∃ kl, keyOf Tryz.prog 74 (κQ q) = some kl := by
  obtain ⟨a, b, c, d⟩ := q
  obtain ⟨h1, h2, h3, h4⟩ := h
  have hkt : Tryz.prog.keyType 74 = true := by kernel_rfl
  obtain ⟨m, hm⟩ : ∃ m, Tryz.prog.types.size = m + 1 := ⟨Tryz.prog.types.size - 1, by have : 0 < Tryz.prog.types.size := of_decide_eq_true (by kernel_rfl); omega⟩
  have c4 : Tryz.prog.cellsOf 74 = 4 := by kernel_rfl
  have c1 : Tryz.prog.cellsOf 9 = 1 := by kernel_rfl
  have hu := Tryz.underlying74
  have hs := Tryz.underlying9
  unfold keyOf κQ
  simp only [hu]
  rw [if_pos (by simp [hkt, Value.formed, hu, c4]), hm]
  unfold Program.keyLits
  simp only [hu, Value.cells]
  rw [if_pos (by rw [c4]; rfl), show List.range 4 = [0, 1, 2, 3] from rfl, List.mapM_cons, List.mapM_cons, List.mapM_cons, List.mapM_cons, List.mapM_nil]
  simp only at h1 h2 h3 h4
  simp [c1, Program.keyLits, hs, h1, h2, h3, h4]
theorem zeroI (w : World) : (zeroValue 3).run Tryz.prog w = .ok (.int .i64 0) w := by kernel_rfl
/-- a map that counts grams -/
def CntIs (w : World) (b N : Nat) (c : Q4 → Nat) : Prop := ∃ (n : Nat) (f : Q4 → Option Value), MapIs κQ okQ w 74 b n f ∧ n ≤ N ∧ ∀ q, (f q = none ∧ c q = 0) ∨ f q = some (.int .i64 (c q))
theorem CntIs.made (w : World) : CntIs (w.alloc (.map #[] 0)) w.heap.size 0 fun _ => 0 := ⟨0, _, MapIs.made w _, Nat.le_refl _, fun _ => .inl ⟨rfl, rfl⟩⟩
theorem CntIs.lt {w : World} {b N : Nat} {c : Q4 → Nat} (h : CntIs w b N c) : b < w.heap.size := by
  obtain ⟨n, f, h, _⟩ := h
  exact h.lt
theorem CntIs.step {w w' : World} {b N : Nat} {c : Q4 → Nat} (hb : Below w.heap.size w w') (h : CntIs w b N c) : CntIs w' b N c := by
  obtain ⟨n, f, h, h2⟩ := h
  exact ⟨n, f, h.step hb, h2⟩
theorem CntIs.more {w : World} {b N N' : Nat} {c : Q4 → Nat} (hN : N ≤ N') (h : CntIs w b N c) : CntIs w b N' c := by
  obtain ⟨n, f, h, h2, h3⟩ := h
  exact ⟨n, f, h, by omega, h3⟩
theorem CntIs.congr {w : World} {b N : Nat} {c c' : Q4 → Nat} (h : CntIs w b N c) (e : c = c') : CntIs w b N c' := e ▸ h
/-- what is found there -/
theorem CntIs.look {w : World} {b N : Nat} {c : Q4 → Nat} (h : CntIs w b N c) {q : Q4} (hq : okQ q) : (Instr.lookup 71 (.map (some b)) (κQ q) false).run Tryz.prog w = .ok (.int .i64 (c q)) w := by
  obtain ⟨n, f, h1, _, h3⟩ := h
  obtain ⟨kl, hkl⟩ := keyQ_of hq
  rw [h1.look false keyQ Tryz.underlying71 (zeroI w) hq hkl]
  rcases h3 q with ⟨e, e0⟩ | e
  · rw [e, e0]; rfl
  · rw [e]; rfl
theorem setBlock_self {w : World} {b : Nat} {o : Obj} (h : w.heap[b]? = some o) : ChangeMaps.setBlock w b o = w := by
  unfold ChangeMaps.setBlock
  have : w.heap.setIfInBounds b o = w.heap := by
    apply Array.ext_getElem?
    intro i
    rw [Array.getElem?_setIfInBounds]
    split
    · rename_i e
      subst e
      have := (Array.getElem?_eq_some_iff.1 h).1
      rw [if_pos this]; exact h.symm
    · rfl
  rw [this]
/-- An entry is asked for: where there was none, as if zero had been stored. -/
theorem entry_made {w : World} {t k e : TypeId} {R : Value → Option (DataW Value × List MemPlace)} {b : Nat} {es : Array MapEntry} {clock : Nat} (K : WideMaps.KeyLaw Tryz.prog k) (ht : Tryz.prog.underlying t = some (.map k e)) {z : Value}
    (hz : ∀ u : World, (zeroValue e).run Tryz.prog u = .ok z u) (hb : w.heap[b]? = some (.map es clock)) (F : WideElems.Fit Tryz.prog k R es clock) {key : Value} {kl : Lit} (hkey : keyOf Tryz.prog k key = some kl) :
    ∃ v w1, (Instr.mapEntry t (.map (some b)) key).run Tryz.prog w = .ok v w1 ∧ (w1 = w ∨ ((Instr.mapUpdate t (.map (some b)) key z).run Tryz.prog w = .ok () w1 ∧ (Instr.lookup t (.map (some b)) key false).run Tryz.prog w = .ok z w)) := by
  rcases K.find w hkey es.toList F.keys with ⟨h1, _⟩ | ⟨j, e0, h1, h2, h3⟩
  · refine ⟨.tuple #[z, goInt clock], { w with heap := w.heap.setIfInBounds b (.map (es.push ⟨key, z, clock⟩) (clock + 1)) }, ?_, .inr ⟨?_, ?_⟩⟩
    · simp [Instr.mapEntry, run_underlying ht, MapKept.run_getObj_map hb, K.check w false hkey, h1, hz, MapKept.run_setObj_map _ hb, Result.andThen]
    · simp [Instr.mapUpdate, run_underlying ht, MapKept.run_getObj_map hb, K.check w false hkey, h1, MapKept.run_setObj_map _ hb, Result.andThen]
    · simp [Instr.lookup, run_underlying ht, MapKept.run_getObj_map hb, K.check w _ hkey, h1, hz, Result.andThen]
  · have hj : es[j]? = some e0 := by simpa using h2
    have hsame : es.modify j (fun e => { e with key := key }) = es := by
      apply Array.ext'
      rw [Array.toList_modify]
      apply List.ext_getElem?
      intro i
      rw [List.getElem?_modify]
      by_cases e : j = i
      · subst e; rw [h2]; simp [← h3]
      · simp [e]
    refine ⟨.tuple #[e0.val, goInt e0.born], w, ?_, .inl rfl⟩
    have hw : ({ w with heap := w.heap.setIfInBounds b (.map es clock) } : World) = w := setBlock_self hb
    simp [Instr.mapEntry, run_underlying ht, MapKept.run_getObj_map hb, K.check w false hkey, h1, hj, h3, K.stays w hkey, hsame, MapKept.run_setObj_map _ hb, Result.andThen, hw]
theorem CntIs.put {w w' : World} {b N : Nat} {c : Q4 → Nat} (h : CntIs w b N c) {q : Q4} (hq : okQ q) (hN : N < maxLen) (m : Nat) (hrun : (Instr.mapUpdate 71 (.map (some b)) (κQ q) (.int .i64 m)).run Tryz.prog w = .ok () w') :
    CntIs w' b (N + 1) (fun x => if x = q then m else c x) ∧ w.grownBy w' (some b) := by
  obtain ⟨n, f, ⟨D, h1, h2, h3⟩, hn, h4⟩ := h
  obtain ⟨kl, hkl⟩ := keyQ_of hq
  obtain ⟨w2, hr, ho, hg⟩ := h1.update keyQ Tryz.underlying71 (by omega) hkl (val := .int .i64 m) (d := .held (.int .i64 m)) (ps := []) rfl
  rw [hrun] at hr
  cases hr
  refine ⟨⟨n + 1, fun x => if x = q then some (.int .i64 m) else f x, MapIs.put (f' := fun x => if x = q then some (.int .i64 m) else f x) keyQ h2 h3 κQ_inj hkl ho (by simp) (fun a' ha' => by simp [ha']), by omega, fun x => ?_⟩, hg⟩
  by_cases e : x = q
  · subst e; right; simp
  · simp only [e, if_false]; exact h4 x
/-- 'm[k]++' and its like: the entry, what is found there, and the store. -/
theorem CntIs.entry {w : World} {b N : Nat} {c : Q4 → Nat} (h : CntIs w b N c) {q : Q4} (hq : okQ q) (hN : N < maxLen) (m : Nat) : ∃ (v0 sv : Value) (w1 w3 : World),
    (Instr.mapEntry 71 (.map (some b)) (κQ q)).run Tryz.prog w = .ok (.tuple #[v0, sv]) w1 ∧
    (Instr.lookup 71 (.map (some b)) (κQ q) false).run Tryz.prog w1 = .ok (.int .i64 (c q)) w1 ∧
    (Instr.entryStore 71 (.map (some b)) sv (.int .i64 m)).run Tryz.prog w1 = .ok () w3 ∧
    CntIs w3 b (N + 1) (fun x => if x = q then m else c x) ∧ w.grownBy w3 (some b) := by
  have h0 := h
  obtain ⟨n, f, ⟨D, ⟨es, clock, hb, F, hs, rfl⟩, h2, h3⟩, hn, h4⟩ := h
  obtain ⟨kl, hkl⟩ := keyQ_of hq
  obtain ⟨v0, st, es1, clock1, hr1, _, hst⟩ := WideElems.entry_then_store lawQ Tryz.underlying71 zeroI hb F hkl
  obtain ⟨v', w1', hr2, hw⟩ := entry_made lawQ Tryz.underlying71 zeroI hb F hkl
  rw [hr1] at hr2
  cases hr2
  have hw1 : (ChangeMaps.setBlock w b (.map es1 clock1)).heap[b]? = some (.map es1 clock1) := ChangeMaps.heap_setBlock_same hb _
  obtain ⟨es', clock', hs1, hs2⟩ := hst _ (.int .i64 m) hw1
  obtain ⟨hc, hg⟩ := h0.put hq hN m hs2
  have hww : ChangeMaps.setBlock (ChangeMaps.setBlock w b (.map es1 clock1)) b (.map es' clock') = ChangeMaps.setBlock w b (.map es' clock') := by
    unfold ChangeMaps.setBlock
    have : (w.heap.setIfInBounds b (.map es1 clock1)).setIfInBounds b (.map es' clock') = w.heap.setIfInBounds b (.map es' clock') := by
      apply Array.ext_getElem?
      intro i
      simp only [Array.getElem?_setIfInBounds]
      by_cases e : b = i <;> simp [e]
    simp only [this]
  rw [hww] at hs1
  refine ⟨v0, goInt st, _, _, hr1, ?_, hs1, hc, hg⟩
  rcases hw with e | ⟨e, el⟩
  · rw [e]; exact h0.look hq
  · obtain ⟨hc2, _⟩ := h0.put hq hN 0 e
    have := hc2.look hq
    simp only [if_true] at this
    have h9 := (h0.look hq).symm.trans el
    simp only [Result.ok.injEq, Value.int.injEq, true_and, and_true] at h9
    rw [h9]; exact this
end Go.Proofs.YthgllfbigcoaiaaGreatDoor
