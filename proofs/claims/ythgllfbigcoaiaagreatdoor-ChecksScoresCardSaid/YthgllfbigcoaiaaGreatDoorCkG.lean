/- A map of counts by grams, that a call makes itself. Matches of two lists, by the program. The law ChecksGrams, over any words and any number. -/
import Derived.Test.YthgllfbigcoaiaaGreatDoorCk4
import Derived.Maps.OwnOps
import Derived.Maps.Views
import Derived.DeepKeys4
import Derived.WideKeyEntry
import Derived.Deep.RegionWith
namespace Go.Proofs.YthgllfbigcoaiaaGreatDoor
open Go Go.RowKit Go.Lib
set_option maxRecDepth 100000
/-- how an element reads: as itself -/
def heldR (v : Value) : Option (DataW Value × List MemPlace) := some (.held v, [])
/-- a block is a map that finds what f says -/
def MapIs {α : Type} (κ : α → Value) (ok : α → Prop) (w : World) (k : TypeId) (b n : Nat) (f : α → Option Value) : Prop :=
  ∃ D : DataW Value, w.ownsMap Tryz.prog k heldR b n D ∧ Maps.IsMap D ∧ ∀ a kl, ok a → keyOf Tryz.prog k (κ a) = some kl → ∀ zd, D.atKey kl zd = match f a with | some v => .held v | none => zd
section
variable {α : Type} {κ : α → Value} {ok : α → Prop} {w : World} {k : TypeId} {b n : Nat} {f : α → Option Value}
theorem MapIs.made (w : World) (k : TypeId) : MapIs κ ok (w.alloc (.map #[] 0)) k w.heap.size 0 fun _ => none :=
  ⟨_, World.ownsMap_made w _ k heldR, ⟨_, rfl⟩, fun _ _ _ _ _ => rfl⟩
theorem MapIs.lt (h : MapIs κ ok w k b n f) : b < w.heap.size := by
  obtain ⟨D, h, _⟩ := h
  exact h.lt
theorem MapIs.step {w' : World} (hb : Below w.heap.size w w') (h : MapIs κ ok w k b n f) : MapIs κ ok w' k b n f := by
  have hl := h.lt
  obtain ⟨D, ⟨es, clock, he, h2, h3, h4⟩, h5⟩ := h
  exact ⟨D, ⟨es, clock, (hb.block _ hl).trans he, h2, h3, h4⟩, h5⟩
theorem MapIs.kept {w' : World} {row : Option Nat} (h : MapIs κ ok w k b n f) (hg : w.grownBy w' row) (hne : some b ≠ row) : MapIs κ ok w' k b n f := by
  obtain ⟨D, h1, h2⟩ := h
  exact ⟨D, h1.kept hg hne, h2⟩
theorem MapIs.congr {f' : α → Option Value} (h : MapIs κ ok w k b n f) (hf : ∀ a, ok a → f a = f' a) : MapIs κ ok w k b n f' := by
  obtain ⟨D, h1, h2, h3⟩ := h
  exact ⟨D, h1, h2, fun a kl ha hk zd => by rw [← hf a ha]; exact h3 a kl ha hk zd⟩
theorem MapIs.look (c : Bool) {t e : TypeId} (h : MapIs κ ok w k b n f) (K : Maps.Keyed Tryz.prog k) (ht : Tryz.prog.underlying t = some (.map k e)) {z : Value} (hz : (zeroValue e).run Tryz.prog w = .ok z w) {a : α} (ha : ok a) {kl : Lit} (hkey : keyOf Tryz.prog k (κ a) = some kl) :
    (Instr.lookup t (.map (some b)) (κ a) c).run Tryz.prog w = .ok (if c then .tuple #[(f a).getD z, .bool (f a).isSome] else (f a).getD z) w := by
  obtain ⟨D, ⟨es, clock, hb, F, _, rfl⟩, _, hf⟩ := h
  rcases Maps.fit_look c K ht hz hb F hkey with ⟨hrun, _, hat⟩ | ⟨e0, y, _, _, hrun, hRv, hat, _⟩
  · have h1 := hf a kl ha hkey .nil
    rw [hat] at h1
    cases hfa : f a with
    | none => rw [hrun]; rfl
    | some v => rw [hfa] at h1; cases h1
  · have h1 := hf a kl ha hkey .nil
    rw [hat] at h1
    simp only [heldR, Option.some.injEq] at hRv
    subst hRv
    cases hfa : f a with
    | none => rw [hfa] at h1; cases h1
    | some v =>
      rw [hfa] at h1
      simp only [DataW.held.injEq] at h1
      subst h1
      rw [hrun]; rfl
theorem MapIs.put {w' : World} {v : Value} {a : α} {kl : Lit} {D : DataW Value} {f' : α → Option Value} (K : Maps.Keyed Tryz.prog k) (hD : Maps.IsMap D) (hf : ∀ a kl, ok a → keyOf Tryz.prog k (κ a) = some kl → ∀ zd, D.atKey kl zd = match f a with | some v => .held v | none => zd)
    (hκ : ∀ a a', κ a = κ a' → a = a') (hkey : keyOf Tryz.prog k (κ a) = some kl) (h : w'.ownsMap Tryz.prog k heldR b n (D.put kl (.held v)))
    (hs : f' a = some v) (ho : ∀ a', a' ≠ a → f' a' = f a') : MapIs κ ok w' k b n f' := by
  refine ⟨_, h, ?_, fun a' kl' ha' hk' zd => ?_⟩
  · obtain ⟨es, rfl⟩ := hD
    exact ⟨_, rfl⟩
  · by_cases e : a' = a
    · subst e
      rw [hkey] at hk'
      cases hk'
      rw [Maps.atKey_put_same hD (K.key hkey), hs]
    · have hne : kl' ≠ kl := fun h0 => e (hκ _ _ (K.inj hk' (h0 ▸ hkey)))
      rw [Maps.atKey_put_other hne, hf a' kl' ha' hk', ho a' e]
end
theorem laidO : laidOutB Tryz.prog = true := by kernel_rfl
theorem lawQ : WideMaps.KeyLaw Tryz.prog 74 := deep_law_laid laidO (m := 2) (by omega) (of_decide_eq_true (by kernel_rfl)) (by kernel_rfl) (by rw [Tryz.underlying74])
theorem keyQ : Maps.Keyed Tryz.prog 74 := Maps.Keyed.of_law lawQ
def okQ (q : Q4) : Prop := q.a.size ≤ maxLen ∧ q.b.size ≤ maxLen ∧ q.c.size ≤ maxLen ∧ q.d.size ≤ maxLen
theorem κQ_inj (a a' : Q4) (h : κQ a = κQ a') : a = a' := by
  obtain ⟨a1, a2, a3, a4⟩ := a
  obtain ⟨b1, b2, b3, b4⟩ := a'
  simp [κQ] at h
  simp [h.1, h.2.1, h.2.2.1, h.2.2.2]
theorem keyQ_of {q : Q4} (h : okQ q) : ∃ kl, keyOf Tryz.prog 74 (κQ q) = some kl := by
  obtain ⟨a, b, c, d⟩ := q
  obtain ⟨h1, h2, h3, h4⟩ := h
  have hkt : Tryz.prog.keyType 74 = true := by kernel_rfl
  obtain ⟨m, hm⟩ : ∃ m, Tryz.prog.types.size = m + 1 := ⟨Tryz.prog.types.size - 1, by have : 0 < Tryz.prog.types.size := of_decide_eq_true (by kernel_rfl); omega⟩
  have c4 : Tryz.prog.cellsOf 74 = 4 := by kernel_rfl
  have c1 : Tryz.prog.cellsOf 9 = 1 := by kernel_rfl
  have hu := Tryz.underlying74
  have hs := Tryz.underlying9
  unfold keyOf κQ
  simp only [hu]
  rw [if_pos (by simp [hkt, Value.formed, hu, c4]), hm]
  unfold Program.keyLits
  simp only [hu, Value.cells]
  rw [if_pos (by rw [c4]; rfl), show List.range 4 = [0, 1, 2, 3] from rfl, List.mapM_cons, List.mapM_cons, List.mapM_cons, List.mapM_cons, List.mapM_nil]
  simp only at h1 h2 h3 h4
  simp [c1, Program.keyLits, hs, h1, h2, h3, h4]
theorem zeroI (w : World) : (zeroValue 3).run Tryz.prog w = .ok (.int .i64 0) w := by kernel_rfl
/-- a map that counts grams -/
def CntIs (w : World) (b N : Nat) (c : Q4 → Nat) : Prop := ∃ (n : Nat) (f : Q4 → Option Value), MapIs κQ okQ w 74 b n f ∧ n ≤ N ∧ ∀ q, (f q = none ∧ c q = 0) ∨ f q = some (.int .i64 (c q))
theorem CntIs.made (w : World) : CntIs (w.alloc (.map #[] 0)) w.heap.size 0 fun _ => 0 := ⟨0, _, MapIs.made w _, Nat.le_refl _, fun _ => .inl ⟨rfl, rfl⟩⟩
theorem CntIs.lt {w : World} {b N : Nat} {c : Q4 → Nat} (h : CntIs w b N c) : b < w.heap.size := by
  obtain ⟨n, f, h, _⟩ := h
  exact h.lt
theorem CntIs.step {w w' : World} {b N : Nat} {c : Q4 → Nat} (hb : Below w.heap.size w w') (h : CntIs w b N c) : CntIs w' b N c := by
  obtain ⟨n, f, h, h2⟩ := h
  exact ⟨n, f, h.step hb, h2⟩
theorem CntIs.more {w : World} {b N N' : Nat} {c : Q4 → Nat} (hN : N ≤ N') (h : CntIs w b N c) : CntIs w b N' c := by
  obtain ⟨n, f, h, h2, h3⟩ := h
  exact ⟨n, f, h, by omega, h3⟩
theorem CntIs.congr {w : World} {b N : Nat} {c c' : Q4 → Nat} (h : CntIs w b N c) (e : c = c') : CntIs w b N c' := e ▸ h
/-- what is found there -/
theorem CntIs.look {w : World} {b N : Nat} {c : Q4 → Nat} (h : CntIs w b N c) {q : Q4} (hq : okQ q) : (Instr.lookup 71 (.map (some b)) (κQ q) false).run Tryz.prog w = .ok (.int .i64 (c q)) w := by
  obtain ⟨n, f, h1, _, h3⟩ := h
  obtain ⟨kl, hkl⟩ := keyQ_of hq
  rw [h1.look false keyQ Tryz.underlying71 (zeroI w) hq hkl]
  rcases h3 q with ⟨e, e0⟩ | e
  · rw [e, e0]; rfl
  · rw [e]; rfl
theorem setBlock_self {w : World} {b : Nat} {o : Obj} (h : w.heap[b]? = some o) : ChangeMaps.setBlock w b o = w := by
  unfold ChangeMaps.setBlock
  have : w.heap.setIfInBounds b o = w.heap := by
    apply Array.ext_getElem?
    intro i
    rw [Array.getElem?_setIfInBounds]
    split
    · rename_i e
      subst e
      have := (Array.getElem?_eq_some_iff.1 h).1
      rw [if_pos this]; exact h.symm
    · rfl
  rw [this]
/-- An entry is asked for: where there was none, as if zero had been stored. -/
theorem entry_made {w : World} {t k e : TypeId} {R : Value → Option (DataW Value × List MemPlace)} {b : Nat} {es : Array MapEntry} {clock : Nat} (K : WideMaps.KeyLaw Tryz.prog k) (ht : Tryz.prog.underlying t = some (.map k e)) {z : Value}
    (hz : ∀ u : World, (zeroValue e).run Tryz.prog u = .ok z u) (hb : w.heap[b]? = some (.map es clock)) (F : WideElems.Fit Tryz.prog k R es clock) {key : Value} {kl : Lit} (hkey : keyOf Tryz.prog k key = some kl) :
    ∃ v w1, (Instr.mapEntry t (.map (some b)) key).run Tryz.prog w = .ok v w1 ∧ (w1 = w ∨ ((Instr.mapUpdate t (.map (some b)) key z).run Tryz.prog w = .ok () w1 ∧ (Instr.lookup t (.map (some b)) key false).run Tryz.prog w = .ok z w)) := by
  rcases K.find w hkey es.toList F.keys with ⟨h1, _⟩ | ⟨j, e0, h1, h2, h3⟩
  · refine ⟨.tuple #[z, goInt clock], { w with heap := w.heap.setIfInBounds b (.map (es.push ⟨key, z, clock⟩) (clock + 1)) }, ?_, .inr ⟨?_, ?_⟩⟩
    · simp [Instr.mapEntry, run_underlying ht, MapKept.run_getObj_map hb, K.check w false hkey, h1, hz, MapKept.run_setObj_map _ hb, Result.andThen]
    · simp [Instr.mapUpdate, run_underlying ht, MapKept.run_getObj_map hb, K.check w false hkey, h1, MapKept.run_setObj_map _ hb, Result.andThen]
    · simp [Instr.lookup, run_underlying ht, MapKept.run_getObj_map hb, K.check w _ hkey, h1, hz, Result.andThen]
  · have hj : es[j]? = some e0 := by simpa using h2
    have hsame : es.modify j (fun e => { e with key := key }) = es := by
      apply Array.ext'
      rw [Array.toList_modify]
      apply List.ext_getElem?
      intro i
      rw [List.getElem?_modify]
      by_cases e : j = i
      · subst e; rw [h2]; simp [← h3]
      · simp [e]
    refine ⟨.tuple #[e0.val, goInt e0.born], w, ?_, .inl rfl⟩
    have hw : ({ w with heap := w.heap.setIfInBounds b (.map es clock) } : World) = w := setBlock_self hb
    simp [Instr.mapEntry, run_underlying ht, MapKept.run_getObj_map hb, K.check w false hkey, h1, hj, h3, K.stays w hkey, hsame, MapKept.run_setObj_map _ hb, Result.andThen, hw]
theorem CntIs.put {w w' : World} {b N : Nat} {c : Q4 → Nat} (h : CntIs w b N c) {q : Q4} (hq : okQ q) (hN : N < maxLen) (m : Nat) (hrun : (Instr.mapUpdate 71 (.map (some b)) (κQ q) (.int .i64 m)).run Tryz.prog w = .ok () w') :
    CntIs w' b (N + 1) (fun x => if x = q then m else c x) ∧ w.grownBy w' (some b) := by
  obtain ⟨n, f, ⟨D, h1, h2, h3⟩, hn, h4⟩ := h
  obtain ⟨kl, hkl⟩ := keyQ_of hq
  obtain ⟨w2, hr, ho, hg⟩ := h1.update keyQ Tryz.underlying71 (by omega) hkl (val := .int .i64 m) (d := .held (.int .i64 m)) (ps := []) rfl
  rw [hrun] at hr
  cases hr
  refine ⟨⟨n + 1, fun x => if x = q then some (.int .i64 m) else f x, MapIs.put (f' := fun x => if x = q then some (.int .i64 m) else f x) keyQ h2 h3 κQ_inj hkl ho (by simp) (fun a' ha' => by simp [ha']), by omega, fun x => ?_⟩, hg⟩
  by_cases e : x = q
  · subst e; right; simp
  · simp only [e, if_false]; exact h4 x
/-- 'm[k]++' and its like: the entry, what is found there, and the store. -/
theorem CntIs.entry {w : World} {b N : Nat} {c : Q4 → Nat} (h : CntIs w b N c) {q : Q4} (hq : okQ q) (hN : N < maxLen) (m : Nat) : ∃ (v0 sv : Value) (w1 w3 : World),
    (Instr.mapEntry 71 (.map (some b)) (κQ q)).run Tryz.prog w = .ok (.tuple #[v0, sv]) w1 ∧
    (Instr.lookup 71 (.map (some b)) (κQ q) false).run Tryz.prog w1 = .ok (.int .i64 (c q)) w1 ∧
    (Instr.entryStore 71 (.map (some b)) sv (.int .i64 m)).run Tryz.prog w1 = .ok () w3 ∧
    CntIs w3 b (N + 1) (fun x => if x = q then m else c x) ∧ w.grownBy w3 (some b) := by
  have h0 := h
  obtain ⟨n, f, ⟨D, ⟨es, clock, hb, F, hs, rfl⟩, h2, h3⟩, hn, h4⟩ := h
  obtain ⟨kl, hkl⟩ := keyQ_of hq
  obtain ⟨v0, st, es1, clock1, hr1, _, hst⟩ := WideElems.entry_then_store lawQ Tryz.underlying71 zeroI hb F hkl
  obtain ⟨v', w1', hr2, hw⟩ := entry_made lawQ Tryz.underlying71 zeroI hb F hkl
  rw [hr1] at hr2
  cases hr2
  have hw1 : (ChangeMaps.setBlock w b (.map es1 clock1)).heap[b]? = some (.map es1 clock1) := ChangeMaps.heap_setBlock_same hb _
  obtain ⟨es', clock', hs1, hs2⟩ := hst _ (.int .i64 m) hw1
  obtain ⟨hc, hg⟩ := h0.put hq hN m hs2
  have hww : ChangeMaps.setBlock (ChangeMaps.setBlock w b (.map es1 clock1)) b (.map es' clock') = ChangeMaps.setBlock w b (.map es' clock') := by
    unfold ChangeMaps.setBlock
    have : (w.heap.setIfInBounds b (.map es1 clock1)).setIfInBounds b (.map es' clock') = w.heap.setIfInBounds b (.map es' clock') := by
      apply Array.ext_getElem?
      intro i
      simp only [Array.getElem?_setIfInBounds]
      by_cases e : b = i <;> simp [e]
    simp only [this]
  rw [hww] at hs1
  refine ⟨v0, goInt st, _, _, hr1, ?_, hs1, hc, hg⟩
  rcases hw with e | ⟨e, el⟩
  · rw [e]; exact h0.look hq
  · obtain ⟨hc2, _⟩ := h0.put hq hN 0 e
    have := hc2.look hq
    simp only [if_true] at this
    have h9 := (h0.look hq).symm.trans el
    simp only [Result.ok.injEq, Value.int.injEq, true_and, and_true] at h9
    rw [h9]; exact this
end Go.Proofs.YthgllfbigcoaiaaGreatDoor
namespace Go.Proofs.YthgllfbigcoaiaaGreatDoor
open Go Go.RowKit Go.Lib
set_option maxRecDepth 100000
theorem below_grown {B m : Nat} {w wr w' : World} (h : Below B w wr) (hg : wr.grownBy w' (some m)) (hm : B ≤ m) (hB : B ≤ wr.heap.size) : Below B w w' :=
  ⟨hg.os.trans h.os, hg.tape.trans h.tape, hg.output.trans h.output, Nat.le_trans h.size hg.size, fun j hj => (hg.block j (Nat.lt_of_lt_of_le hj hB) (by simp; omega)).trans (h.block j hj)⟩
theorem gramsN_nat (len N : Nat) : gramsN len (N : Int) = ((len + 1 - N : Nat) : Int) := by
  unfold gramsN
  omega
theorem gramsQ_get {l : List ByteArray} {N k : Nat} (h : k < l.length + 1 - N) : (gramsQ l N)[k]? = some (gq l N k) := by
  unfold gramsQ
  rw [List.getElem?_map, List.getElem?_range h]
  rfl
theorem gramsQ_take {l : List ByteArray} {N k : Nat} (h : k < l.length + 1 - N) : (gramsQ l N).take (k + 1) = (gramsQ l N).take k ++ [gq l N k] := by
  rw [List.take_add_one, gramsQ_get h]; rfl
theorem gramsQ_drop {l : List ByteArray} {N k : Nat} (h : k < l.length + 1 - N) : (gramsQ l N).drop k = gq l N k :: (gramsQ l N).drop (k + 1) := by
  have := gramsQ_get h
  rw [List.drop_eq_getElem_cons (by rw [gramsQ_length]; exact h)]
  rw [List.getElem?_eq_getElem (by rw [gramsQ_length]; exact h)] at this
  rw [Option.some.inj this]
theorem gq_ok {l : List ByteArray} (h : ∀ s ∈ l, s.size ≤ maxLen) (N k : Nat) : okQ (gq l N k) := by
  have key : ∀ i, (((l.drop k).take N).getD i ⟨#[]⟩).size ≤ maxLen := by
    intro i
    rw [List.getD_eq_getElem?_getD]
    cases e : ((l.drop k).take N)[i]? with
    | none => exact Nat.zero_le _
    | some s => exact h s (List.mem_of_mem_drop (List.mem_of_mem_take (List.mem_of_getElem? e)))
  exact ⟨key 0, key 1, key 2, key 3⟩
theorem cn_le {G : Type} [DecidableEq G] (l : List G) (g : G) : cn l g ≤ l.length := List.count_le_length
/-- an entry's steps, in the walk's spelling: the key spelt out -/
theorem CntIs.entryI {w : World} {b N : Nat} {c : Q4 → Nat} (h : CntIs w b N c) {q : Q4} (hq : okQ q) (hN : N < 1000000) (x : Int) (m : Nat) (hx : x = (m : Int)) : ∃ (v0 sv : Value) (w1 w3 : World),
    (Instr.lookup 71 (.map (some b)) (κQ q) false).run Tryz.prog w = .ok (.int .i64 (c q)) w ∧
    (Instr.mapEntry 71 (.map (some b)) (κQ q)).run Tryz.prog w = .ok (.tuple #[v0, sv]) w1 ∧
    (Instr.lookup 71 (.map (some b)) (κQ q) false).run Tryz.prog w1 = .ok (.int .i64 (c q)) w1 ∧
    (Instr.entryStore 71 (.map (some b)) sv (.int .i64 x)).run Tryz.prog w1 = .ok () w3 ∧
    Hid (CntIs w3 b (N + 1) (fun x => if x = q then m else c x)) ∧ Hid (w.grownBy w3 (some b)) := by
  subst hx
  obtain ⟨v0, sv, w1, w3, e1, e2, e3, h4, h5⟩ := h.entry hq (by unfold maxLen; omega) m
  exact ⟨v0, sv, w1, w3, h.look hq, e1, e2, e3, h4, h5⟩
theorem cn_take_le (l : List ByteArray) (N k : Nat) (q : Q4) : cn ((gramsQ l N).take k) q ≤ l.length + 1 := by
  have h8 := cn_le ((gramsQ l N).take k) q
  simp only [List.length_take, gramsQ_length] at h8
  omega
theorem cnt_next {l : List ByteArray} {N k : Nat} (h : k < l.length + 1 - N) : (fun x => if x = gq l N k then cn ((gramsQ l N).take k) (gq l N k) + 1 else cn ((gramsQ l N).take k) x) = cn ((gramsQ l N).take (k + 1)) := by
  funext x
  rw [gramsQ_take h, cn_snoc]
  by_cases e : x = gq l N k
  · subst e; simp
  · rw [if_neg e, if_neg (fun h => e h.symm)]; rfl
/-- what Matches returns -/
def matchV (a b : List ByteArray) (n : Int) : Value :=
  if 512 < a.length ∨ 512 < b.length then .tuple #[.int .i64 0, .int .i64 0, .int .i64 0, .int .u8 3]
  else if n < 1 ∨ 4 < n then .tuple #[.int .i64 0, .int .i64 0, .int .i64 0, .int .u8 1]
  else .tuple #[.int .i64 (mtQ a b n.toNat), .int .i64 (gramsN a.length n), .int .i64 (gramsN b.length n), .int .u8 0]
set_option maxHeartbeats 16000000 in
theorem Matches_main (a b : List ByteArray) (va vb : Value) (N : Nat) (w : World) (ha : WdsAt w va a) (hb : WdsAt w vb b) (h1 : 1 ≤ N) (h4 : N ≤ 4) (hal : a.length ≤ 512) (hbl : b.length ≤ 512) :
    Calls Tryz.prog 12 #[va, vb, .int .i64 N] w fun e w' => e = .returned (matchV a b N) ∧ Below w.heap.size w w' := by
  have HA := Lib.hid ha
  have HB := Lib.hid hb
  have HM : Hid (matchV a b N = .tuple #[.int .i64 (mtQ a b N), .int .i64 (gramsN a.length N), .int .i64 (gramsN b.length N), .int .u8 0]) := by
    show matchV a b N = _
    unfold matchV
    rw [if_neg (by omega), if_neg (by omega), Int.toNat_natCast]
  obtain ⟨A1, hA1⟩ : ∃ A1, A1 = a.length + 1 - N := ⟨_, rfl⟩
  obtain ⟨B1, hB1⟩ : ∃ B1, B1 = b.length + 1 - N := ⟨_, rfl⟩
  have cA : ∀ w', WdsAt w' va a → Calls Tryz.prog 35 #[va, .int .i64 N] w' fun e w'' => e = .returned (.int .i64 A1) ∧ w'' = w' := fun w' h => by
    have := gramsIn_any a va N w' h (by omega) (by omega)
    rwa [gramsN_nat, ← hA1] at this
  have cB : ∀ w', WdsAt w' vb b → Calls Tryz.prog 35 #[vb, .int .i64 N] w' fun e w'' => e = .returned (.int .i64 B1) ∧ w'' = w' := fun w' h => by
    have := gramsIn_any b vb N w' h (by omega) (by omega)
    rwa [gramsN_nat, ← hB1] at this
  have gA : ∀ (k : Nat) w', WdsAt w' va a → k < A1 → Calls Tryz.prog 36 #[va, .int .i64 k, .int .i64 N] w' fun e w'' => e = .returned (κQ (gq a N k)) ∧ Below w'.heap.size w' w'' := fun k w' h hk => gramAt_any a va k N w' h h1 h4 (by omega) hal
  have gB : ∀ (k : Nat) w', WdsAt w' vb b → k < B1 → Calls Tryz.prog 36 #[vb, .int .i64 k, .int .i64 N] w' fun e w'' => e = .returned (κQ (gq b N k)) ∧ Below w'.heap.size w' w'' := fun k w' h hk => gramAt_any b vb k N w' h h1 h4 (by omega) hbl
  rw [gramsN_nat, gramsN_nat, ← hA1, ← hB1] at HM
  obtain ⟨⟨p, cap, rfl, hl, hc, hrA⟩, hza⟩ := ha
  obtain ⟨⟨p2, cap2, rfl, hl2, hc2, hrB⟩, hzb⟩ := hb
  have HQA := Lib.hid (gq_ok hza)
  have HQB := Lib.hid (gq_ok hzb)
  unfold maxLen at hc hc2
  have hmm := @run_makeMap Tryz.prog
  have i1 : ¬ (512 : Int) < (a.length : Int) := by omega
  have i2 : ¬ (512 : Int) < (b.length : Int) := by omega
  have i3 : ¬ (N : Int) < 1 := by omega
  have i4 : ¬ (4 : Int) < (N : Int) := by omega
  have HA1 := Lib.hid hA1
  have HB1 := Lib.hid hB1
  have agG := Tryz.isAgg74
  have zgG := Tryz.sizeOf74
  clear hza hzb hrA hrB hA1 hB1
  go_enter Tryz.func12, Tryz.ntmps12
  go_wp2_with (go_at_call 35; (with_reducible refine (cA _ (HA.out.step (below_box _))).mono ?_); rintro e w1 ⟨rfl, rfl⟩)
  have HB0 := Lib.hid (below_box (w := w) (.map #[] 0))
  have HC0 := Lib.hid (CntIs.made w)
  have hM0 : w.heap.size < (w.alloc (.map #[] 0)).heap.size := by simp
  generalize w.alloc (.map #[] 0) = W0 at *
  go_loopw [11, 32] (fun _ i wr => ∃ k : Nat, k ≤ A1 ∧ i = .int .i64 k ∧ Hid (Below w.heap.size w wr) ∧ Hid (CntIs wr w.heap.size k (cn ((gramsQ a N).take k)))) (fun _ i _ => A1 - (RowKit.intOf i).toNat)
  case atStart => exact ⟨0, Nat.zero_le _, rfl, HB0.out, HC0.out⟩
  case round =>
    obtain ⟨k, hk, rfl, HBW, HC⟩ := hrel
    by_cases hlt : k < A1
    · have hcn := cnt_next (l := a) (N := N) (k := k) (by have := HA1.out; omega)
      have hq := HQA.out N k
      have hcl := Nat.le_trans (cn_take_le a N k (gq a N k)) (Nat.succ_le_succ hal)
      have gk := fun w' h => gA k w' h hlt
      have HCN := Lib.hid hcn
      have HQ := Lib.hid hq
      clear hcn hq
      generalize gq a N k = q at gk HCN HQ hcl
      generalize cn ((gramsQ a N).take k) = c at HC HCN hcl
      have hwr : IntKind.i64.wrap ((c q : Int) + 1) = (c q : Int) + 1 := by rw [IntKind.wrap_i64] <;> omega
      have hk2 : k < 1000000 := by have := HA1.out; omega
      go_wp2
      go_region_with (go_at_call 36; (with_reducible refine (gk _ (HA.out.step HBW.out.drew)).mono ?_); rintro e w2 ⟨rfl, hb2⟩; obtain ⟨v0, sv, w3, w4, e0, e1, e2, e3, hc4, hg4⟩ := ((HC.out.step (Below.refl _ _).drew).step hb2).entryI HQ.out hk2 ((c q : Int) + 1) (c q + 1) rfl)
      all_goals
        have HB2 := Lib.hid (below_next HBW.out.drew hb2)
        have HBF := Lib.hid (below_grown HB2.out hg4.out (Nat.le_refl _) HB2.out.size)
        have HCF := Lib.hid (hc4.out.congr HCN.out)
        clear e0 e1 e2 e3 hb2
        go_wp2
        go_roundw
        case rel => exact ⟨k + 1, by omega, by go_num, HBF.out, HCF.out⟩
        case measure => simp [RowKit.intOf]; omega
    · obtain rfl : A1 = k := by omega
      have HCA := Lib.hid (HC.out.congr (show cn ((gramsQ a N).take A1) = cn (gramsQ a N) by rw [List.take_of_length_le (by rw [gramsQ_length]; have := HA1.out; omega)]))
      clear HC
      go_wp2_with (go_at_call 35; (with_reducible refine (cB _ (HB.out.step HBW.out)).mono ?_); rintro e w1 ⟨rfl, rfl⟩)
      go_loopw [6, 12, 13, 48] (fun m _ _ i wr => ∃ (k mN : Nat) (c : Q4 → Nat), k ≤ B1 ∧ i = .int .i64 k ∧ m = .int .i64 mN ∧ mN ≤ k ∧ Hid (mtQ a b N = mN + mt c ((gramsQ b N).drop k)) ∧ Hid (∀ q, c q ≤ 513) ∧ Hid (Below w.heap.size w wr) ∧ Hid (CntIs wr w.heap.size (A1 + k) c)) (fun _ _ _ i _ => B1 - (RowKit.intOf i).toNat)
      case atStart => exact ⟨0, 0, _, Nat.zero_le _, rfl, rfl, Nat.le_refl _, by rw [Nat.zero_add, List.drop_zero]; rfl, fun q => by have h8 := cn_le (gramsQ a N) q; rw [gramsQ_length] at h8; omega, HBW.out, HCA.out⟩
      case round =>
        clear HBW HCA hM0 HC0 HB0
        obtain ⟨k, mN, c, hk, rfl, rfl, hmk, HMT, HCL, HBW, HC⟩ := hrel
        by_cases hlt : k < B1
        · have hdr := gramsQ_drop (l := b) (N := N) (k := k) (by have := HB1.out; omega)
          have HQ := Lib.hid (HQB.out N k)
          have gk := fun w' h => gB k w' h hlt
          have hmt := HMT.out
          rw [hdr, mt_cons] at hmt
          have hcl := HCL.out (gq b N k)
          have hk2 : A1 + k < 1000000 := by have := HA1.out; have := HB1.out; omega
          have hk3 : k < 1000000 := by have := HB1.out; omega
          clear hdr HMT
          generalize gq b N k = q at gk HQ hmt hcl
          by_cases h0 : 0 < c q
          · rw [if_pos h0] at hmt
            have HMT2 := Lib.hid (show mtQ a b N = (mN + 1) + mt (lessOne c q) ((gramsQ b N).drop (k + 1)) by omega)
            have HLE : Hid (∀ x, lessOne c q x ≤ 513) := fun x => by have := HCL.out x; unfold lessOne; split <;> omega
            have hfun := Lib.hid (show (fun x => if x = q then c q - 1 else c x) = lessOne c q by funext x; unfold lessOne; by_cases e : x = q <;> simp [e])
            clear hmt
            obtain ⟨s0, s1, s2, s3⟩ := q
            unfold κQ at gk
            simp only at gk
            generalize hcq : c ⟨s0, s1, s2, s3⟩ = n at h0 hcl hfun
            have HCQ := Lib.hid hcq
            clear hcq
            have hgt : (0 : Int) < (n : Int) := by omega
            have hws : IntKind.i64.wrap ((n : Int) - 1) = (n : Int) - 1 := by rw [IntKind.wrap_i64] <;> omega
            have hwm : IntKind.i64.wrap ((mN : Int) + 1) = (mN : Int) + 1 := by rw [IntKind.wrap_i64] <;> omega
            go_wp2_with (go_at_call 36; (with_reducible refine (gk _ (HB.out.step HBW.out)).mono ?_); rintro e w2 ⟨rfl, hb2⟩; have e0 := ((HC.out.step hb2).step (below_box (.cells #[.string s0, .string s1, .string s2, .string s3] 74))).look HQ.out; rw [HCQ.out] at e0; unfold κQ at e0; simp only at e0)
            have HB2 := Lib.hid (below_next (below_next HBW.out hb2) (below_box (.cells #[.string s0, .string s1, .string s2, .string s3] 74)))
            have HC2 := Lib.hid ((HC.out.step hb2).step (below_box (.cells #[.string s0, .string s1, .string s2, .string s3] 74)))
            have x0 : (w2.alloc (.cells #[.string s0, .string s1, .string s2, .string s3] 74)).cell? ⟨w2.heap.size, 0, none⟩ = some (.string s0) := by simp
            have x1 : (w2.alloc (.cells #[.string s0, .string s1, .string s2, .string s3] 74)).cell? ⟨w2.heap.size, 1, none⟩ = some (.string s1) := by simp
            have x2 : (w2.alloc (.cells #[.string s0, .string s1, .string s2, .string s3] 74)).cell? ⟨w2.heap.size, 2, none⟩ = some (.string s2) := by simp
            have x3 : (w2.alloc (.cells #[.string s0, .string s1, .string s2, .string s3] 74)).cell? ⟨w2.heap.size, 3, none⟩ = some (.string s3) := by simp
            clear e0 hb2
            generalize w2.alloc (.cells #[.string s0, .string s1, .string s2, .string s3] 74) = X at *
            obtain ⟨v0, sv, w3, w4, e0, e1, e2, e3, hc4, hg4⟩ := (HC2.out.step (Below.refl _ _).drew).entryI HQ.out hk2 ((n : Int) - 1) (n - 1) (by omega)
            rw [HCQ.out] at e0 e2
            unfold κQ at e0 e1 e2
            simp only at e0 e1 e2
            go_region_with (fail)
            all_goals
              have HBF := Lib.hid (below_grown HB2.out.drew hg4.out (Nat.le_refl _) HB2.out.drew.size)
              have HCF := Lib.hid ((hc4.out.congr hfun.out).more (N' := A1 + (k + 1)) (by omega))
              clear e0 e1 e2 e3
              go_wp2
              go_roundw
              case rel => exact ⟨k + 1, mN + 1, _, by omega, by go_num, by go_num, by omega, HMT2.out, HLE.out, HBF.out, HCF.out⟩
              case measure => simp [RowKit.intOf]; omega
          · rw [if_neg h0] at hmt
            have h00 : c q = 0 := by omega
            have HMT2 := Lib.hid hmt
            clear hmt
            obtain ⟨s0, s1, s2, s3⟩ := q
            unfold κQ at gk
            simp only at gk
            have HCQ := Lib.hid h00
            clear h00 h0 hcl
            go_wp2_with (go_at_call 36; (with_reducible refine (gk _ (HB.out.step HBW.out)).mono ?_); rintro e w2 ⟨rfl, hb2⟩; have e0 := ((HC.out.step hb2).step (below_box (.cells #[.string s0, .string s1, .string s2, .string s3] 74))).look HQ.out; rw [HCQ.out] at e0; unfold κQ at e0; simp only at e0)
            have HB2 := Lib.hid (below_next (below_next HBW.out hb2) (below_box (.cells #[.string s0, .string s1, .string s2, .string s3] 74)))
            have HC2 := Lib.hid ((HC.out.step hb2).step (below_box (.cells #[.string s0, .string s1, .string s2, .string s3] 74)))
            clear e0 hb2
            go_roundw
            case rel => exact ⟨k + 1, mN, c, by omega, by go_num, rfl, by omega, HMT2.out, HCL.out, HB2.out, HC2.out.more (by omega)⟩
            case measure => simp [RowKit.intOf]; omega
        · obtain rfl : B1 = k := by omega
          have hmt := HMT.out
          rw [List.drop_eq_nil_of_le (by rw [gramsQ_length]; have := HB1.out; omega)] at hmt
          have HMT2 := Lib.hid (show mtQ a b N = mN by simpa [mt] using hmt)
          go_wp2_with (first
            | (go_at_call 35; (with_reducible refine (cA _ (HA.out.step HBW.out)).mono ?_); rintro e w1 ⟨rfl, rfl⟩)
            | (go_at_call 35; (with_reducible refine (cB _ (HB.out.step HBW.out)).mono ?_); rintro e w1 ⟨rfl, rfl⟩))
          refine bodyPost_ret (v := .tuple #[.int .i64 mN, .int .i64 A1, .int .i64 B1, .int .u8 0]) (by simp [results, Tryz.f12]) rfl ?_
          exact ⟨by rw [HM.out, HMT2.out], HBW.out⟩
end Go.Proofs.YthgllfbigcoaiaaGreatDoor
namespace Go.Proofs.YthgllfbigcoaiaaGreatDoor
open Go Go.RowKit Go.Lib
set_option maxRecDepth 100000
theorem lists_new (w : World) (ls : List (Value × List ByteArray)) (t : TypeId) (h : ∀ x ∈ ls, WdsAt w x.1 x.2) (hn : ls.length ≤ 1000) :
    ListsAt (w.alloc (.cells (ls.map (·.1)).toArray t)) (.slice (some ⟨w.heap.size, 0, none⟩) ls.length ls.length) ls := by
  refine ⟨⟨_, _, rfl, Nat.le_refl _, by unfold maxLen; omega, fun _ => ⟨_, rfl, by simp, fun i j hi hj => ?_⟩⟩, fun x hx => (h x hx).step (below_box _)⟩
  obtain rfl : j = 0 := by omega
  have ha : (⟨w.heap.size, 0, none⟩ : Addr).add (i * 1 + 0) = ⟨w.heap.size, i, none⟩ := by
    unfold Addr.add
    split
    · rename_i h0
      obtain rfl : i = 0 := by omega
      rfl
    · simp
  rw [ha]
  have : (w.alloc (.cells (ls.map (·.1)).toArray t)).cell? ⟨w.heap.size, i, none⟩ = (ls.map (·.1)).toArray[i]? := by simp
  rw [this]
  simp [hi]
set_option maxHeartbeats 8000000 in
theorem grams_law (a b : List ByteArray) (va vb : Value) (n : Int) (w : World) (ha : WdsAt w va a) (hb : WdsAt w vb b)
    (hS : ∀ w', Below w.heap.size w w' → Calls Tryz.prog 11 #[] w' fun e w'' => e = .returned (.bool true) ∧ Below w'.heap.size w' w'') :
    Calls Tryz.prog 5 #[va, vb, .int .i64 n] w fun e w' => e = .returned (.bool true) ∧ Below w.heap.size w w' := by
  have HA := Lib.hid ha
  have HB := Lib.hid hb
  have HS := Lib.hid hS
  have HL := Lib.hid (lists_new w [(va, a), (vb, b)] 22 (by simp [ha, hb]) (by simp))
  simp only [List.map_cons, List.map_nil, List.length_cons, List.length_nil, Nat.zero_add, Nat.reduceAdd] at HL
  have cM := fun w v h => many_any [(va, a), (vb, b)] v w h
  have hlenA := ha.len
  have hlenB := hb.len
  unfold maxLen at hlenA hlenB
  clear hS
  by_cases hbig : 40 < a.length ∨ 40 < b.length ∨ n < 1 ∨ 4 < n
  · obtain ⟨⟨p, cap, rfl, hl, hc, hrA⟩, hza⟩ := ha
    obtain ⟨⟨p2, cap2, rfl, hl2, hc2, hrB⟩, hzb⟩ := hb
    unfold maxLen at hc hc2
    clear hrA hrB hza hzb
    by_cases i1 : (40 : Int) < (a.length : Int) <;> by_cases i2 : (40 : Int) < (b.length : Int) <;> by_cases i3 : n < 1 <;> by_cases i4 : 4 < n
    all_goals first
      | (exfalso; omega)
      | (go_enter Tryz.func5, Tryz.ntmps5
         go_wp2_with (first
           | (go_at_call 10; (with_reducible refine (cM _ _ HL.out).mono ?_); rintro e w1 ⟨⟨B, rfl⟩, rfl⟩; cases B)
           | (go_at_call 11; (with_reducible refine (HS.out _ (below_box _)).mono ?_); rintro e w2 ⟨rfl, hb2⟩))
         all_goals
           go_ret
           exact ⟨rfl, below_next (below_box _) hb2⟩)
  · obtain ⟨N, rfl⟩ : ∃ N : Nat, n = N := ⟨n.toNat, by omega⟩
    have h1 : 1 ≤ N := by omega
    have h4 : N ≤ 4 := by omega
    have hal : a.length ≤ 40 := by omega
    have hbl : b.length ≤ 40 := by omega
    obtain ⟨X, hX⟩ : ∃ X, X = mtQ a b N := ⟨_, rfl⟩
    obtain ⟨Y, hY⟩ : ∃ Y, Y = a.length + 1 - N := ⟨_, rfl⟩
    obtain ⟨Z, hZ⟩ : ∃ Z, Z = b.length + 1 - N := ⟨_, rfl⟩
    have val : ∀ (l m : List ByteArray), l.length ≤ 40 → m.length ≤ 40 → ∀ K : Nat, 1 ≤ K → K ≤ 4 → matchV l m K = .tuple #[.int .i64 (mtQ l m K : Nat), .int .i64 ((l.length + 1 - K : Nat) : Int), .int .i64 ((m.length + 1 - K : Nat) : Int), .int .u8 0] := by
      intro l m hl hm K hK hK4
      unfold matchV
      rw [if_neg (by omega), if_neg (by omega), Int.toNat_natCast, gramsN_nat, gramsN_nat]
    have cAB : ∀ w', WdsAt w' va a → WdsAt w' vb b → Calls Tryz.prog 12 #[va, vb, .int .i64 N] w' fun e w'' => e = .returned (.tuple #[.int .i64 X, .int .i64 Y, .int .i64 Z, .int .u8 0]) ∧ Below w'.heap.size w' w'' := fun w' h h2 => by
      have := Matches_main a b va vb N w' h h2 h1 h4 (by omega) (by omega)
      rwa [val a b hal hbl N h1 h4, ← hX, ← hY, ← hZ] at this
    have cBA : ∀ w', WdsAt w' va a → WdsAt w' vb b → Calls Tryz.prog 12 #[vb, va, .int .i64 N] w' fun e w'' => e = .returned (.tuple #[.int .i64 X, .int .i64 Z, .int .i64 Y, .int .u8 0]) ∧ Below w'.heap.size w' w'' := fun w' h h2 => by
      have := Matches_main b a vb va N w' h2 h h1 h4 (by omega) (by omega)
      rwa [val b a hbl hal N h1 h4, mtQ_comm b a, ← hX, ← hY, ← hZ] at this
    have cAA : ∀ w', WdsAt w' va a → Calls Tryz.prog 12 #[va, va, .int .i64 N] w' fun e w'' => e = .returned (.tuple #[.int .i64 Y, .int .i64 Y, .int .i64 Y, .int .u8 0]) ∧ Below w'.heap.size w' w'' := fun w' h => by
      have := Matches_main a a va va N w' h h h1 h4 (by omega) (by omega)
      rwa [val a a hal hal N h1 h4, mtQ_self, ← hY] at this
    obtain ⟨X2, hX2⟩ : ∃ X2, X2 = mtQ a b (N + 1) := ⟨_, rfl⟩
    have cMo : (N : Int) < 4 → ∀ w', WdsAt w' va a → WdsAt w' vb b → Calls Tryz.prog 12 #[va, vb, .int .i64 ((N : Int) + 1)] w' fun e w'' => (∃ y z : Int, e = .returned (.tuple #[.int .i64 X2, .int .i64 y, .int .i64 z, .int .u8 0])) ∧ Below w'.heap.size w' w'' := fun hN w' h h2 => by
      have := Matches_main a b va vb (N + 1) w' h h2 (by omega) (by omega) (by omega) (by omega)
      rw [val a b hal hbl (N + 1) (by omega) (by omega), ← hX2] at this
      exact this.mono fun e w'' hh => ⟨⟨_, _, hh.1⟩, hh.2⟩
    have hXX : (N : Int) < 4 → (X2 : Int) ≤ (X : Int) := fun hN => by rw [hX, hX2]; exact_mod_cast mtQ_more a b h1 (by omega)
    have hXY : (X : Int) ≤ (Y : Int) := by rw [hX, hY]; exact_mod_cast mtQ_left a b N
    have hXZ : (X : Int) ≤ (Z : Int) := by rw [hX, hZ]; exact_mod_cast mtQ_right a b N
    have hmx : (Y : Int) = max ((a.length : Int) - (N : Int) + 1) 0 := by omega
    have HX := Lib.hid hX
    obtain ⟨⟨p, cap, rfl, hl, hc, hrA⟩, hza⟩ := ha
    obtain ⟨⟨p2, cap2, rfl, hl2, hc2, hrB⟩, hzb⟩ := hb
    unfold maxLen at hc hc2
    clear hrA hrB hza hzb val hX hY hZ hX2
    have i1 : ¬ (40 : Int) < (a.length : Int) := by omega
    have i2 : ¬ (40 : Int) < (b.length : Int) := by omega
    have i3 : ¬ (N : Int) < 1 := by omega
    have i4 : ¬ (4 : Int) < (N : Int) := by omega
    have j1 : ¬ (Y : Int) < (X : Int) := by omega
    have j2 : ¬ (Z : Int) < (X : Int) := by omega
    by_cases h44 : (N : Int) < 4
    · have j3 : ¬ (X : Int) < (X2 : Int) := by have := hXX h44; omega
      have cMo := cMo h44
      go_enter Tryz.func5, Tryz.ntmps5
      go_wp2_with (first
        | (go_at_call 10; (with_reducible refine (cM _ _ HL.out).mono ?_); rintro e w1 ⟨⟨B, rfl⟩, rfl⟩; cases B)
        | (go_at_call 11; (with_reducible refine (HS.out _ HW5.out).mono ?_); rintro e w6 ⟨rfl, hb6⟩; have HW6 := Lib.hid (below_next HW5.out hb6); clear hb6)
        | (go_at_call 11; (with_reducible refine (HS.out _ (below_box _)).mono ?_); rintro e w6 ⟨rfl, hb6⟩; have HW6 := Lib.hid (below_next (below_box _) hb6); clear hb6)
        | (go_at_call 12; (with_reducible refine (cAB _ (HA.out.step (below_box _)) (HB.out.step (below_box _))).mono ?_); rintro e w2 ⟨rfl, hb2⟩; have HW2 := Lib.hid (below_next (below_box _) hb2); clear hb2)
        | (go_at_call 12; (with_reducible refine (cBA _ (HA.out.step HW2.out) (HB.out.step HW2.out)).mono ?_); rintro e w3 ⟨rfl, hb3⟩; have HW3 := Lib.hid (below_next HW2.out hb3); clear hb3)
        | (go_at_call 12; (with_reducible refine (cAA _ (HA.out.step HW3.out)).mono ?_); rintro e w4 ⟨rfl, hb4⟩; have HW4 := Lib.hid (below_next HW3.out hb4); clear hb4)
        | (go_at_call 12; (with_reducible refine (cMo _ (HA.out.step HW4.out) (HB.out.step HW4.out)).mono ?_); rintro e w5 ⟨⟨y5, z5, rfl⟩, hb5⟩; have HW5 := Lib.hid (below_next HW4.out hb5); clear hb5))
      all_goals
        go_ret
        exact ⟨rfl, HW6.out⟩
    · go_enter Tryz.func5, Tryz.ntmps5
      go_wp2_with (first
        | (go_at_call 10; (with_reducible refine (cM _ _ HL.out).mono ?_); rintro e w1 ⟨⟨B, rfl⟩, rfl⟩; cases B)
        | (go_at_call 11; (with_reducible refine (HS.out _ HW4.out).mono ?_); rintro e w6 ⟨rfl, hb6⟩; have HW6 := Lib.hid (below_next HW4.out hb6); clear hb6)
        | (go_at_call 11; (with_reducible refine (HS.out _ (below_box _)).mono ?_); rintro e w6 ⟨rfl, hb6⟩; have HW6 := Lib.hid (below_next (below_box _) hb6); clear hb6)
        | (go_at_call 12; (with_reducible refine (cAB _ (HA.out.step (below_box _)) (HB.out.step (below_box _))).mono ?_); rintro e w2 ⟨rfl, hb2⟩; have HW2 := Lib.hid (below_next (below_box _) hb2); clear hb2)
        | (go_at_call 12; (with_reducible refine (cBA _ (HA.out.step HW2.out) (HB.out.step HW2.out)).mono ?_); rintro e w3 ⟨rfl, hb3⟩; have HW3 := Lib.hid (below_next HW2.out hb3); clear hb3)
        | (go_at_call 12; (with_reducible refine (cAA _ (HA.out.step HW3.out)).mono ?_); rintro e w4 ⟨rfl, hb4⟩; have HW4 := Lib.hid (below_next HW3.out hb4); clear hb4))
      all_goals
        go_ret
        exact ⟨rfl, HW6.out⟩
end Go.Proofs.YthgllfbigcoaiaaGreatDoor
