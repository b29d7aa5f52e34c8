/- Maps that a call makes itself: what they find. -/
import Derived.Test.YtgcglaagjplbfaaDm4
import Derived.Maps.OwnOps
import Derived.Maps.Views
import Derived.DeepKeys4
import Derived.WalkKit
namespace Go.Proofs.Ytgcglaagjplbfaa
open Go Go.RowKit Go.Lib
set_option maxRecDepth 100000
/-- how an element reads: as itself -/
def heldR (v : Value) : Option (DataW Value × List MemPlace) := some (.held v, [])
/-- a block is a map that finds what f says -/
def MapIs {α : Type} (κ : α → Value) (ok : α → Prop) (w : World) (k : TypeId) (b n : Nat) (f : α → Option Value) : Prop :=
  ∃ D : DataW Value, w.ownsMap Try.prog k heldR b n D ∧ Maps.IsMap D ∧ ∀ a kl, ok a → keyOf Try.prog k (κ a) = some kl → ∀ zd, D.atKey kl zd = match f a with | some v => .held v | none => zd
section
variable {α : Type} {κ : α → Value} {ok : α → Prop} {w : World} {k : TypeId} {b n : Nat} {f : α → Option Value}
theorem MapIs.made (w : World) (k : TypeId) : MapIs κ ok (w.alloc (.map #[] 0)) k w.heap.size 0 fun _ => none :=
  ⟨_, World.ownsMap_made w _ k heldR, ⟨_, rfl⟩, fun _ _ _ _ _ => rfl⟩
theorem MapIs.lt (h : MapIs κ ok w k b n f) : b < w.heap.size := by
  obtain ⟨D, h, _⟩ := h
  exact h.lt
theorem MapIs.step {w' : World} (hb : Below w.heap.size w w') (h : MapIs κ ok w k b n f) : MapIs κ ok w' k b n f := by
  have hl := h.lt
  obtain ⟨D, ⟨es, clock, he, h2, h3, h4⟩, h5⟩ := h
  exact ⟨D, ⟨es, clock, (hb.block _ hl).trans he, h2, h3, h4⟩, h5⟩
theorem MapIs.kept {w' : World} {row : Option Nat} (h : MapIs κ ok w k b n f) (hg : w.grownBy w' row) (hne : some b ≠ row) : MapIs κ ok w' k b n f := by
  obtain ⟨D, h1, h2⟩ := h
  exact ⟨D, h1.kept hg hne, h2⟩
theorem MapIs.congr {f' : α → Option Value} (h : MapIs κ ok w k b n f) (hf : ∀ a, ok a → f a = f' a) : MapIs κ ok w k b n f' := by
  obtain ⟨D, h1, h2, h3⟩ := h
  exact ⟨D, h1, h2, fun a kl ha hk zd => by rw [← hf a ha]; exact h3 a kl ha hk zd⟩
theorem MapIs.look (c : Bool) {t e : TypeId} (h : MapIs κ ok w k b n f) (K : Maps.Keyed Try.prog k) (ht : Try.prog.underlying t = some (.map k e)) {z : Value} (hz : (zeroValue e).run Try.prog w = .ok z w) {a : α} (ha : ok a) {kl : Lit} (hkey : keyOf Try.prog k (κ a) = some kl) :
    (Instr.lookup t (.map (some b)) (κ a) c).run Try.prog w = .ok (if c then .tuple #[(f a).getD z, .bool (f a).isSome] else (f a).getD z) w := by
  obtain ⟨D, ⟨es, clock, hb, F, _, rfl⟩, _, hf⟩ := h
  rcases Maps.fit_look c K ht hz hb F hkey with ⟨hrun, _, hat⟩ | ⟨e0, y, _, _, hrun, hRv, hat, _⟩
  · have h1 := hf a kl ha hkey .nil
    rw [hat] at h1
    cases hfa : f a with
    | none => rw [hrun]; rfl
    | some v => rw [hfa] at h1; cases h1
  · have h1 := hf a kl ha hkey .nil
    rw [hat] at h1
    simp only [heldR, Option.some.injEq] at hRv
    subst hRv
    cases hfa : f a with
    | none => rw [hfa] at h1; cases h1
    | some v =>
      rw [hfa] at h1
      simp only [DataW.held.injEq] at h1
      subst h1
      rw [hrun]; rfl
theorem MapIs.put {w' : World} {v : Value} {a : α} {kl : Lit} {D : DataW Value} {f' : α → Option Value} (K : Maps.Keyed Try.prog k) (hD : Maps.IsMap D) (hf : ∀ a kl, ok a → keyOf Try.prog k (κ a) = some kl → ∀ zd, D.atKey kl zd = match f a with | some v => .held v | none => zd)
    (hκ : ∀ a a', κ a = κ a' → a = a') (hkey : keyOf Try.prog k (κ a) = some kl) (h : w'.ownsMap Try.prog k heldR b n (D.put kl (.held v)))
    (hs : f' a = some v) (ho : ∀ a', a' ≠ a → f' a' = f a') : MapIs κ ok w' k b n f' := by
  refine ⟨_, h, ?_, fun a' kl' ha' hk' zd => ?_⟩
  · obtain ⟨es, rfl⟩ := hD
    exact ⟨_, rfl⟩
  · by_cases e : a' = a
    · subst e
      rw [hkey] at hk'
      cases hk'
      rw [Maps.atKey_put_same hD (K.key hkey), hs]
    · have hne : kl' ≠ kl := fun h0 => e (hκ _ _ (K.inj hk' (h0 ▸ hkey)))
      rw [Maps.atKey_put_other hne, hf a' kl' ha' hk', ho a' e]
end
/-- a store into such a map, in the walk -/
theorem wpList_put {α : Type} {κ : α → Value} {ok : α → Prop} {f f' : α → Option Value} (w : World) {ops : Array Oper} {rest : List Oper} {o : Oper} {a : Act} {Q : Exit → Act → World → Prop}
    (hg : o.guard = none) (m x v : Operand) (t : TypeId) (hop : o.op = Op.mapUpdate t m x v)
    (k e : TypeId) (K : Maps.Keyed Try.prog k) (ht : Try.prog.underlying t = some (.map k e)) (b n : Nat)
    (hm : a.eval m = .map (some b)) (hown : MapIs κ ok w k b n f) (hn : n < maxLen) (κa : α) (val : Value) (hx : a.eval x = κ κa) (hv : a.eval v = val) (kl : Lit) (hkey : keyOf Try.prog k (κ κa) = some kl)
    (hκ : ∀ a a', κ a = κ a' → a = a') (hs : f' κa = some val) (ho : ∀ a', a' ≠ κa → f' a' = f a')
    (hK : ∀ w', MapIs κ ok w' k b (n + 1) f' → w.grownBy w' (some b) → wpList Try.prog ops Q rest (a.put o.dst undef) w') :
    wpList Try.prog ops Q (o :: rest) a w := by
  obtain ⟨D, h1, h2, h3⟩ := hown
  exact wpList_mapUpdate_own w hg m x v t hop k e K ht heldR b n D hm h1 hn _ _ kl hx hv hkey (.held val) [] rfl fun w' hw' hg' => hK w' (MapIs.put K h2 h3 hκ hkey hw' hs ho) hg'
theorem laidO : laidOutB Try.prog = true := by kernel_rfl
theorem keyS : Maps.Keyed Try.prog 9 := Maps.string_keyed Try.underlying9
theorem keyP : Maps.Keyed Try.prog 63 := Maps.Keyed.of_law (deep_law_laid laidO (m := 2) (by omega) (of_decide_eq_true (by kernel_rfl)) (by kernel_rfl) (by rw [Try.underlying63]))
def κS (s : ByteArray) : Value := .string s
def κP (p : ByteArray × ByteArray) : Value := .agg #[.string p.1, .string p.2]
def okS (s : ByteArray) : Prop := s.size ≤ maxLen
def okP (p : ByteArray × ByteArray) : Prop := p.1.size ≤ maxLen ∧ p.2.size ≤ maxLen
theorem κS_inj (a a' : ByteArray) (h : κS a = κS a') : a = a' := by cases h; rfl
theorem κP_inj (a a' : ByteArray × ByteArray) (h : κP a = κP a') : a = a' := by
  obtain ⟨a1, a2⟩ := a
  obtain ⟨b1, b2⟩ := a'
  simp [κP] at h
  simp [h.1, h.2]
theorem keyS_of {s : ByteArray} (h : okS s) : keyOf Try.prog 9 (κS s) = some (.string s.data.toList) := Go.WideMaps.keyOf_string_mk Try.underlying9 h
theorem keyP_of {p : ByteArray × ByteArray} (h : okP p) : ∃ kl, keyOf Try.prog 63 (κP p) = some kl := by
  obtain ⟨a, b⟩ := p
  obtain ⟨h1, h2⟩ := h
  have hkt : Try.prog.keyType 63 = true := by kernel_rfl
  obtain ⟨m, hm⟩ : ∃ m, Try.prog.types.size = m + 1 := ⟨Try.prog.types.size - 1, by have : 0 < Try.prog.types.size := of_decide_eq_true (by kernel_rfl); omega⟩
  have c63 : Try.prog.cellsOf 63 = 2 := by kernel_rfl
  have c9 : Try.prog.cellsOf 9 = 1 := by kernel_rfl
  have hu := Try.underlying63
  have hs := Try.underlying9
  unfold okS at *
  unfold keyOf κP
  simp only [hu]
  rw [if_pos (by simp [hkt, Value.formed, hu, c63]), hm]
  unfold Program.keyLits
  simp only [hu, Value.cells]
  rw [if_pos (by rw [c63]; rfl), show List.range 2 = [0, 1] from rfl, List.mapM_cons, List.mapM_cons, List.mapM_nil]
  simp only at h1 h2
  simp [c9, Program.keyLits, hs, h1, h2]
theorem zeroU (w : World) : (zeroValue 45).run Try.prog w = .ok (.agg #[.string ⟨#[]⟩, .int .i64 0, .int .i64 0]) w := by kernel_rfl
theorem zeroI (w : World) : (zeroValue 3).run Try.prog w = .ok (.int .i64 0) w := by kernel_rfl
end Go.Proofs.Ytgcglaagjplbfaa
