/-
  A CLOSED RUN, HELD AGAINST THE MODEL (10d): the operations of EngU, held against the model.
-/
import Derived.Test.YtnkpjkomokkhcaaGreatDoorEngU
import Derived.Test.YtnkpjkomokkhcaaGreatDoorEngJ
import Derived.Laws.IdiomStrings
namespace Go.Eng
open Go.MapKept
noncomputable section
set_option linter.unusedVariables false
set_option linter.unusedSimpArgs false

section
variable {P : Program} {base : Nat} {w0 : World} {β : Map} {E E1 : EM} {w : World}

theorem keyOK_scalar {d : TypeDesc} {k : Value} (h : keyOK d k = true) : isScalar k = true := by
  cases d <;> cases k <;> simp_all [keyOK, isScalar]
theorem keyOK_isKey {d : TypeDesc} {k : Value} (h : keyOK d k = true) : IsKey d k := by
  cases d <;> cases k <;> simp_all [keyOK, IsKey]
theorem keyOK_check {kt : TypeId} {d : TypeDesc} {k : Value} (hd : P.underlying kt = some d) (h : keyOK d k = true) (b : Bool) : (Instr.checkKey b 10000 kt k).run P w = .ok () w :=
  Go.MapKept.run_checkKey hd (keyOK_isKey h) b 9999

/-- What is found is found in both. -/
theorem findNow_ok {d : TypeDesc} {k : Value} (hk : keyOK d k = true) : ∀ {es es' : List MapEntry} (h : MEs β es es') (i : Nat) {r : Option (Nat × Value)}, Instr.findNow d k es i = some r →
    (r = none → Instr.findNow d k es' i = some none) ∧ (∀ j v, r = some (j, v) → i ≤ j ∧ (∃ e, es[j - i]? = some e ∧ e.key = k) ∧ (∃ e', es'[j - i]? = some e' ∧ e'.key = k) ∧ ∃ v', VR β v v' ∧ Instr.findNow d k es' i = some (some (j, v')))
  | _, _, .nil, i, r, h => by
    simp only [Instr.findNow] at h
    cases h
    exact ⟨fun _ => rfl, fun j v e => by cases e⟩
  | _, _, .cons (k := k1) (v := v) (v' := v') (b := b) (r := es) (r' := es') hv t, i, r, h => by
    simp only [Instr.findNow] at h ⊢
    cases hs : Instr.sameNow d k k1 with
    | none => rw [hs] at h; cases h
    | some q =>
      rw [hs] at h
      cases q with
      | true =>
        simp only at h ⊢
        cases h
        have hkk : k1 = k := by
          cases d <;> cases k <;> simp [keyOK] at hk <;> cases k1 <;> simp [Instr.sameNow] at hs
          · exact hs.symm ▸ rfl
          · obtain ⟨e1, e2⟩ := hs
            rw [e1, e2]
          · have := (bytes_beq _ _).1 hs
            rw [this]
        refine ⟨(fun e => by cases e), ?_⟩
        intro j u e
        cases e
        refine ⟨Nat.le_refl _, ⟨⟨k1, v, b⟩, by simp, hkk⟩, ⟨⟨k1, v', b⟩, by simp, hkk⟩, v', hv, rfl⟩
      | false =>
        simp only at h ⊢
        obtain ⟨h1, h2⟩ := findNow_ok hk t (i + 1) h
        refine ⟨h1, fun j u e => ?_⟩
        obtain ⟨a1, ⟨e1, a2, a3⟩, ⟨e2, b2, b3⟩, a4⟩ := h2 j u e
        have hj : j - i = (j - (i + 1)) + 1 := by omega
        exact ⟨by omega, ⟨e1, by rw [hj]; simpa using a2, a3⟩, ⟨e2, by rw [hj]; simpa using b2, b3⟩, a4⟩

theorem VR.mapInv {r : Nat} {v' : Value} (h : VR β (.map (some r)) v') : ∃ l, β r = some l ∧ v' = .map (some l.blk) := by
  cases h with
  | scalar h => simp [isScalar] at h
  | map h => exact ⟨_, h, rfl⟩
/-- A map in both memories. -/
theorem map_at (g : Good P base w0 β E w) {r : Nat} {l : Loc} (hl : β r = some l) {es : Array MapEntry} {clock : Nat} (he : E.get r = .obj (.map es clock)) :
    ∃ es', w.heap[l.blk]? = some (.map es' clock) ∧ MEs β es.toList es'.toList := by
  have hrep := g.rep _ _ hl
  rw [he] at hrep
  obtain ⟨_, _, o', hb, ho⟩ := hrep
  cases ho with
  | map h => exact ⟨_, hb, h⟩

theorem uLookup_ok (g : Good P base w0 β E w) {t : TypeId} {x x' k k' : Value} (hx : VR β x x') (hk : VR β k k') {ok : Bool} {v : Value} (h : uLookup P E t x k ok = some (v, E1)) :
    E1 = E ∧ ∃ v', VR β v v' ∧ (Instr.lookup t x' k' ok).run P w = .ok v' w := by
  unfold uLookup at h
  split at h
  case h_2 => cases h
  rename_i kt et ht
  split at h
  case h_2 => cases h
  rename_i d z hd hz
  obtain ⟨hzf, hzr⟩ := zeroE_ok (w := w) hz
  split at h
  case isFalse => cases h
  rename_i hko
  have hkk := hk.scalarEq (keyOK_scalar hko)
  subst hkk
  split at h
  · -- a nil map
    cases h
    have := hx.scalarEq rfl
    subst this
    refine ⟨rfl, ?_⟩
    have hf : (Instr.findKey kt k' []).run P w = .ok none w := Go.MapKept.run_findKey hd rfl
    have hc := keyOK_check (P := P) (w := w) hd hko true
    cases ok with
    | true => exact ⟨.tuple #[z, .bool false], .tuple (.cons (VR.flat hzf) (.cons (.scalar rfl) .nil)), by simp [Instr.lookup, run_underlying ht, hc, hf, hzr]⟩
    | false => exact ⟨z, VR.flat hzf, by simp [Instr.lookup, run_underlying ht, hc, hf, hzr]⟩
  · rename_i r
    split at h
    case h_2 => cases h
    rename_i es clock he
    obtain ⟨l, hl, rfl⟩ := hx.mapInv
    obtain ⟨es', hb, hm⟩ := map_at g hl he
    have hg := Go.MapKept.run_getObj_map (P := P) hb
    have hc := fun b => keyOK_check (P := P) (w := w) hd hko b
    split at h
    · rename_i i u hf
      obtain ⟨_, h2⟩ := findNow_ok hko hm 0 hf
      obtain ⟨_, _, _, u', hu, hf'⟩ := h2 _ _ rfl
      have hfk := Go.MapKept.run_findKey (w := w) hd hf'
      cases h
      refine ⟨rfl, ?_⟩
      cases ok with
      | true => exact ⟨.tuple #[u', .bool true], .tuple (.cons hu (.cons (.scalar rfl) .nil)), by simp [Instr.lookup, run_underlying ht, hg, hc, hfk]⟩
      | false => exact ⟨u', hu, by simp [Instr.lookup, run_underlying ht, hg, hc, hfk]⟩
    · rename_i hf
      obtain ⟨h1, _⟩ := findNow_ok hko hm 0 hf
      have hfk := Go.MapKept.run_findKey (w := w) hd (h1 rfl)
      cases h
      refine ⟨rfl, ?_⟩
      cases ok with
      | true => exact ⟨.tuple #[z, .bool false], .tuple (.cons (VR.flat hzf) (.cons (.scalar rfl) .nil)), by simp [Instr.lookup, run_underlying ht, hg, hc, hfk, hzr]⟩
      | false => exact ⟨z, VR.flat hzf, by simp [Instr.lookup, run_underlying ht, hg, hc, hfk, hzr]⟩
    · cases h
  · cases h

theorem MEs.append : ∀ {a a' b b' : List MapEntry}, MEs β a a' → MEs β b b' → MEs β (a ++ b) (a' ++ b')
  | _, _, _, _, .nil, h => h
  | _, _, _, _, .cons hv t, h => .cons hv (MEs.append t h)
theorem MEs.modify {k v v' : Value} (hv : VR β v v') : ∀ {a a' : List MapEntry} (i : Nat), MEs β a a' → MEs β (a.modify i fun e => { e with key := k, val := v }) (a'.modify i fun e => { e with key := k, val := v' })
  | _, _, i, .nil => by simpa using MEs.nil
  | _, _, 0, .cons hu t => by simpa using MEs.cons hv t
  | _, _, i + 1, .cons hu t => by
    simp only [List.modify_succ_cons]
    exact .cons hu (MEs.modify hv i t)

theorem uUpdate_ok (g : Good P base w0 β E w) {t : TypeId} {x x' k k' u u' : Value} (hx : VR β x x') (hk : VR β k k') (hu : VR β u u') {v : Value} (h : uUpdate P E t x k u = some (v, E1)) :
    v = undef ∧ ∃ w1, Good P base w0 β E1 w1 ∧ (Instr.mapUpdate t x' k' u').run P w = .ok () w1 := by
  unfold uUpdate at h
  split at h
  case h_2 => cases h
  rename_i kt et ht
  split at h
  case h_2 => cases h
  rename_i d hd
  split at h
  case isFalse => cases h
  rename_i hko
  have hkk := hk.scalarEq (keyOK_scalar hko)
  subst hkk
  split at h
  case h_2 => cases h
  rename_i r
  split at h
  case h_2 => cases h
  rename_i es clock he
  obtain ⟨l, hl, rfl⟩ := hx.mapInv
  obtain ⟨es', hb, hm⟩ := map_at g hl he
  have hg := Go.MapKept.run_getObj_map (P := P) hb
  have hc := fun b => keyOK_check (P := P) (w := w) hd hko b
  split at h
  · rename_i i u0 hf
    obtain ⟨_, h2⟩ := findNow_ok hko hm 0 hf
    obtain ⟨_, _, ⟨e', he', hek⟩, u1, _, hf'⟩ := h2 _ _ rfl
    have hfk := Go.MapKept.run_findKey (w := w) hd hf'
    cases h
    have hstay : (Instr.keyThatStays (((es'[i]?).map (·.key)).getD k') k').run P w = .ok k' w := by
      have : es'[i]? = some e' := by simpa using he'
      rw [this]
      simp only [Option.map_some, Option.getD_some, hek]
      exact run_keyThatStays (keyOK_isKey hko)
    refine ⟨rfl, { w with heap := w.heap.setIfInBounds l.blk (.map (es'.modify i fun e => { e with key := k', val := u' }) clock) }, ?_, ?_⟩
    · refine (g.setObj hl he (OR.map ?_)).2
      rw [Array.toList_modify, Array.toList_modify]
      exact MEs.modify hu i hm
    · simp [Instr.mapUpdate, run_underlying ht, hg, hc, hfk, hstay, Go.MapKept.run_setObj_map _ hb]
  · rename_i hf
    obtain ⟨h1, _⟩ := findNow_ok hko hm 0 hf
    have hfk := Go.MapKept.run_findKey (w := w) hd (h1 rfl)
    cases h
    refine ⟨rfl, { w with heap := w.heap.setIfInBounds l.blk (.map (es'.push ⟨k', u', clock⟩) (clock + 1)) }, ?_, ?_⟩
    · refine (g.setObj hl he (OR.map ?_)).2
      rw [Array.toList_push, Array.toList_push]
      exact hm.append (.cons hu .nil)
    · simp [Instr.mapUpdate, run_underlying ht, hg, hc, hfk, Go.MapKept.run_setObj_map _ hb]
  · cases h

/-! ### Keys of any width, and entries that are stored into -/

theorem MEs.get : ∀ {a a' : List MapEntry}, MEs β a a' → ∀ {i : Nat} {e : MapEntry}, a[i]? = some e → ∃ e', a'[i]? = some e' ∧ e'.key = e.key ∧ e'.born = e.born ∧ VR β e.val e'.val
  | _, _, .nil, i, e, h => by simp at h
  | _, _, .cons hv t, 0, e, h => by simp at h; subst h; exact ⟨_, rfl, rfl, rfl, hv⟩
  | _, _, .cons hv t, i + 1, e, h => by simpa using MEs.get t (by simpa using h)
theorem findE_ok {kt : TypeId} {k : Value} : ∀ {es es' : List MapEntry} (h : MEs β es es') (i : Nat) {r : Option (Nat × Value)}, findE P kt k es i = some r →
    ∃ r', (Instr.findAsking kt k es' i).run P w = .ok r' w ∧ (r = none → r' = none) ∧ ∀ j v, r = some (j, v) → ∃ v', r' = some (j, v') ∧ VR β v v'
  | _, _, .nil, i, r, h => by
    simp only [findE] at h
    cases h
    exact ⟨none, by simp [Instr.findAsking], fun _ => rfl, fun j v e => by cases e⟩
  | _, _, .cons (k := k1) (v := v) (v' := v') (b := b) (r := es) (r' := es') hv t, i, r, h => by
    simp only [findE, eqKey] at h
    split at h
    · rename_i hq
      cases h
      split at hq
      case isFalse => cases hq
      refine ⟨some (i, v'), by simp [Instr.findAsking, run_of_runPure hq w], (fun e => by cases e), fun j u e => ?_⟩
      cases e
      exact ⟨v', rfl, hv⟩
    · rename_i hq
      split at hq
      case isFalse => cases hq
      obtain ⟨r', h1, h2⟩ := findE_ok t (i + 1) h
      exact ⟨r', by simp [Instr.findAsking, run_of_runPure hq w, h1], h2⟩
    · cases h
theorem sameNow_wide {d : TypeDesc} (h : isWide d = true) (a b : Value) : Instr.sameNow d a b = none := by
  cases d <;> simp [isWide] at h <;> rfl
theorem findX_ok {kt : TypeId} {d : TypeDesc} (hd : P.underlying kt = some d) {k : Value} (hk : keyX P kt d k = true) {es es' : List MapEntry} (h : MEs β es es') {r : Option (Nat × Value)} (hf : findX P kt d k es = some r) :
    ∃ r', (Instr.findKey kt k es').run P w = .ok r' w ∧ (r = none → r' = none) ∧ ∀ j v, r = some (j, v) → ∃ v', r' = some (j, v') ∧ VR β v v' := by
  unfold findX at hf
  split at hf
  · rename_i hw
    obtain ⟨r', h1, h2⟩ := findE_ok (w := w) h 0 hf
    refine ⟨r', ?_, h2⟩
    cases h with
    | nil =>
      simp only [findE] at hf
      cases hf
      have := h2.1 rfl
      subst this
      exact Go.MapKept.run_findKey hd rfl
    | cons hv t =>
      have : ∀ (e : MapEntry) (l : List MapEntry), Instr.findNow d k (e :: l) 0 = none := fun e l => by simp only [Instr.findNow, sameNow_wide hw]
      simp only [Instr.findKey, Sem.run_bind, run_underlying hd, Result.andThen_ok, this]
      exact h1
  · rename_i hw
    unfold keyX at hk
    rw [if_neg hw] at hk
    obtain ⟨h1, h2⟩ := findNow_ok hk h 0 hf
    cases r with
    | none => exact ⟨none, Go.MapKept.run_findKey hd (h1 rfl), fun _ => rfl, fun j v e => by cases e⟩
    | some q =>
      obtain ⟨j, v⟩ := q
      obtain ⟨_, _, _, v', hv, hf'⟩ := h2 j v rfl
      refine ⟨some (j, v'), Go.MapKept.run_findKey hd hf', (fun e => by cases e), fun j' u e => ?_⟩
      cases e
      exact ⟨v', rfl, hv⟩
theorem keyX_ok {kt : TypeId} {d : TypeDesc} (hd : P.underlying kt = some d) {k : Value} (hk : keyX P kt d k = true) : (∀ k', VR β k k' → k' = k) ∧ ∀ b, (Instr.checkKey b 10000 kt k).run P w = .ok () w := by
  unfold keyX at hk
  split at hk
  · simp only [Bool.and_eq_true, Option.isSome_iff_exists] at hk
    obtain ⟨h1, ⟨u, h2⟩, ⟨u', h3⟩⟩ := hk
    refine ⟨fun k' h => h.flatEq h1, fun b => ?_⟩
    cases b with
    | true => exact run_of_runPure h2 w
    | false => exact run_of_runPure h3 w
  · exact ⟨fun k' h => h.scalarEq (keyOK_scalar hk), fun b => keyOK_check hd hk b⟩

theorem uLookupX_ok (g : Good P base w0 β E w) {t : TypeId} {x x' k k' : Value} (hx : VR β x x') (hk : VR β k k') {ok : Bool} {v : Value} (h : uLookupX P E t x k ok = some (v, E1)) :
    E1 = E ∧ ∃ v', VR β v v' ∧ (Instr.lookup t x' k' ok).run P w = .ok v' w := by
  unfold uLookupX at h
  split at h
  case h_2 => cases h
  rename_i kt et ht
  split at h
  case h_2 => cases h
  rename_i d z hd hz
  obtain ⟨hzf, hzr⟩ := zeroE_ok (w := w) hz
  split at h
  case isFalse => cases h
  rename_i hko
  obtain ⟨hsame, hc⟩ := keyX_ok (β := β) (w := w) hd hko
  have hkk := hsame _ hk
  subst hkk
  split at h
  case h_2 => cases h
  rename_i r
  split at h
  case h_2 => cases h
  rename_i es clock he
  obtain ⟨l, hl, rfl⟩ := hx.mapInv
  obtain ⟨es', hb, hm⟩ := map_at g hl he
  have hg := Go.MapKept.run_getObj_map (P := P) hb
  split at h
  · rename_i i u hf
    obtain ⟨r', hrun, _, h2⟩ := findX_ok (w := w) hd hko hm hf
    obtain ⟨u', rfl, hu⟩ := h2 _ _ rfl
    cases h
    refine ⟨rfl, ?_⟩
    cases ok with
    | true => exact ⟨.tuple #[u', .bool true], .tuple (.cons hu (.cons (.scalar rfl) .nil)), by simp [Instr.lookup, run_underlying ht, hg, hc, hrun]⟩
    | false => exact ⟨u', hu, by simp [Instr.lookup, run_underlying ht, hg, hc, hrun]⟩
  · rename_i hf
    obtain ⟨r', hrun, h1, _⟩ := findX_ok (w := w) hd hko hm hf
    have := h1 rfl
    subst this
    cases h
    refine ⟨rfl, ?_⟩
    cases ok with
    | true => exact ⟨.tuple #[z, .bool false], .tuple (.cons (VR.flat hzf) (.cons (.scalar rfl) .nil)), by simp [Instr.lookup, run_underlying ht, hg, hc, hrun, hzr]⟩
    | false => exact ⟨z, VR.flat hzf, by simp [Instr.lookup, run_underlying ht, hg, hc, hrun, hzr]⟩
  · cases h

theorem MEs.modifyKey {k : Value} : ∀ {a a' : List MapEntry} (i : Nat), MEs β a a' → MEs β (a.modify i fun e => { e with key := k }) (a'.modify i fun e => { e with key := k })
  | _, _, i, .nil => by simpa using MEs.nil
  | _, _, 0, .cons hu t => by simpa using MEs.cons hu t
  | _, _, i + 1, .cons hu t => by
    simp only [List.modify_succ_cons]
    exact .cons hu (MEs.modifyKey i t)
theorem MEs.modifyVal {v v' : Value} (hv : VR β v v') : ∀ {a a' : List MapEntry} (i : Nat), MEs β a a' → MEs β (a.modify i fun e => { e with val := v }) (a'.modify i fun e => { e with val := v' })
  | _, _, i, .nil => by simpa using MEs.nil
  | _, _, 0, .cons hu t => by simpa using MEs.cons hv t
  | _, _, i + 1, .cons hu t => by
    simp only [List.modify_succ_cons]
    exact .cons hu (MEs.modifyVal hv i t)
theorem MEs.findIdx {p : MapEntry → Bool} (hp : ∀ a b : MapEntry, a.born = b.born → p a = p b) : ∀ {a a' : List MapEntry}, MEs β a a' → a'.findIdx? p = a.findIdx? p
  | _, _, .nil => rfl
  | _, _, .cons (k := k) (v := v) (v' := v') (b := b) hu t => by
    simp only [List.findIdx?_cons]
    rw [MEs.findIdx hp t, hp ⟨k, v', b⟩ ⟨k, v, b⟩ rfl]

theorem uEntry_ok (g : Good P base w0 β E w) {t : TypeId} {x x' k k' : Value} (hx : VR β x x') (hk : VR β k k') {v : Value} (h : uEntry P E t x k = some (v, E1)) :
    ∃ v' w1, VR β v v' ∧ Good P base w0 β E1 w1 ∧ (Instr.mapEntry t x' k').run P w = .ok v' w1 := by
  unfold uEntry at h
  split at h
  case h_2 => cases h
  rename_i kt et ht
  split at h
  case h_2 => cases h
  rename_i d z hd hz
  obtain ⟨hzf, hzr⟩ := zeroE_ok (w := w) hz
  split at h
  case isFalse => cases h
  rename_i hko
  obtain ⟨hsame, hc⟩ := keyX_ok (β := β) (w := w) hd hko
  have hkk := hsame _ hk
  subst hkk
  split at h
  case h_2 => cases h
  rename_i r
  split at h
  case h_2 => cases h
  rename_i es clock he
  obtain ⟨l, hl, rfl⟩ := hx.mapInv
  obtain ⟨es', hb, hm⟩ := map_at g hl he
  have hg := Go.MapKept.run_getObj_map (P := P) hb
  split at h
  · rename_i i u hf
    obtain ⟨r', hrun, _, h2⟩ := findX_ok (w := w) hd hko hm hf
    obtain ⟨u', rfl, hu⟩ := h2 _ _ rfl
    split at h
    case h_2 => cases h
    rename_i e hei
    split at h
    case isFalse => cases h
    rename_i hbits
    cases h
    obtain ⟨e', he', hek, heb, hev⟩ := hm.get hei
    have hi' : es'[i]? = some e' := by simpa using he'
    have hstay : (Instr.keyThatStays e'.key k').run P w = .ok k' w := by
      rw [hek]
      simp [Instr.keyThatStays, hbits]
    refine ⟨.tuple #[u', goInt e'.born], { w with heap := w.heap.setIfInBounds l.blk (.map (es'.modify i fun e => { e with key := k' }) clock) }, .tuple (.cons hu (.cons (by rw [heb]; exact .scalar rfl) .nil)), ?_, ?_⟩
    · refine (g.setObj hl he (OR.map ?_)).2
      rw [Array.toList_modify, Array.toList_modify]
      exact MEs.modifyKey i hm
    · simp [Instr.mapEntry, run_underlying ht, hg, hc, hrun, hi', hstay, Go.MapKept.run_setObj_map _ hb]
  · rename_i hf
    obtain ⟨r', hrun, h1, _⟩ := findX_ok (w := w) hd hko hm hf
    have := h1 rfl
    subst this
    cases h
    refine ⟨.tuple #[z, goInt clock], { w with heap := w.heap.setIfInBounds l.blk (.map (es'.push ⟨k', z, clock⟩) (clock + 1)) }, .tuple (.cons (VR.flat hzf) (.cons (.scalar rfl) .nil)), ?_, ?_⟩
    · refine (g.setObj hl he (OR.map ?_)).2
      rw [Array.toList_push, Array.toList_push]
      exact hm.append (.cons (VR.flat hzf) .nil)
    · simp [Instr.mapEntry, run_underlying ht, hg, hc, hrun, hzr, Go.MapKept.run_setObj_map _ hb]
  · cases h

theorem uEntryStore_ok (g : Good P base w0 β E w) {t : TypeId} {x x' s s' u u' : Value} (hx : VR β x x') (hs : VR β s s') (hu : VR β u u') {v : Value} (h : uEntryStore E x s u = some (v, E1)) :
    v = undef ∧ ∃ w1, Good P base w0 β E1 w1 ∧ (Instr.entryStore t x' s' u').run P w = .ok () w1 := by
  unfold uEntryStore at h
  split at h
  case h_2 => cases h
  rename_i r ik b
  split at h
  case h_2 => cases h
  rename_i es clock he
  obtain ⟨l, hl, rfl⟩ := hx.mapInv
  have := hs.intInv
  subst this
  obtain ⟨es', hb, hm⟩ := map_at g hl he
  have hg := Go.MapKept.run_getObj_map (P := P) hb
  split at h
  case h_2 => cases h
  rename_i i hi
  cases h
  have hi' : es'.findIdx? (fun e => (e.born : Int) == b) = some i := by
    have h1 := MEs.findIdx (p := fun e => (e.born : Int) == b) (fun a c hac => by simp only [hac]) hm
    cases es'
    cases es
    simp only [List.findIdx?_toArray] at hi ⊢
    rw [h1]
    exact hi
  refine ⟨rfl, { w with heap := w.heap.setIfInBounds l.blk (.map (es'.modify i fun e => { e with val := u' }) clock) }, ?_, ?_⟩
  · refine (g.setObj hl he (OR.map ?_)).2
    rw [Array.toList_modify, Array.toList_modify]
    exact MEs.modifyVal hu i hm
  · simp [Instr.entryStore, hg, asInt, asIntOf, hi', Go.MapKept.run_setObj_map _ hb]

theorem append_zeros {t u ty e : TypeId} {i : TypeInfo} {z : Value} {ik ik' : IntKind} (ht : P.underlying t = some (.slice e)) (hu : P.underlying u = some (.int ik)) (hi : P.info? e = some i)
    (hz : i.zero = some z) {m : Int} (hm : 0 < m) (h0 : i.bytes ≠ 0) (hsz : i.size ≠ 0) (h47 : m.toNat * i.bytes ≤ 140737488355328) :
    ∃ C, m.toNat ≤ C ∧ (Builtin.append_ #[t, u] ty #[.slice none 0 0, .int ik' m]).run P w =
      .ok (.slice (some ⟨w.heap.size, 0, none⟩) m.toNat C) (w.drew.alloc (.cells (Builtin.zeroCells z.cells m.toNat ++ Builtin.zeroCells z.cells (C - m.toNat)) e)) := by
  obtain ⟨n, rfl⟩ : ∃ n : Nat, m = n := ⟨m.toNat, by omega⟩
  simp only [Int.toNat_natCast] at h47 ⊢
  have hn0 : 0 < n := by omega
  have hb1 : 1 ≤ i.bytes := by omega
  have hle : n ≤ n * i.bytes := Nat.le_mul_of_pos_right n hb1
  have hwrap : IntKind.i64.wrap (n : Int) = n := by rw [IntKind.wrap_i64] <;> omega
  have h48 : ¬ (281474976710656 < Builtin.nextslicecap n 0 * i.bytes) := by
    have := growslice_fits (old := 0) (need := n) (bytes := i.bytes) hn0 h47
    omega
  have hneg : ¬ ((n : Int) < 0) := by omega
  have hbig : ¬ (281474976710656 < (n : Int) * (i.bytes : Int)) := by
    rw [← Int.natCast_mul]
    generalize n * i.bytes = q at h47
    omega
  have hmax : ¬ (9223372036854775807 < (n : Int)) := by omega
  have hns : ¬ (n * i.size = 0) := by
    intro e
    rcases Nat.mul_eq_zero.1 e with e | e
    · omega
    · exact hsz e
  refine ⟨(Question.appendCap n 0 e).cut (w.tape w.drawn (.appendCap n 0 e)), by simp [Question.cut], ?_⟩
  have hzr : ∀ w : World, (zeroValue e).run P w = .ok z w := fun w => by simp [zeroValue, typeInfo, hi, hz]
  unfold Builtin.append_
  simp only [List.getElem?_toArray, List.getElem?_cons_zero, List.getElem?_cons_succ, Sem.run_bind, run_underlying ht, run_underlying hu, Result.andThen_ok, run_sizeOf hi, Sem.run_pure]
  simp [asInt, asIntOf, hwrap, hneg, run_typeInfo hi, hbig, hzr, h48, hmax, Question.forced, hns, Builtin.firstCells, newRow, Nat.pos_iff_ne_zero.1 hn0]

theorem uAppendZ_ok (g : Good P base w0 β E w) {t u ty : TypeId} {x x' y y' : Value} (hx : VR β x x') (hy : VR β y y') {v : Value} (h : uAppendZ P E [t, u] [x, y] = some (v, E1)) :
    ∃ β1 v' w1, Ext β β1 ∧ VR β1 v v' ∧ Good P base w0 β1 E1 w1 ∧ (Builtin.append_ #[t, u] ty #[x', y']).run P w = .ok v' w1 := by
  unfold uAppendZ at h
  split at h
  case h_2 => cases h
  rename_i t1 u1 ik m e1 e2
  cases e1
  cases e2
  have := hx.scalarEq rfl
  subst this
  have := hy.intInv
  subst this
  split at h
  case h_2 => cases h
  rename_i e ik2 ht hu
  split at h
  case h_2 => cases h
  rename_i i z hi hz
  split at h
  case isFalse => cases h
  rename_i hc
  obtain ⟨hm, h47, h0, hzs, hsc, hsz⟩ := hc
  have hzi := zeroE_info hz hi
  cases h
  obtain ⟨C, hC, hrun⟩ := append_zeros (w := w) (ty := ty) (ik' := ik) ht hu hi hzi hm h0 hsz h47
  have hcl : VRs β (Builtin.zeroCells z.cells m.toNat).toList (Builtin.zeroCells z.cells m.toNat).toList := by
    refine VRs.refl ?_
    rw [List.all_eq_true]
    intro a ha
    simp only [Builtin.zeroCells, Array.toList_map, List.mem_map] at ha
    obtain ⟨j, _, rfl⟩ := ha
    have hlt : j % z.cells.size < z.cells.size := Nat.mod_lt _ (by omega)
    rw [getElem!_pos z.cells (j % z.cells.size) hlt]
    exact List.all_eq_true.1 hsc _ (by simp)
  have hx : (Builtin.zeroCells z.cells (C - m.toNat)).toList.length = (C - m.toNat) * szOf P e := by rw [zeroCells_length, hzs, szOf_info hi]
  have hg := (g.sameHeap (w' := w.drew) rfl).newS hcl e (C - m.toNat) _ hx
  have heq : ((Builtin.zeroCells z.cells m.toNat).toList ++ (Builtin.zeroCells z.cells (C - m.toNat)).toList).toArray = Builtin.zeroCells z.cells m.toNat ++ Builtin.zeroCells z.cells (C - m.toNat) := by
    apply Array.ext'; simp
  rw [heq] at hg
  refine ⟨_, _, _, Ext.put g.fresh _, VR.slice (AR.new _ _ _ rfl) (.inr ⟨_, Map.put_same _ _ _, ?_, rfl⟩), hg, ?_⟩
  · simp only [zeroCells_length, hzs, szOf_info hi, Nat.zero_add]
  · rw [hrun]
    have : m.toNat + (C - m.toNat) = C := by omega
    rw [this]
    rfl

theorem uMakeMap_ok (g : Good P base w0 β E w) {t : TypeId} {v : Value} (h : uMakeMap E none = some (v, E1)) :
    ∃ β1 v' w1, Ext β β1 ∧ VR β1 v v' ∧ Good P base w0 β1 E1 w1 ∧ (Instr.makeMap t none).run P w = .ok v' w1 := by
  simp only [uMakeMap] at h
  cases h
  have g1 := g.newObj (OR.map (es := #[]) (es' := #[]) (clock := 0) MEs.nil) _ rfl
  exact ⟨_, .map (some w.heap.size), _, Ext.put g.fresh _, .map (Map.put_same _ _ _), g1, by simp [Instr.makeMap]⟩

theorem uMakeSlice_ok (g : Good P base w0 β E w) {t : TypeId} {l l' c c' : Value} (hl : VR β l l') (hc : VR β c c') {v : Value} (h : uMakeSlice P E t l c = some (v, E1)) :
    ∃ β1 v' w1, Ext β β1 ∧ VR β1 v v' ∧ Good P base w0 β1 E1 w1 ∧ (Instr.makeSlice t l' c').run P w = .ok v' w1 := by
  unfold uMakeSlice at h
  split at h
  case h_2 => cases h
  rename_i e ht
  split at h
  case h_2 => cases h
  rename_i i z kl ln kc cp hi hz
  split at h
  case isFalse => cases h
  rename_i hcond
  obtain ⟨h0, h1, h2, h3, hsc⟩ := hcond
  cases h
  have e1 := hl.intInv
  have e2 := hc.intInv
  subst e1 e2
  have hzi := zeroE_info hz hi
  have hcells : VRs β (madeCells z.cells (cp.toNat * i.size)).toList (madeCells z.cells (cp.toNat * i.size)).toList := by
    refine VRs.refl ?_
    rw [List.all_eq_true]
    intro u hu
    simp only [madeCells, Array.toList_map, List.mem_map] at hu
    obtain ⟨j, _, rfl⟩ := hu
    by_cases hs : z.cells.size = 0
    · have : z.cells = #[] := Array.eq_empty_of_size_eq_zero hs
      rw [this]
      rfl
    · have hlt : j % z.cells.size < z.cells.size := Nat.mod_lt _ (by omega)
      rw [getElem!_pos z.cells (j % z.cells.size) hlt]
      exact List.all_eq_true.1 hsc _ (by simp)
  have hrun := run_make (P := P) w t e i z ht hi hzi kl kc ln cp h0 h1 h2 (by omega)
  have g1 := g.new hcells e _ rfl
  have ha := AR.new (⟨w.heap.size, 0, (madeCells z.cells (cp.toNat * i.size)).toList.length, szOf P e, 0⟩ : Loc) E.n β rfl
  refine ⟨_, _, _, Ext.put g.fresh _, VR.slice (a' := ⟨w.heap.size, 0, none⟩) ha (.inl rfl), ?_, hrun⟩
  simpa using g1

theorem live_cells (g : Good P base w0 β E w) {a a' : Addr} (h : AR β a a') {c : List Value} {t : TypeId} {own fx : Bool} (he : E.get a.block = .cells c t own fx) :
    ∃ l c' t' fr, β a.block = some l ∧ a.spot = none ∧ a' = ⟨l.blk, l.off + a.off, none⟩ ∧ w.heap[l.blk]? = some (.cells c' t' fr) ∧ c.length = l.size ∧ l.es = szOf P t ∧ l.off + l.size + l.slack * l.es ≤ c'.size ∧ (own = true → base ≤ l.blk ∧ fr = (0, 0) ∧ t' = t ∧ (fx = true → l.off = 0)) := by
  obtain ⟨l, hl, hs, rfl⟩ := h
  have hrep := g.rep _ _ hl
  rw [he] at hrep
  obtain ⟨h1, h2, c', t', fr, hb, h3, _, h5⟩ := hrep
  exact ⟨l, c', t', fr, hl, hs, rfl, hb, h1, h2, h3, h5.1⟩

theorem cellsOf_info {t : TypeId} {i : TypeInfo} (hi : P.info? t = some i) : P.cellsOf t = i.size := by
  simp [Program.cellsOf, hi]

/-- At the head of a row an element of its type lies. -/
theorem liesAt_head {e : TypeId} {n count : Nat} (hc : P.cellsOf e = n) (hn : n ≠ 0) (h1 : 1 ≤ count) : liesAt P P.depth e count (0 + 0) e 1 = true := by
  have hd : P.depth = (2 * (P.types.size + Made.depth) + 1) + 1 := rfl
  rw [hd]
  simp only [liesAt, Bool.or_eq_true]
  left
  rw [hd]
  simp [rowAt, hc, hn, h1, sameLayout]
theorem uConv_ok (g : Good P base w0 β E w) {src dst : TypeId} {x x' : Value} (hx : VR β x x') {v : Value} (h : uConv P E src dst x = some (v, E1)) :
    v = x ∧ E1 = E ∧ (convert src dst x').run P w = .ok x' w := by
  unfold uConv at h
  split at h
  case h_2 => cases h
  rename_i a
  obtain ⟨a', rfl, ha⟩ := hx.ptrInv
  split at h
  case h_2 => cases h
  rename_i c t own fx he
  obtain ⟨l, c', t', fr, hl, hs, rfl, hb, h1, h2, h3, h4⟩ := live_cells g ha he
  have hshape : w.shape? l.blk = some (t', c'.size) := by simp [World.shape?, hb]
  have hview : (viewAt l.blk).run P w = .ok none w := by simp [viewAt, hshape]
  split at h
  · rename_i u hsrc hdst
    split at h
    case h_2 => cases h
    rename_i i hi
    split at h
    case isFalse => cases h
    rename_i hcond
    cases h
    refine ⟨rfl, rfl, ?_⟩
    have hlt : ¬ (c'.size ≤ l.off + a.off) := by
      have := hcond.2
      omega
    simp [convert, run_underlying hsrc, run_underlying hdst, Conv.unsafePointer, Conv.seenAt, hview, cellsIn, hshape, run_sizeOf hi, hcond.1, hlt]
  · rename_i u hsrc hdst
    split at h
    case h_2 => cases h
    rename_i i hi
    split at h
    case isFalse => cases h
    rename_i hcond
    cases h
    obtain ⟨ho, hfx, hi0, rfl, ha0, hcl⟩ := hcond
    obtain ⟨hbase, _, rfl, hoff⟩ := h4 ho
    have hoff := hoff hfx
    refine ⟨rfl, rfl, ?_⟩
    have hsz := cellsOf_info (P := P) hi
    have hes : l.es = i.size := by rw [h2]; exact szOf_info hi
    have hlies : liesAt P P.depth t' (c'.size / P.cellsOf t') (l.off + a.off) t' 1 = true := by
      rw [hoff, ha0]
      exact liesAt_head hsz hi0 (by rw [hsz]; exact (Nat.le_div_iff_mul_le (by omega)).2 (by omega))
    simp [convert, run_underlying hsrc, run_underlying hdst, Conv.unsafePointer, Conv.seenAt, hview, variablesAt, hshape, run_sizeOf hi, hi0, hlies]
  · cases h


theorem uPtrEq_ok (g : Good P base w0 β E w) {op : BinOp} {t : TypeId} {x x' y y' : Value} (hx : VR β x x') (hy : VR β y y') {v : Value} (h : uPtrEq P E op t x y = some (v, E1)) :
    E1 = E ∧ VR β v v ∧ (∀ xo yo, eqGuard op t xo yo x' y' = pure ()) ∧ (binOp op t x' y').run P w = .ok v w := by
  unfold uPtrEq at h
  split at h
  case h_2 => cases h
  rename_i a b
  obtain ⟨a', rfl, ha⟩ := hx.ptrInv
  obtain ⟨b', rfl, hb⟩ := hy.ptrInv
  split at h
  case h_2 => cases h
  rename_i u ht
  split at h
  case h_2 => cases h
  rename_i i hi
  split at h
  case isFalse => cases h
  rename_i hcond
  obtain ⟨hi0, hab⟩ := hcond
  obtain ⟨l, hl, hs, rfl⟩ := ha
  obtain ⟨m, hm, hs', rfl⟩ := hb
  rw [← hab, hl] at hm
  cases hm
  have hsame : (sameAddr ⟨l.blk, l.off + a.off, none⟩ ⟨l.blk, l.off + b.off, none⟩).run P w = .ok (a.off == b.off) w := by
    have : ((⟨l.blk, l.off + a.off, none⟩ : Addr) == ⟨l.blk, l.off + b.off, none⟩) = (a.off == b.off) := by
      by_cases he : a.off = b.off
      · simp [he]
      · have h1 : ¬ (l.off + a.off = l.off + b.off) := by omega
        rw [beq_eq_false_iff_ne.2 he, beq_eq_false_iff_ne.2]
        intro hh
        exact h1 (congrArg Addr.off hh)
    simp [sameAddr, this]
  have heq : (Op.equal t (.pointer (some ⟨l.blk, l.off + a.off, none⟩)) (.pointer (some ⟨l.blk, l.off + b.off, none⟩))).run P w = .ok (a.off == b.off) w := by
    show (Op.equalIn (9999 + 1) _ _ _).run P w = _
    rw [Op.equalIn, Sem.run_bind, run_underlying ht, Result.andThen_ok]
    simp [run_sizeOf hi, hi0, hsame]
  have hgd : ∀ xo yo, eqGuard op t xo yo (.pointer (some ⟨l.blk, l.off + a.off, none⟩)) (.pointer (some ⟨l.blk, l.off + b.off, none⟩)) = pure () := fun xo yo => eqGuard_at_pointer ..
  split at h
  · cases h
    refine ⟨rfl, .scalar rfl, hgd, ?_⟩
    have : binOp .eql t (.pointer (some ⟨l.blk, l.off + a.off, none⟩)) (.pointer (some ⟨l.blk, l.off + b.off, none⟩)) = (do pure (.bool (← Op.equal t (.pointer (some ⟨l.blk, l.off + a.off, none⟩)) (.pointer (some ⟨l.blk, l.off + b.off, none⟩))))) := rfl
    rw [this]
    simp [heq]
  · cases h
    refine ⟨rfl, .scalar rfl, hgd, ?_⟩
    have : binOp .neq t (.pointer (some ⟨l.blk, l.off + a.off, none⟩)) (.pointer (some ⟨l.blk, l.off + b.off, none⟩)) = (do pure (.bool (!(← Op.equal t (.pointer (some ⟨l.blk, l.off + a.off, none⟩)) (.pointer (some ⟨l.blk, l.off + b.off, none⟩)))))) := rfl
    rw [this]
    simp [heq]
  · cases h

theorem uIndex_ok {t : TypeId} {x x' ix ix' : Value} (hx : VR β x x') (hi : VR β ix ix') {v : Value} (h : uIndex P E t x ix = some (v, E1)) :
    E1 = E ∧ ∃ v', VR β v v' ∧ (Instr.index t x' ix').run P w = .ok v' w := by
  unfold uIndex at h
  split at h
  case h_2 => cases h
  rename_i k i cs
  have := hi.intInv
  subst this
  obtain ⟨cs', rfl, hv⟩ := hx.aggInv
  split at h
  case h_2 => cases h
  rename_i len e ht
  split at h
  case h_2 => cases h
  rename_i inf hinf
  split at h
  case isFalse => cases h
  rename_i hb
  split at h
  case h_2 => cases h
  rename_i u hp
  cases h
  obtain ⟨u', h1, h2⟩ := part_ok (w := w) hv hp
  exact ⟨rfl, u', h1, by simp [Instr.index, asIntOf, run_underlying ht, hb, run_sizeOf hinf, h2]⟩
theorem uCopy_ok (g : Good P base w0 β E w) {t u ty : TypeId} {x x' y y' : Value} (hx : VR β x x') (hy : VR β y y') {v : Value} (h : uCopy P E [t, u] [x, y] = some (v, E1)) :
    VR β v v ∧ ∃ w1, Good P base w0 β E1 w1 ∧ (Builtin.copy_ #[t, u] ty #[x', y']).run P w = .ok v w1 := by
  unfold uCopy at h
  split at h
  case h_2 => cases h
  rename_i t0 u0 b dLen cap y0 e1 e2
  simp only [List.cons.injEq, and_true] at e1 e2
  obtain ⟨rfl, rfl⟩ := e1
  obtain ⟨rfl, rfl⟩ := e2
  split at h
  case h_2 => cases h
  rename_i e ht
  split at h
  case h_2 => cases h
  rename_i i hi
  split at h
  case h_2 => cases h
  rename_i n new hnew
  obtain ⟨new', rn, ln, hlen, hfirst⟩ := newCells_ok g hy hnew
  split at h
  case isFalse => cases h
  rename_i hcond
  obtain ⟨hle, hspt⟩ := hcond
  have hmin : Nat.min n dLen = n := Nat.min_eq_left hle
  have hf := hfirst w rfl rfl rfl rfl
  split at h
  · split at h
    · rename_i hn0
      cases h
      subst hn0
      have := hx.scalarEq rfl
      subst this
      refine ⟨.scalar rfl, w, g, ?_⟩
      simp [Builtin.copy_, run_underlying ht, hlen, hmin, run_sizeOf hi, hf, goInt]
    · cases h
  · rename_i a
    obtain ⟨a', cap', rfl, ha, hc⟩ := hx.sliceInv (by simpa [spotted] using hspt)
    split at h
    case h_2 => cases h
    rename_i E2 hst
    cases h
    obtain ⟨w1, hrun, g1⟩ := storeCellsE_ok (P := P) _ 0 g ha rn hst
    refine ⟨.scalar rfl, w1, g1, ?_⟩
    simp [Builtin.copy_, run_underlying ht, hlen, hmin, run_sizeOf hi, hf, hrun]

theorem uCap_ok (g : Good P base w0 β E w) {t ty : TypeId} {x x' : Value} (hx : VR β x x') {v : Value} (h : uCap P E [t] [x] = some (v, E1)) :
    E1 = E ∧ VR β v v ∧ (Builtin.cap_ #[t] ty #[x']).run P w = .ok v w := by
  unfold uCap at h
  split at h
  case h_2 => cases h
  rename_i t0 a n c e1 e2
  simp only [List.cons.injEq, and_true] at e1 e2
  subst e1 e2
  split at h
  case h_2 => cases h
  rename_i e ht
  split at h
  case h_2 => cases h
  rename_i cs t2 own he
  split at h
  case isFalse => cases h
  rename_i hs
  cases h
  obtain ⟨a', cap', rfl, ⟨l, hl, _, rfl⟩, hc⟩ := hx.sliceInv hs
  have hrep := g.rep _ _ hl
  rw [he] at hrep
  obtain ⟨_, _, _, _, _, _, _, _, hfx⟩ := hrep
  have hz := hfx.2 rfl
  have hcap : cap' = c := by
    rcases hc with hc | ⟨m, hm, _, hc⟩
    · exact hc
    · rw [hl] at hm; cases hm; rw [hz] at hc; exact hc
  subst hcap
  exact ⟨rfl, .scalar rfl, by simp [Builtin.cap_, run_underlying ht]⟩

theorem uSliceData_ok {ts : Array TypeId} {ty : TypeId} {x x' : Value} (hx : VR β x x') {v : Value} (h : uSliceData E [x] = some (v, E1)) :
    E1 = E ∧ ∃ v', VR β v v' ∧ (Builtin.unsafeSliceData_ ts ty #[x']).run P w = .ok v' w := by
  unfold uSliceData at h
  split at h
  case h_2 => cases h
  rename_i a n c e2
  simp only [List.cons.injEq, and_true] at e2
  subst e2
  split at h
  case isFalse => cases h
  rename_i hcond
  cases h
  obtain ⟨a', cap', rfl, ha, hc⟩ := hx.sliceInv hcond.2
  have : cap' ≠ 0 := by
    rcases hc with hc | ⟨m, _, _, hc⟩
    · rw [hc]; exact hcond.1
    · have := hcond.1; omega
  exact ⟨rfl, _, .ptr ha, Lib.run_unsafeSliceData_row w ts ty a' n cap' this⟩

theorem bytesE_ok : ∀ {cs : List Value} {l : List UInt8}, bytesE cs = some l → cs = l.map fun b => Value.int .u8 b.toNat
  | [], l, h => by simp only [bytesE] at h; cases h; rfl
  | v :: r, l, h => by
    cases v with
    | int k n =>
      cases k <;> simp only [bytesE] at h <;> try (cases h; done)
      split at h
      · rename_i hn
        split at h
        · rename_i l1 h1
          cases h
          rw [bytesE_ok h1]
          simp
          omega
        · cases h
      · cases h
    | _ => simp [bytesE] at h
theorem bytesR {l : List UInt8} {cs' : List Value} (h : VRs β (l.map fun b => Value.int .u8 b.toNat) cs') : cs' = l.map fun b => Value.int .u8 b.toNat := by
  refine h.scalarEq ?_
  simp [isScalar]

theorem liesAt_row {e : TypeId} (hc : P.cellsOf e = 1) (count off n : Nat) (hn : off + n ≤ count) : liesAt P P.depth e count off e n = true := by
  have hd : P.depth = (2 * (P.types.size + Made.depth) + 1) + 1 := rfl
  rw [hd]
  simp only [liesAt, Bool.or_eq_true]
  left
  rw [hd]
  simp [rowAt, hc, hn, sameLayout, Nat.mod_one]

theorem Good.frozen (g : Good P base w0 β E w) {k : Nat} {l : Loc} (hk : β k = some l) {c : List Value} {t : TypeId} {fx : Bool} (he : E.get k = .cells c t true fx) (o n : Nat) :
    Good P base w0 β (E.set k (.cells c t false fx)) (w.freeze ⟨l.blk, o, none⟩ n) := by
  have hrep := g.rep _ _ hk
  rw [he] at hrep
  obtain ⟨h1, h2, c', t', fr, hb, h3, h4, h5⟩ := hrep
  obtain ⟨hbase, hfr, htt, hoff⟩ := h5.1 rfl
  have hlt := g.lt _ _ hk
  by_cases hn : n = 0
  · have : w.freeze ⟨l.blk, o, none⟩ n = w := by simp [World.freeze, hn]
    rw [this]
    refine g.change hk (by rw [he]; simp) hbase rfl (fun i hi => rfl) (by simp) ?_
    exact ⟨h1, h2, c', t', fr, hb, h3, h4, ⟨fun e => (by cases e), h5.2⟩⟩
  · refine g.change hk (by rw [he]; simp) hbase (by simp [World.freeze, hn]) ?_ (by simp) ?_ (by simp [World.freeze, hn]) (by simp [World.freeze, hn]) (by simp [World.freeze, hn])
    · intro i hi
      simp [World.freeze, hn, Array.getElem?_modify, Ne.symm hi]
    · have hex : ∃ fr2, (w.freeze ⟨l.blk, o, none⟩ n).heap[l.blk]? = some (.cells c' t' fr2) := by
        refine ⟨if fr.1 == fr.2 then (o, o + n) else (min fr.1 o, max fr.2 (o + n)), ?_⟩
        simp only [World.freeze, hn, if_false, Array.getElem?_modify, if_true, hb, Option.map_some]
      obtain ⟨fr2, hfr2⟩ := hex
      exact ⟨h1, h2, c', t', fr2, hfr2, h3, h4, ⟨fun e => (by cases e), h5.2⟩⟩

/-- unsafe.String behind its first question. -/
def stringK : { K : TypeId → TypeId → TypeId → Option Addr → Value → Int → Sem Value // ∀ pt it ty p v, Builtin.unsafeString_ #[pt, it] ty #[.pointer p, v] = (asInt v >>= K pt it ty p v) } := ⟨_, fun _ _ _ _ _ => rfl⟩
theorem uString_ok (g : Good P base w0 β E w) {pt it ty : TypeId} {x x' y y' : Value} (hx : VR β x x') (hy : VR β y y') {v : Value} (h : uString P E [pt, it] [x, y] = some (v, E1)) :
    VR β v v ∧ ∃ w1, Good P base w0 β E1 w1 ∧ (Builtin.unsafeString_ #[pt, it] ty #[x', y']).run P w = .ok v w1 := by
  unfold uString at h
  split at h
  case h_2 => cases h
  rename_i pt0 it0 a n e1 e2
  simp only [List.cons.injEq, and_true] at e1 e2
  obtain ⟨rfl, rfl⟩ := e1
  obtain ⟨rfl, rfl⟩ := e2
  have := hy.intInv
  subst this
  obtain ⟨a', rfl, ha⟩ := hx.ptrInv
  split at h
  · rename_i hn
    cases h
    subst hn
    exact ⟨.scalar rfl, w, g, Lib.run_unsafeString_none w _ _ _ _⟩
  rename_i hn0
  split at h
  case h_2 => cases h
  rename_i e hp
  split at h
  case h_2 => cases h
  rename_i c t fx he
  split at h
  case h_2 => cases h
  rename_i cs hcs
  split at h
  case h_2 => cases h
  rename_i l hl
  split at h
  case isFalse => cases h
  rename_i hcond
  obtain ⟨hpos, h63, rfl, hc1, hs1⟩ := hcond
  cases h
  obtain ⟨lo, c', t', fr, hlo, hs, rfl, hb, q1, q2, q3, q4⟩ := live_cells g ha he
  obtain ⟨hbase, _, rfl, _⟩ := q4 rfl
  obtain ⟨cs', hr, hlen, hrun, hcell⟩ := g.loads (P := P) ha hcs
  have e1 := bytesE_ok hl
  rw [e1] at hr hlen
  have e2 := bytesR hr
  subst e2
  have hll : l.length = n.toNat := by simpa using hlen
  have hnn : n = (l.length : Int) := by omega
  subst hnn
  have hl0 : l.length ≠ 0 := by omega
  have hin : a.off + l.length ≤ c.length := by
    rw [cellsAt_def, he] at hcs
    simp only at hcs
    split at hcs
    · rename_i hh; simpa using hh
    · cases hcs
  have hshape : w.shape? lo.blk = some (t', c'.size) := by simp [World.shape?, hb]
  have hlies : liesAt P P.depth t' (c'.size / P.cellsOf t') (lo.off + a.off) t' l.length = true := liesAt_row hc1 _ _ _ (by rw [hc1, Nat.div_one]; omega)
  have hlb := Lib.run_loadBytes (P := P) w l ⟨lo.blk, lo.off + a.off, none⟩ .empty (fun j x hx => hcell j _ (by simp [hx]))
  refine ⟨.scalar rfl, w.freeze ⟨lo.blk, lo.off + a.off, none⟩ l.length, g.frozen hlo he _ _, ?_⟩
  have hmax : IntKind.i64.max = 9223372036854775807 := rfl
  have hneg : ¬ (l.length : Int) < 0 := by omega
  have h63' : ¬ (9223372036854775807 : Int) < (l.length : Int) := by omega
  rw [stringK.2]
  simp [stringK, asInt, asIntOf, hmax, h63', hneg, hl0, variablesAt, hshape, elemOf, run_underlying hp, hlies, hlb]


theorem digits_int : ∀ (n t : Nat) (acc : Array Value), (∀ u ∈ acc.toList, ∃ k n, u = .int k n) → ∀ u ∈ (Extern.BytealgMakeNoZero.digits n t acc).toList, ∃ k n, u = .int k n
  | 0, _, acc, h => h
  | n + 1, t, acc, h => by
    rw [Extern.BytealgMakeNoZero.digits]
    refine digits_int n _ _ fun u hu => ?_
    rw [Array.toList_push] at hu
    rcases List.mem_append.1 hu with e | e
    · exact h u e
    · rw [List.mem_singleton.1 e]; exact ⟨_, _, rfl⟩
/-- The entry behind its first question. -/
def noZeroK : { K : Array TypeId → TypeId → Int → TypeDesc → Sem Value // ∀ ps t n, Extern.BytealgMakeNoZero.makeNoZero ps #[t] #[.int .i64 n] = (underlying t >>= K ps t n) } := ⟨_, fun _ _ _ => rfl⟩
theorem run_noZero (w : World) (ps : Array TypeId) (t e : TypeId) (ht : P.underlying t = some (.slice e)) (n : Nat) (hn : n ≤ 281474976710656) :
    ∃ cs : Array Value, (Extern.BytealgMakeNoZero.makeNoZero ps #[t] #[.int .i64 n]).run P w = .ok (.slice (some ⟨w.heap.size, 0, none⟩) n cs.size) (w.drew.drew.alloc (.cells cs e)) ∧ n ≤ cs.size ∧ ∀ u ∈ cs.toList, ∃ k n, u = .int k n := by
  refine ⟨Extern.BytealgMakeNoZero.digits (grownCap w n 0 e) ((Question.extern "internal/bytealg.MakeNoZero.bytes" 0).cut (w.tape (w.drawn + 1) (.extern "internal/bytealg.MakeNoZero.bytes" 0))) #[], ?_, ?_, ?_⟩
  · have h1 : ¬ (n : Int) < 0 := by omega
    have h2 : ¬ (281474976710656 : Int) < (n : Int) := by omega
    rw [noZeroK.2]
    simp [noZeroK, run_underlying ht, h1, h2, Question.forced, newRow, Lib.size_digits, grownCap]
  · rw [Lib.size_digits]
    simpa using grownCap_ge w n 0 e
  · exact digits_int _ _ _ (by simp)

theorem uExtern_ok (g : Good P base w0 β E w) {f : FuncId} {args args' : List Value} (ha : VRs β args args') {v : Value} (h : uExtern P E f args = some (v, E1)) :
    ∃ β1 v' w1, Ext β β1 ∧ VR β1 v v' ∧ Good P base w0 β1 E1 w1 ∧ (callFunc f args'.toArray).run P w = .ok (.value v') w1 := by
  unfold uExtern at h
  split at h
  case h_2 => cases h
  rename_i fn hfn
  split at h
  · cases h
  rename_i hb
  have hb : fn.body.isSome = false := by simpa using hb
  split at h
  · cases h
  rename_i ho
  have ho : fn.origin = "" := by simpa using ho
  split at h
  · rename_i hname
    split at h
    case h_2 => cases h
    rename_i x
    cases h
    cases ha with
    | cons hx t =>
      cases t
      rename_i x'
      refine ⟨β, x', w, Ext.refl β, hx, g, ?_⟩
      refine run_callExtern hfn hb (by rw [hname]; rfl) (findNext_none hname ho rfl) (e := Extern.AbiNoEscape.same) ?_ rfl
      unfold Extern.find
      rw [hname]
      rfl
  · split at h
    case isFalse => cases h
    rename_i hname
    split at h
    case h_2 => cases h
    rename_i n
    split at h
    case h_2 => cases h
    rename_i t hty
    split at h
    case h_2 => cases h
    rename_i e ht
    split at h
    case isFalse => cases h
    rename_i hcond
    obtain ⟨h0, h48, hs1⟩ := hcond
    cases h
    cases ha with
    | cons hx t2 =>
      cases t2
      have := hx.intInv
      subst this
      have hres : fn.resultTypes = #[t] := by apply Array.ext'; simpa using hty
      obtain ⟨m, rfl⟩ : ∃ m : Nat, n = (m : Int) := ⟨n.toNat, by omega⟩
      obtain ⟨cs, hrun, hle, hkind⟩ := run_noZero (P := P) w fn.params t e ht m (by omega)
      have hsplit : cs = (cs.toList.take m ++ cs.toList.drop m).toArray := by simp
      have hvr : VRs β (List.replicate m (.chan (some 0))) (cs.toList.take m) := by
        refine VRs.of_get (by simp [hle]) fun i a b hab hb2 => ?_
        have : a = .chan (some 0) := by
          rw [List.getElem?_replicate] at hab
          split at hab <;> cases hab; rfl
        subst this
        obtain ⟨k, q, rfl⟩ := hkind b (List.mem_of_mem_take (List.mem_of_getElem? hb2))
        exact .unk
      have gd : Good P base w0 β E w.drew.drew := g.sameHeap rfl
      have g1 := gd.newS hvr e (cs.size - m) (cs.toList.drop m) (by simp [hs1])
      rw [← hsplit] at g1
      have hl : (List.replicate m (Value.chan (some 0))).length = m := List.length_replicate
      refine ⟨_, _, _, Ext.put g.fresh _, VR.slice (a' := ⟨w.heap.size, 0, none⟩) (AR.new (⟨w.drew.drew.heap.size, 0, (List.replicate m (Value.chan (some 0))).length, szOf P e, cs.size - m⟩ : Loc) E.n β rfl) (.inr ⟨_, Map.put_same _ _ _, ?_, rfl⟩), g1, ?_⟩
      · show 0 + (m : Int).toNat * szOf P e = _
        rw [hs1, hl]; simp
      · refine run_callExtern hfn hb (by rw [hname]; rfl) (findNext_none hname ho rfl) (e := Extern.BytealgMakeNoZero.makeNoZero fn.params fn.resultTypes) ?_ ?_
        · unfold Extern.find
          rw [hname]
          rfl
        · rw [hres]
          rw [show (#[Value.int .i64 (m : Int)] : Array Value) = [Value.int .i64 (m : Int)].toArray from rfl] at hrun
          rw [hrun]
          have : (m : Int).toNat + (cs.size - m) = cs.size := by omega
          simp only [Int.toNat_natCast] at this ⊢
          rw [this]
          rfl


theorem opU_ok (g : Good P base w0 β E w) {ng : Nat} (hg : Glob ng β) {ts : Slots} {tmps : Array Value} (ht : VRs β ts.toL tmps.toList) {o : Oper} {v : Value} (h : opU P ng ts o E = some (v, E1)) :
    OK P base w0 β E1 v (execOp (evA tmps) o) w := by
  obtain ⟨dst, op, type, pos, after, guard⟩ := o
  unfold opU at h
  simp only at h
  split at h
  case isFalse => cases h
  rename_i hok
  have hx : ∀ x ∈ op.operands, okX ng x = true := fun x hm => okL_all hok x (by simpa using hm)
  have ev : ∀ x, x ∈ op.operands → VR β (evT ts x) (evA tmps x) := fun x hm => ev_ok ht hg (hx x hm)
  cases op with
  | makeMap t r =>
    simp only at h
    cases r with
    | some r => simp [uMakeMap] at h
    | none =>
      obtain ⟨β1, v', w1, hxx, hv, g1, hrun⟩ := uMakeMap_ok (t := t) g h
      exact OK.of rfl hxx hv g1 hrun
  | insert t m k x =>
    simp only at h
    obtain ⟨rfl, w1, g1, hrun⟩ := uUpdate_ok g (ev m (by simp [Op.operands])) (ev k (by simp [Op.operands])) (ev x (by simp [Op.operands])) h
    exact ⟨β, undef, w1, Ext.refl β, undefR β, g1, .inr ⟨by simp [execOp, hrun], rfl⟩⟩
  | mapUpdate t m k x =>
    simp only at h
    obtain ⟨rfl, w1, g1, hrun⟩ := uUpdate_ok g (ev m (by simp [Op.operands])) (ev k (by simp [Op.operands])) (ev x (by simp [Op.operands])) h
    exact ⟨β, undef, w1, Ext.refl β, undefR β, g1, .inr ⟨by simp [execOp, hrun], rfl⟩⟩
  | lookup t x i ok =>
    simp only at h
    split at h
    · rename_i r hr
      cases h
      obtain ⟨rfl, hl⟩ := uLookup_ok g (ev x (by simp [Op.operands])) (ev i (by simp [Op.operands])) hr
      exact OK.same rfl g hl
    · obtain ⟨rfl, hl⟩ := uLookupX_ok g (ev x (by simp [Op.operands])) (ev i (by simp [Op.operands])) h
      exact OK.same rfl g hl
  | mapEntry t m k =>
    simp only at h
    obtain ⟨v', w1, hv, g1, hrun⟩ := uEntry_ok g (ev m (by simp [Op.operands])) (ev k (by simp [Op.operands])) h
    exact OK.of rfl (Ext.refl β) hv g1 hrun
  | entryStore t m s x =>
    simp only at h
    obtain ⟨rfl, w1, g1, hrun⟩ := uEntryStore_ok (t := t) g (ev m (by simp [Op.operands])) (ev s (by simp [Op.operands])) (ev x (by simp [Op.operands])) h
    exact ⟨β, undef, w1, Ext.refl β, undefR β, g1, .inr ⟨by simp [execOp, hrun], rfl⟩⟩
  | makeSlice t l c =>
    simp only at h
    obtain ⟨β1, v', w1, hxx, hv, g1, hrun⟩ := uMakeSlice_ok g (ev l (by simp [Op.operands])) (ev c (by simp [Op.operands])) h
    exact OK.of rfl hxx hv g1 hrun
  | convert src dst x =>
    simp only at h
    have e := ev x (by simp [Op.operands])
    obtain ⟨rfl, rfl, hrun⟩ := uConv_ok g e h
    exact OK.same rfl g ⟨_, e, hrun⟩
  | index t x i =>
    simp only at h
    obtain ⟨rfl, hl⟩ := uIndex_ok (P := P) (w := w) (ev x (by simp [Op.operands])) (ev i (by simp [Op.operands])) h
    exact OK.same rfl g hl
  | binOp op t x y yt =>
    simp only at h
    obtain ⟨rfl, hv, hgd, hrun⟩ := uPtrEq_ok g (ev x (by simp [Op.operands])) (ev y (by simp [Op.operands])) h
    exact OK.same rfl g ⟨_, hv, by simp [hgd, hrun]⟩
  | call c =>
    obtain ⟨callee, args, tys⟩ := c
    have hm : ∀ l : List Operand, args.toList = l → VRs β (l.map (evT ts)) (l.map (evA tmps)) := fun l hl => mapR hg ht fun x hm => hx x (by
      have : x ∈ args := by
        have : x ∈ args.toList := by rw [hl]; exact hm
        simpa using this
      cases callee <;> simp [Op.operands, Call.operands, this])
    cases callee with
    | invoke r m => simp at h
    | value f =>
      cases f with
      | func q =>
        simp only at h
        obtain ⟨β1, v', w1, hxx, hv, g1, hrun⟩ := uExtern_ok g (hm _ rfl) h
        refine ⟨β1, v', w1, hxx, hv, g1, .inl ?_⟩
        have ha : (args.toList.map (evA tmps)).toArray = args.map (evA tmps) := by apply Array.ext'; simp
        rw [ha] at hrun
        simp [execOp, resolve, Deferred.ofValue, invoke, evA, hrun]
      | _ => simp at h
    | builtin b =>
      have key : ∀ (ty : TypeId) (s : Sem Value) (v' : Value) (w1 : World), s.run P w = .ok v' w1 → (do pure (.value (← s)) : Sem Next).run P w = .ok (.value v') w1 := fun ty s v' w1 hs => by simp [hs]
      cases b <;> try (simp at h; done)
      case copy =>
        simp only at h
        obtain ⟨l⟩ := args
        obtain ⟨tl⟩ := tys
        match l, tl, h with
        | [x, y], [t, u], h =>
          simp only [List.map_cons, List.map_nil] at h
          obtain ⟨hv, w1, g1, hrun⟩ := uCopy_ok (ty := type) g (ev x (by simp [Op.operands, Call.operands])) (ev y (by simp [Op.operands, Call.operands])) h
          exact ⟨β, v, w1, Ext.refl β, hv, g1, .inl (by simp [execOp, resolve, invoke, builtin, hrun])⟩
        | [], _, h => simp [uCopy] at h
        | [_], _, h => simp [uCopy] at h
        | _ :: _ :: _ :: _, _, h => simp [uCopy] at h
        | [_, _], [], h => simp [uCopy] at h
        | [_, _], [_], h => simp [uCopy] at h
        | [_, _], _ :: _ :: _ :: _, h => simp [uCopy] at h
      case append =>
        simp only at h
        obtain ⟨l⟩ := args
        obtain ⟨tl⟩ := tys
        match l, tl, h with
        | [x, y], [t, u], h =>
          simp only [List.map_cons, List.map_nil] at h
          obtain ⟨β1, v', w1, hxx, hv, g1, hrun⟩ := uAppendZ_ok (ty := type) g (ev x (by simp [Op.operands, Call.operands])) (ev y (by simp [Op.operands, Call.operands])) h
          exact ⟨β1, v', w1, hxx, hv, g1, .inl (by simp [execOp, resolve, invoke, builtin, hrun])⟩
        | [], _, h => simp [uAppendZ] at h
        | [_], _, h => simp [uAppendZ] at h
        | _ :: _ :: _ :: _, _, h => simp [uAppendZ] at h
        | [_, _], [], h => simp [uAppendZ] at h
        | [_, _], [_], h => simp [uAppendZ] at h
        | [_, _], _ :: _ :: _ :: _, h => simp [uAppendZ] at h
      case cap =>
        simp only at h
        obtain ⟨l⟩ := args
        obtain ⟨tl⟩ := tys
        match l, tl, h with
        | [x], [t], h =>
          simp only [List.map_cons, List.map_nil] at h
          obtain ⟨rfl, hv, hrun⟩ := uCap_ok (ty := type) g (ev x (by simp [Op.operands, Call.operands])) h
          exact ⟨β, v, w, Ext.refl β, hv, g, .inl (by simp [execOp, resolve, invoke, builtin, hrun])⟩
        | [], _, h => simp [uCap] at h
        | _ :: _ :: _, _, h => simp [uCap] at h
        | [_], [], h => simp [uCap] at h
        | [_], _ :: _ :: _, h => simp [uCap] at h
      case unsafeSliceData =>
        simp only at h
        obtain ⟨l⟩ := args
        match l, h with
        | [x], h =>
          simp only [List.map_cons, List.map_nil] at h
          obtain ⟨rfl, v', hv, hrun⟩ := uSliceData_ok (P := P) (w := w) (ts := tys) (ty := type) (ev x (by simp [Op.operands, Call.operands])) h
          exact ⟨β, v', w, Ext.refl β, hv, g, .inl (by simp [execOp, resolve, invoke, builtin, hrun])⟩
        | [], h => simp [uSliceData] at h
        | _ :: _ :: _, h => simp [uSliceData] at h
      case unsafeString =>
        simp only at h
        obtain ⟨l⟩ := args
        obtain ⟨tl⟩ := tys
        match l, tl, h with
        | [x, y], [t, u], h =>
          simp only [List.map_cons, List.map_nil] at h
          obtain ⟨hv, w1, g1, hrun⟩ := uString_ok (ty := type) g (ev x (by simp [Op.operands, Call.operands])) (ev y (by simp [Op.operands, Call.operands])) h
          exact ⟨β, v, w1, Ext.refl β, hv, g1, .inl (by simp [execOp, resolve, invoke, builtin, hrun])⟩
        | [], _, h => simp [uString] at h
        | [_], _, h => simp [uString] at h
        | _ :: _ :: _ :: _, _, h => simp [uString] at h
        | [_, _], [], h => simp [uString] at h
        | [_, _], [_], h => simp [uString] at h
        | [_, _], _ :: _ :: _ :: _, h => simp [uString] at h
  | _ => simp at h

theorem opE_ok (g : Good P base w0 β E w) {ng : Nat} (hg : Glob ng β) {ts : Slots} {tmps : Array Value} (ht : VRs β ts.toL tmps.toList) {o : Oper} {v : Value} (h : opE P ng ts o E = some (v, E1)) :
    OK P base w0 β E1 v (execOp (evA tmps) o) w := by
  unfold opE at h
  split at h
  · rename_i r hr
    cases h
    exact opA_ok g hg ht hr
  · exact opU_ok g hg ht h


theorem uBytes_ok (g : Good P base w0 β E w) {src dst : TypeId} {x x' : Value} (hx : VR β x x') {v : Value} (h : uBytes P E src dst x = some (v, E1)) :
    ∃ β1 v' w1, Ext β β1 ∧ VR β1 v v' ∧ Good P base w0 β1 E1 w1 ∧ (convert src dst x').run P w = .ok v' w1 := by
  unfold uBytes at h
  split at h
  case h_2 => cases h
  rename_i s
  have := hx.stringInv
  subst this
  split at h
  case h_2 => cases h
  rename_i e hs hd
  split at h
  case h_2 => cases h
  rename_i he
  split at h
  case isFalse => cases h
  rename_i hsz
  cases h
  have hge := grownCap_ge w s.size 0 e
  let bs : List Value := s.data.toList.map fun b => .int .u8 b.toNat
  let row : Array Value := bytesRow s (grownCap w s.size 0 e)
  have hrow : row.toList = bs ++ List.replicate (grownCap w s.size 0 e - s.size) (.int .u8 0) := by simp [row, bs, bytesRow]
  have hbs : bs.length = s.size := by simp [bs]
  have hrs : row.size = grownCap w s.size 0 e := by
    have := congrArg List.length hrow
    simp only [Array.length_toList, List.length_append, List.length_replicate, hbs] at this
    omega
  let w1 : World := w.drew.alloc (.cells row e (row.size, row.size + 1))
  have hx1 := Ext.put g.fresh (⟨w.heap.size, 0, bs.length, szOf P e, grownCap w s.size 0 e - s.size⟩ : Loc)
  have hw1 : w1.heap = w.heap.push (.cells row e (row.size, row.size + 1)) := rfl
  have g1 : Good P base w0 (β.put E.n ⟨w.heap.size, 0, bs.length, szOf P e, grownCap w s.size 0 e - s.size⟩) (E.push (.cells bs e false false)) w1 := by
    refine g.put (by rw [hw1]; simp) ?_ ?_ g.ge (by rw [hw1]; simp) ?_
    · intro i hi hlt
      rw [hw1]
      simp [Array.getElem?_push_lt, hlt]
    · intro i li ei _
      have := g.lt _ _ ei
      show li.blk ≠ w.heap.size
      omega
    · refine ⟨rfl, rfl, row, e, _, by rw [hw1]; simp; rfl, ?_, ?_, ⟨fun h => (by cases h), fun h => by cases h⟩⟩
      · show 0 + bs.length + (grownCap w s.size 0 e - s.size) * szOf P e ≤ row.size
        rw [hsz, hrs, hbs]; omega
      · intro i u hu
        have hlt := (List.getElem?_eq_some_iff.1 hu).1
        refine ⟨u, ?_, ?_⟩
        · show row[0 + i]? = some u
          rw [Nat.zero_add, ← Array.getElem?_toList, hrow, List.getElem?_append_left hlt, hu]
        · have : isScalar u = true := by
            have hm := List.mem_of_getElem? hu
            simp only [bs, List.mem_map] at hm
            obtain ⟨b, _, rfl⟩ := hm
            rfl
          exact .scalar this
  refine ⟨_, .slice (some ⟨w.heap.size, 0, none⟩) s.size (grownCap w s.size 0 e), w1, hx1, VR.slice (AR.new (⟨w.heap.size, 0, bs.length, szOf P e, grownCap w s.size 0 e - s.size⟩ : Loc) E.n β rfl) (.inr ⟨_, Map.put_same _ _ _, ?_, ?_⟩), g1, ?_⟩
  · show 0 + s.size * szOf P e = bs.length
    rw [hsz, hbs]; omega
  · show grownCap w s.size 0 e = s.size + (grownCap w s.size 0 e - s.size)
    omega
  · exact run_bytes_of_string w src dst e s hs hd he

end
end
end Go.Eng
