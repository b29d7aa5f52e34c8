/-
  A CLOSED RUN, HELD AGAINST THE MODEL (5): addresses, parts, slices, iterators, conversions.
-/
import Derived.Test.YtnkpjkomokkhcaaGreatDoorEngD
namespace Go.Eng
noncomputable section
set_option linter.unusedVariables false
set_option linter.unusedSimpArgs false

section
variable {P : Program} {base : Nat} {w0 : World} {β : Map} {E : EM} {w : World}

/-! ### Parts of values -/

def extractE (x : Value) (i : Nat) : Option Value :=
  match x with
  | .tuple vs => vs.toList[i]?
  | _ => none
theorem VR.tupleInv {vs : Array Value} {v' : Value} (h : VR β (.tuple vs) v') : ∃ vs' : Array Value, v' = .tuple vs' ∧ VRs β vs.toList vs'.toList := by
  cases h with
  | scalar h => simp [isScalar] at h
  | tuple h => exact ⟨_, rfl, h⟩
theorem VR.aggInv {vs : Array Value} {v' : Value} (h : VR β (.agg vs) v') : ∃ vs' : Array Value, v' = .agg vs' ∧ VRs β vs.toList vs'.toList := by
  cases h with
  | scalar h => simp [isScalar] at h
  | agg h => exact ⟨_, rfl, h⟩
theorem VR.ptrInv {a : Addr} {v' : Value} (h : VR β (.pointer (some a)) v') : ∃ a', v' = .pointer (some a') ∧ AR β a a' := by
  cases h with
  | scalar h => simp [isScalar] at h
  | ptr h => exact ⟨_, rfl, h⟩
theorem VR.sliceInv {a : Addr} {len cap : Nat} {v' : Value} (h : VR β (.slice (some a) len cap) v') (hs : a.spot = none) : ∃ a' cap', v' = .slice (some a') len cap' ∧ AR β a a' ∧ CapR β a cap cap' := by
  cases h with
  | scalar h => simp [isScalar] at h
  | slice h c => exact ⟨_, _, rfl, h, c⟩
  | empty => cases hs
theorem VR.sliceAny {a : Addr} {len cap : Nat} {v' : Value} (h : VR β (.slice (some a) len cap) v') : ∃ a' cap', v' = .slice (some a') len cap' := by
  cases h with
  | scalar h => simp [isScalar] at h
  | slice h c => exact ⟨_, _, rfl⟩
  | empty => exact ⟨_, _, rfl⟩
theorem VR.ifaceInv {t : TypeId} {u v' : Value} (h : VR β (.iface t u) v') : ∃ u', v' = .iface t u' ∧ VR β u u' := by
  cases h with
  | scalar h => simp [isScalar] at h
  | iface h => exact ⟨_, rfl, h⟩
theorem VR.funcInv {f : Fn} {a c : Array Value} {v' : Value} (h : VR β (.func f a c) v') : ∃ f' a' c', v' = .func f' a' c' ∧ FnR β f f' ∧ VRs β a.toList a'.toList ∧ VRs β c.toList c'.toList := by
  cases h with
  | scalar h => simp [isScalar] at h
  | func h1 h2 h3 => exact ⟨_, _, _, rfl, h1, h2, h3⟩
theorem VR.boolInv {b : Bool} {v' : Value} (h : VR β (.bool b) v') : v' = .bool b := h.scalarEq rfl
theorem VR.intInv {k : IntKind} {n : Int} {v' : Value} (h : VR β (.int k n) v') : v' = .int k n := h.scalarEq rfl
theorem VR.stringInv {s : ByteArray} {v' : Value} (h : VR β (.string s) v') : v' = .string s := h.scalarEq rfl

theorem extract_ok {x x' : Value} (h : VR β x x') {i : Nat} {v : Value} (he : extractE x i = some v) : ∃ v', VR β v v' ∧ (Instr.extract x' i).run P w = .ok v' w := by
  unfold extractE at he
  split at he
  · obtain ⟨vs', rfl, hv⟩ := h.tupleInv
    obtain ⟨v', h1, h2⟩ := hv.get he
    refine ⟨v', h2, ?_⟩
    have : vs'[i]? = some v' := by simpa using h1
    simp [Instr.extract, this]
  · cases he

def partE (P : Program) (t : TypeId) (cs : Array Value) (off : Nat) : Option Value :=
  match aggT P t, P.info? t with
  | some true, some i => some (.agg (cs.extract off (off + i.size)))
  | some false, _ => cs.toList[off]?
  | _, _ => none
theorem part_ok {t : TypeId} {cs cs' : Array Value} (h : VRs β cs.toList cs'.toList) {off : Nat} {v : Value} (he : partE P t cs off = some v) : ∃ v', VR β v v' ∧ (part t cs' off).run P w = .ok v' w := by
  unfold partE at he
  split at he
  · rename_i i h1 h2
    cases he
    refine ⟨.agg (cs'.extract off (off + i.size)), .agg ?_, ?_⟩
    · simp only [Array.toList_extract, List.extract_eq_take_drop]
      exact (h.drop _).take _
    · simp [part, run_isAgg h1, run_sizeOf h2]
  · rename_i h1
    obtain ⟨v', h2, h3⟩ := h.get he
    refine ⟨v', h3, ?_⟩
    have : cs'[off]? = some v' := by simpa using h2
    simp [part, run_isAgg h1, this]
  · cases he

def fieldE (P : Program) (t : TypeId) (x : Value) (f : Nat) : Option Value :=
  match P.underlying t, x with
  | some (.struct fields), .agg cs => match fields[f]? with
    | some fd => partE P fd.type cs fd.offset
    | none => none
  | _, _ => none
theorem field_ok {t : TypeId} {x x' : Value} (h : VR β x x') {f : Nat} {v : Value} (he : fieldE P t x f = some v) : ∃ v', VR β v v' ∧ (Instr.field t x' f).run P w = .ok v' w := by
  unfold fieldE at he
  split at he
  · rename_i fields cs hu
    obtain ⟨cs', rfl, hv⟩ := h.aggInv
    split at he
    · rename_i fd hf
      obtain ⟨v', h1, h2⟩ := part_ok (w := w) hv he
      refine ⟨v', h1, ?_⟩
      simp [Instr.field, run_underlying hu, hf, asAgg, h2]
    · cases he
  · cases he

/-! ### Addresses -/

def fieldAddrE (P : Program) (s : TypeId) (x : Value) (f : Nat) : Option Value :=
  match P.underlying s, x with
  | some (.struct fields), .pointer (some a) => match fields[f]? with
    | some fd => match P.info? fd.type with
      | some i => if i.size = 0 then none else some (.pointer (some (a.add fd.offset)))
      | none => none
    | none => none
  | _, _ => none
theorem fieldAddr_ok {s : TypeId} {x x' : Value} (h : VR β x x') {f : Nat} {v : Value} (he : fieldAddrE P s x f = some v) : ∃ v', VR β v v' ∧ (Instr.fieldAt s x' f).run P w = .ok v' w := by
  unfold fieldAddrE at he
  split at he
  · rename_i fields a hu
    obtain ⟨a', rfl, ha⟩ := h.ptrInv
    split at he
    · rename_i fd hf
      split at he
      · rename_i i hi
        split at he
        · cases he
        · rename_i h0
          cases he
          refine ⟨.pointer (some (a'.add fd.offset)), .ptr (ha.add _), ?_⟩
          simp [Instr.fieldAt, run_underlying hu, hf, Instr.sureAddr, fieldPlace, run_sizeOf hi, h0]
      · cases he
    · cases he
  · cases he

def indexAddrE (P : Program) (t : TypeId) (x ix : Value) : Option Value :=
  match ix, P.underlying t, x with
  | .int _ i, some (.array len elem), .pointer (some a) => match P.info? elem with
    | some e => if 0 ≤ i ∧ i < (len : Int) then some (.pointer (some (a.add (i.toNat * e.size)))) else none
    | none => none
  | .int _ i, some (.slice elem), .slice (some a) len _ => match P.info? elem with
    | some e => if a.spot = none ∧ 0 ≤ i ∧ i < (len : Int) then some (.pointer (some (a.add (i.toNat * e.size)))) else none
    | none => none
  | _, _, _ => none
theorem indexAddr_ok {t : TypeId} {x x' ix ix' : Value} (h : VR β x x') (h2 : VR β ix ix') {v : Value} (he : indexAddrE P t x ix = some v) : ∃ v', VR β v v' ∧ (Instr.indexAt t x' ix').run P w = .ok v' w := by
  unfold indexAddrE at he
  split at he
  · rename_i k i len elem a hu
    rw [h2.intInv]
    obtain ⟨a', rfl, ha⟩ := h.ptrInv
    split at he
    · rename_i e hi
      split at he
      · rename_i hb
        cases he
        refine ⟨.pointer (some (a'.add (i.toNat * e.size))), .ptr (ha.add _), ?_⟩
        simp [Instr.indexAt, asIntOf, run_underlying hu, Instr.sureAddr, hb, run_sizeOf hi]
      · cases he
    · cases he
  · rename_i k i elem a len cap hu
    rw [h2.intInv]
    split at he
    · rename_i e hi
      split at he
      · rename_i hb0
        obtain ⟨hsp, hb⟩ := hb0
        obtain ⟨a', cap', rfl, ha, hc⟩ := h.sliceInv hsp
        cases he
        refine ⟨.pointer (some (a'.add (i.toNat * e.size))), .ptr (ha.add _), ?_⟩
        simp [Instr.indexAt, asIntOf, run_underlying hu, hb, run_sizeOf hi]
      · cases he
    · cases he
  · cases he

def hiE (hi : Option Value) (len cap : Nat) : Option Nat :=
  match hi with | some (.int _ i) => if 0 ≤ i ∧ i ≤ (cap : Int) then some i.toNat else none | none => some len | _ => none
def loE (lo : Option Value) (h : Nat) : Option Nat :=
  match lo with | some (.int _ i) => if 0 ≤ i ∧ i ≤ (h : Int) then some i.toNat else none | none => some 0 | _ => none
/-- A slice of a slice, without a third bound. -/
def sliceE (P : Program) (E : EM) (t : TypeId) (x : Value) (lo hi : Option Value) : Option Value :=
  match P.underlying t, x with
  | some (.slice elem), .slice (some a) len cap =>
    match hiE hi len cap with
    | none => none
    | some h =>
      match loE lo h with
      | none => none
      | some l =>
        match P.info? elem, E.get a.block with
        | some e, .cells _ t2 _ fx =>
          if a.spot = none then
            if e.size = szOf P t2 ∧ l ≤ cap ∧ (l = 0 ∨ l < cap ∨ fx = true) then some (.slice (some (if cap = l then a else a.add (l * e.size))) (h - l) (cap - l))
            else if h = l then some (.slice (some ⟨a.block, a.off, some 0⟩) 0 0) else none
          else none
        | _, _ => none
  | some (.array n elem), .pointer (some a) => match lo, hi, P.info? elem with
    | none, none, some _ => some (.slice (some a) n n)
    | _, _, _ => none
  | _, _ => none

theorem Addr.add_ite (a : Addr) (l m s : Nat) (h : l = 0 ∨ l < m) : (if m = l then a else a.add (l * s)) = a.add (l * s) := by
  split
  · rename_i e
    rcases h with h | h
    · subst h; simp [Addr.add]
    · omega
  · rfl

inductive OptR (β : Map) : Option Value → Option Value → Prop
  | none : OptR β none none
  | some {v v' : Value} (h : VR β v v') : OptR β (some v) (some v')

theorem bounds_ok {lo lo' hi hi' : Option Value} (hlo : OptR β lo lo') (hhi : OptR β hi hi') {len cap cap' hh ll : Nat} (hc : cap ≤ cap') (h1 : hiE hi len cap = some hh) (h2 : loE lo hh = some ll) :
    (Instr.sliceBounds true len cap' lo' hi' none).run P w = .ok (ll, hh, cap') w := by
  have e1 : ∀ u, hi = some u → ∃ k i, u = .int k i ∧ hi' = some (.int k i) ∧ (0 ≤ i ∧ i ≤ (cap : Int)) ∧ hh = i.toNat := by
    intro u hu
    subst hu
    cases hhi with
    | some hv =>
      cases u with
      | int k i =>
        simp only [hiE] at h1
        split at h1
        · rename_i hb; cases h1; exact ⟨k, i, rfl, by rw [hv.intInv], hb, rfl⟩
        · cases h1
      | _ => simp [hiE] at h1
  have e2 : ∀ u, lo = some u → ∃ k i, u = .int k i ∧ lo' = some (.int k i) ∧ (0 ≤ i ∧ i ≤ (hh : Int)) ∧ ll = i.toNat := by
    intro u hu
    subst hu
    cases hlo with
    | some hv =>
      cases u with
      | int k i =>
        simp only [loE] at h2
        split at h2
        · rename_i hb; cases h2; exact ⟨k, i, rfl, by rw [hv.intInv], hb, rfl⟩
        · cases h2
      | _ => simp [loE] at h2
  cases hhi with
  | none =>
    simp [hiE] at h1; subst h1
    cases hlo with
    | none => simp [loE] at h2; subst h2; simp [Instr.sliceBounds]
    | some hv =>
      obtain ⟨k, i, _, hl, hb, rfl⟩ := e2 _ rfl
      cases hl
      simp [Instr.sliceBounds, Instr.sliceBound, asIntOf, hb]
  | some hv0 =>
    obtain ⟨k, i, _, hl, hb, rfl⟩ := e1 _ rfl
    cases hl
    have hb' : 0 ≤ i ∧ i ≤ (cap' : Int) := ⟨hb.1, by omega⟩
    cases hlo with
    | none => simp [loE] at h2; subst h2; simp [Instr.sliceBounds, Instr.sliceBound, asIntOf, hb']
    | some hv =>
      obtain ⟨k2, i2, _, hl2, hb2, rfl⟩ := e2 _ rfl
      cases hl2
      simp [Instr.sliceBounds, Instr.sliceBound, asIntOf, hb', hb2]
      intro hlt; exfalso; omega

theorem bounds_okF {lo lo' hi hi' : Option Value} (hlo : OptR β lo lo') (hhi : OptR β hi hi') {len cap cap' hh ll : Nat} (hc : cap ≤ cap') (h1 : hiE hi len cap = some hh) (h2 : loE lo hh = some ll) :
    (Instr.sliceBounds false len cap' lo' hi' none).run P w = .ok (ll, hh, cap') w := by
  have e1 : ∀ u, hi = some u → ∃ k i, u = .int k i ∧ hi' = some (.int k i) ∧ (0 ≤ i ∧ i ≤ (cap : Int)) ∧ hh = i.toNat := by
    intro u hu
    subst hu
    cases hhi with
    | some hv =>
      cases u with
      | int k i =>
        simp only [hiE] at h1
        split at h1
        · rename_i hb; cases h1; exact ⟨k, i, rfl, by rw [hv.intInv], hb, rfl⟩
        · cases h1
      | _ => simp [hiE] at h1
  have e2 : ∀ u, lo = some u → ∃ k i, u = .int k i ∧ lo' = some (.int k i) ∧ (0 ≤ i ∧ i ≤ (hh : Int)) ∧ ll = i.toNat := by
    intro u hu
    subst hu
    cases hlo with
    | some hv =>
      cases u with
      | int k i =>
        simp only [loE] at h2
        split at h2
        · rename_i hb; cases h2; exact ⟨k, i, rfl, by rw [hv.intInv], hb, rfl⟩
        · cases h2
      | _ => simp [loE] at h2
  cases hhi with
  | none =>
    simp [hiE] at h1; subst h1
    cases hlo with
    | none => simp [loE] at h2; subst h2; simp [Instr.sliceBounds]
    | some hv =>
      obtain ⟨k, i, _, hl, hb, rfl⟩ := e2 _ rfl
      cases hl
      simp [Instr.sliceBounds, Instr.sliceBound, asIntOf, hb]
  | some hv0 =>
    obtain ⟨k, i, _, hl, hb, rfl⟩ := e1 _ rfl
    cases hl
    have hb' : 0 ≤ i ∧ i ≤ (cap' : Int) := ⟨hb.1, by omega⟩
    cases hlo with
    | none => simp [loE] at h2; subst h2; simp [Instr.sliceBounds, Instr.sliceBound, asIntOf, hb']
    | some hv =>
      obtain ⟨k2, i2, _, hl2, hb2, rfl⟩ := e2 _ rfl
      cases hl2
      simp [Instr.sliceBounds, Instr.sliceBound, asIntOf, hb', hb2]
      intro hlt; exfalso; omega

theorem slice_ok (g : Good P base w0 β E w) {t : TypeId} {x x' : Value} (h : VR β x x') {lo lo' hi hi' : Option Value} (hlo : OptR β lo lo') (hhi : OptR β hi hi')
    {v : Value} (he : sliceE P E t x lo hi = some v) : ∃ v', VR β v v' ∧ (Instr.sliceAt t x' lo' hi' none).run P w = .ok v' w := by
  unfold sliceE at he
  split at he
  · rename_i elem a len cap hu
    split at he
    · cases he
    · rename_i hh hhe
      split at he
      · cases he
      · rename_i ll hle
        split at he
        · rename_i e c t2 own fx hi2 hget
          split at he
          case isFalse => cases he
          rename_i hspot
          obtain ⟨a', cap', rfl, ha, hc⟩ := h.sliceInv hspot
          split at he
          · rename_i hcond
            obtain ⟨hsz, hll, hl0⟩ := hcond
            cases he
            have hcap : cap ≤ cap' := by
              rcases hc with hc | ⟨l, _, _, hc⟩ <;> omega
            have hbounds := bounds_ok (P := P) (w := w) hlo hhi hcap hhe hle
            have hexact : fx = true → cap' = cap := by
              intro hfx
              rcases hc with hc | ⟨l, hl, _, hc⟩
              · exact hc
              · have hrep := g.rep _ _ hl
                rw [hget] at hrep
                obtain ⟨_, _, _, _, _, _, _, _, hz⟩ := hrep
                rw [hz.2 hfx] at hc; exact hc
            refine ⟨.slice (some (if cap' = ll then a' else a'.add (ll * e.size))) (hh - ll) (cap' - ll), .slice ?_ ?_, ?_⟩
            · by_cases e1 : cap = ll
              · rw [if_pos e1]
                by_cases e2 : cap' = ll
                · rw [if_pos e2]; exact ha
                · rw [if_neg e2]
                  have : ll = 0 := by
                    rcases hl0 with h0 | h0 | h0
                    · exact h0
                    · omega
                    · exact absurd (by rw [hexact h0]; exact e1) e2
                  rw [this, Nat.zero_mul, Addr.add_zero]; exact ha
              · rw [if_neg e1, if_neg (by omega)]; exact ha.add _
            · by_cases e1 : cap = ll
              · rw [if_pos e1]
                by_cases h0 : ll = 0
                · rw [h0, Nat.sub_zero, Nat.sub_zero]; exact hc
                · have hfx : fx = true := by
                    rcases hl0 with h1 | h1 | h1
                    · exact absurd h1 h0
                    · omega
                    · exact h1
                  exact .inl (by rw [hexact hfx])
              · rw [if_neg e1]
                rcases hc with hc | ⟨l, hl, hr, hc⟩
                · exact .inl (by rw [hc])
                · refine .inr ⟨l, by rw [Addr.add_block]; exact hl, ?_, ?_⟩
                  · have hrep := g.rep _ _ hl
                    rw [hget] at hrep
                    have hes : l.es = szOf P t2 := hrep.2.1
                    rw [Addr.add_off, hsz, ← hes, ← hr]
                    obtain ⟨d, rfl⟩ := Nat.exists_eq_add_of_le hll
                    rw [Nat.add_sub_cancel_left, Nat.add_mul]
                    omega
                  · omega
            · unfold Instr.sliceAt
              simp only [Sem.run_bind, run_underlying hu, Result.andThen_ok]
              unfold Instr.slice
              simp only [Sem.run_bind, run_underlying hu, Result.andThen_ok, hbounds, run_sizeOf hi2, Sem.run_pure]
              congr 2
              split <;> rfl
          · split at he
            · rename_i heq
              cases he
              have hcap : cap ≤ cap' := by
                rcases hc with hc | ⟨l, _, _, hc⟩ <;> omega
              have hbounds := bounds_ok (P := P) (w := w) hlo hhi hcap hhe hle
              refine ⟨_, .empty (a' := if cap' = ll then a' else a'.add (ll * e.size)) (cap' := cap' - ll), ?_⟩
              unfold Instr.sliceAt
              simp only [Sem.run_bind, run_underlying hu, Result.andThen_ok]
              unfold Instr.slice
              simp only [Sem.run_bind, run_underlying hu, Result.andThen_ok, hbounds, run_sizeOf hi2, Sem.run_pure]
              have : hh - ll = 0 := by omega
              rw [this]
              congr 2
              split <;> rfl
            · cases he
        · cases he
  · rename_i n elem a hu
    split at he
    · rename_i inf hinf
      cases he
      obtain ⟨a', rfl, ha⟩ := h.ptrInv
      cases hlo
      cases hhi
      refine ⟨.slice (some a') n n, .slice ha (.inl rfl), ?_⟩
      unfold Instr.sliceAt
      simp only [Sem.run_bind, run_underlying hu, Result.andThen_ok]
      have : (if n = 0 then a' else a'.add (0 * inf.size)) = a' := by rw [Nat.zero_mul, Addr.add_zero]; split <;> rfl
      simp [Instr.sureAddr, Instr.sliceBounds, run_sizeOf hinf, Addr.add_zero]
    · cases he
  · cases he

/-! ### Strings gone over rune by rune -/

def rangeE (P : Program) (E : EM) (t : TypeId) (x : Value) : Option (Value × EM) :=
  match P.underlying t, x with
  | some .string, .string s => some (.pointer (some ⟨E.n, 0, none⟩), E.push (.obj (.stringIter s 0)))
  | _, _ => none
theorem range_ok (g : Good P base w0 β E w) {t : TypeId} {x x' : Value} (h : VR β x x') {v : Value} {E1 : EM} (he : rangeE P E t x = some (v, E1)) :
    ∃ β1 v' w1, Ext β β1 ∧ VR β1 v v' ∧ Good P base w0 β1 E1 w1 ∧ (Instr.range t x').run P w = .ok v' w1 := by
  unfold rangeE at he
  split at he
  · rename_i s hu
    cases he
    rw [h.stringInv]
    refine ⟨_, .pointer (some ⟨w.heap.size, 0, none⟩), _, Ext.put g.fresh _, .ptr (AR.new _ _ _ rfl), g.newObj (OR.iter s 0) _ rfl, ?_⟩
    simp [Instr.range, run_underlying hu]
  · cases he

def nextE (E : EM) (it : Value) : Option (Value × EM) :=
  match it with
  | .pointer (some ⟨r, 0, none⟩) => match E.get r with
    | .obj (.stringIter s pos) =>
      if pos < s.size then
        some (.tuple #[.bool true, goInt pos, .int .i32 (Utf8.decode s pos).1], E.set r (.obj (.stringIter s (pos + (Utf8.decode s pos).2))))
      else some (.tuple #[.bool false], E)
    | _ => none
  | _ => none
theorem next_ok (g : Good P base w0 β E w) {ty : TypeId} {it it' : Value} (h : VR β it it') {v : Value} {E1 : EM} (he : nextE E it = some (v, E1)) :
    ∃ v' w1, VR β v v' ∧ Good P base w0 β E1 w1 ∧ (Instr.next it' true ty).run P w = .ok v' w1 := by
  unfold nextE at he
  split at he
  · rename_i r
    obtain ⟨a', rfl, l, hl, _, rfl⟩ := h.ptrInv
    split at he
    · rename_i s pos hget
      obtain ⟨⟨o', hb, ho⟩, g1⟩ := g.setObj hl hget (OR.iter s (pos + (Utf8.decode s pos).2))
      have hrep := g.rep _ _ hl
      rw [hget] at hrep
      have h0 : l.off = 0 := hrep.2.1
      cases ho
      have hgo : (getObj l.blk).run P w = .ok (.stringIter s pos) w := by simp [getObj, Sem.run, hb]
      have hset : ∀ o, (setObj l.blk o).run P w = .ok () { w with heap := w.heap.setIfInBounds l.blk o } := by intro o; simp [setObj, Sem.run, hb]
      split at he
      · rename_i hp
        cases he
        refine ⟨.tuple #[.bool true, goInt pos, .int .i32 (Utf8.decode s pos).1], _, VR.flat rfl, g1, ?_⟩
        simp [Instr.next, h0, hgo, hp, hset]
      · rename_i hp
        cases he
        refine ⟨.tuple #[.bool false], w, VR.flat rfl, g, ?_⟩
        simp [Instr.next, h0, hgo, hp]
    · cases he
  · cases he

end
end
end Go.Eng
