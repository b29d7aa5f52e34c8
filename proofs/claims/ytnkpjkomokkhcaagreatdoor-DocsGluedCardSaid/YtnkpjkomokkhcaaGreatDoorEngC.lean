/-
  A CLOSED RUN, HELD AGAINST THE MODEL (3): one operation that is no call of a Go function.
-/
import Derived.Test.YtnkpjkomokkhcaaGreatDoorEngB
import Derived.Laws.Append
import Derived.Laws.Entries
import Derived.Laws.Sem
import Derived.Orders
namespace Go.Eng
noncomputable section
set_option linter.unusedVariables false
set_option linter.unusedSimpArgs false

/-! ### Computing without memory -/

def runPure {α : Type} (P : Program) : Sem α → Option α
  | .pure a => some a
  | .program k => runPure P (k P)
  | .mark _ k => runPure P k
  | _ => none

theorem run_of_runPure {α : Type} {P : Program} : ∀ {s : Sem α} {a : α}, runPure P s = some a → ∀ w, s.run P w = .ok a w
  | .pure a, b, h, w => by simp [runPure] at h; subst h; rfl
  | .program k, b, h, w => by simp only [runPure] at h; simpa [Sem.run] using run_of_runPure h w
  | .mark m k, b, h, w => by simp only [runPure] at h; simpa [Sem.run] using run_of_runPure h w
  | .load .., _, h, _ => by simp [runPure] at h
  | .store .., _, h, _ => by simp [runPure] at h
  | .new .., _, h, _ => by simp [runPure] at h
  | .shape .., _, h, _ => by simp [runPure] at h
  | .freeze .., _, h, _ => by simp [runPure] at h
  | .frozen .., _, h, _ => by simp [runPure] at h
  | .getObj .., _, h, _ => by simp [runPure] at h
  | .setObj .., _, h, _ => by simp [runPure] at h
  | .choose .., _, h, _ => by simp [runPure] at h
  | .sys .., _, h, _ => by simp [runPure] at h
  | .halt .., _, h, _ => by simp [runPure] at h

/-! ### What holds no address reads the same in both -/

theorem VR.scalarEq {β : Map} {v v' : Value} (h : VR β v v') (hs : isScalar v = true) : v' = v := by
  cases h with
  | scalar _ => rfl
  | ptr _ => simp [isScalar] at hs
  | slice _ _ => simp [isScalar] at hs
  | empty => simp [isScalar] at hs
  | agg _ => simp [isScalar] at hs
  | tuple _ => simp [isScalar] at hs
  | func _ _ _ => simp [isScalar] at hs
  | iface _ => simp [isScalar] at hs
  | map _ => simp [isScalar] at hs
  | unk => simp [isScalar] at hs
theorem VRs.scalarEq {β : Map} : ∀ {r r' : List Value}, VRs β r r' → r.all isScalar = true → r' = r
  | _, _, .nil, _ => rfl
  | _, _, .cons e t, h => by
    simp only [List.all_cons, Bool.and_eq_true] at h
    rw [e.scalarEq h.1, VRs.scalarEq t h.2]
theorem VR.flatEq {β : Map} {v v' : Value} (h : VR β v v') (hf : isFlat v = true) : v' = v := by
  cases h with
  | scalar _ => rfl
  | ptr _ => simp [isFlat, isScalar] at hf
  | slice _ _ => simp [isFlat, isScalar] at hf
  | empty => simp [isFlat, isScalar] at hf
  | agg h => simp only [isFlat] at hf; rw [Array.toList_inj.1 (h.scalarEq hf)]
  | tuple h => simp only [isFlat] at hf; rw [Array.toList_inj.1 (h.scalarEq hf)]
  | func h1 h2 h3 =>
    cases h1 with
    | func g =>
      simp only [isFlat, Bool.and_eq_true, Array.isEmpty_iff] at hf
      obtain ⟨rfl, rfl⟩ := hf
      have e2 := h2.length
      have e3 := h3.length
      simp at e2 e3
      rw [Array.eq_empty_of_size_eq_zero e2.symm, Array.eq_empty_of_size_eq_zero e3.symm]
    | method n => simp [isFlat, isScalar] at hf
    | yield e => simp [isFlat, isScalar] at hf
  | iface _ => simp [isFlat, isScalar] at hf
  | map _ => simp [isFlat, isScalar] at hf
  | unk => simp [isFlat, isScalar] at hf

/-! ### Operands -/

def evT (ts : Slots) : Operand → Value
  | .tmp t => ts.get t
  | .const v => v
  | .global g => .pointer (some ⟨g, 0, none⟩)
  | .func f => .func (.func f) #[] #[]
/-- How many package-level variables are laid in the abstract memory: they lie where the model has them. -/
def Glob (ng : Nat) (β : Map) : Prop := ∀ g, g < ng → ∃ l, β g = some l ∧ l.blk = g ∧ l.off = 0
theorem Glob.ext {ng : Nat} {β β' : Map} (h : Ext β β') (g : Glob ng β) : Glob ng β' := fun i hi => by
  obtain ⟨l, a, b⟩ := g i hi
  exact ⟨l, h _ _ a, b⟩
def okX (ng : Nat) : Operand → Bool
  | .const v => isFlat v
  | .global g => decide (g < ng)
  | _ => true
/-- The frame's slots, and an evaluation by them. -/
def evA (tmps : Array Value) : Operand → Value
  | .tmp t => tmps.getD t undef
  | .const v => v
  | .global g => .pointer (some ⟨g, 0, none⟩)
  | .func f => .func (.func f) #[] #[]
theorem eval_evA (fr : Frame) : fr.eval = evA fr.tmps := by funext x; cases x <;> rfl

theorem VRs.getD {β : Map} {r r' : List Value} (h : VRs β r r') (i : Nat) : VR β (r.getD i undef) (r'.getD i undef) := by
  cases e : r[i]? with
  | none => simp only [List.getD_eq_getElem?_getD, e, h.getNone e]; exact undefR β
  | some v =>
    obtain ⟨v', h1, h2⟩ := h.get e
    simp only [List.getD_eq_getElem?_getD, e, h1]; exact h2
theorem ev_ok {ng : Nat} {β : Map} {ts : Slots} {tmps : Array Value} (h : VRs β ts.toL tmps.toList) (g : Glob ng β) {x : Operand} (hx : okX ng x = true) : VR β (evT ts x) (evA tmps x) := by
  cases x with
  | tmp t =>
    have := h.getD t
    rw [Slots.toL_get] at this
    simpa [evT, evA, Array.getD_eq_getD_getElem?, List.getD_eq_getElem?_getD] using this
  | const v => exact VR.flat hx
  | global i =>
    obtain ⟨l, hl, hb, ho⟩ := g i (by simpa [okX] using hx)
    refine .ptr ⟨l, hl, rfl, ?_⟩
    simp [hb, ho]
  | func f => exact .func (.func f) .nil .nil

/-! ### What an operation comes to -/

def Does (P : Program) (s : Sem Next) (w : World) (v' : Value) (w1 : World) : Prop :=
  s.run P w = .ok (.value v') w1 ∨ (s.run P w = .ok .skip w1 ∧ v' = undef)

def OK (P : Program) (base : Nat) (w0 : World) (β : Map) (E1 : EM) (v : Value) (s : Sem Next) (w : World) : Prop :=
  ∃ β1 v' w1, Ext β β1 ∧ VR β1 v v' ∧ Good P base w0 β1 E1 w1 ∧ Does P s w v' w1

section
variable {P : Program} {base : Nat} {w0 : World} {β : Map} {E : EM} {w : World}

/-- A value is handed back, memory stays. -/
theorem OK.value (g : Good P base w0 β E w) {v v' : Value} (h : VR β v v') {s : Sem Next} (hs : s.run P w = .ok (.value v') w) : OK P base w0 β E v s w :=
  ⟨β, v', w, Ext.refl β, h, g, .inl hs⟩

/-- By the model's own run, where no operand holds an address and no memory is asked. -/
def pureOp (P : Program) (ts : Slots) (o : Oper) : Option Value :=
  match runPure P (execOp (evT ts) o) with
  | some (.value v) => if isFlat v then some v else none
  | some .skip => some undef
  | _ => none

theorem pureOp_ok {ts : Slots} {tmps : Array Value} {o : Oper} {ng : Nat} (g : Good P base w0 β E w) (hg : Glob ng β) (ht : VRs β ts.toL tmps.toList)
    (hx : o.op.operands.toList.all (fun x => okX ng x && isFlat (evT ts x)) = true) (hsel : ∀ cs b, o.op ≠ .select cs b) {v : Value} (h : pureOp P ts o = some v) :
    OK P base w0 β E v (execOp (evA tmps) o) w := by
  have hc : execOp (evA tmps) o = execOp (evT ts) o := by
    refine execOp_congr o hsel fun x hm => ?_
    have := List.all_eq_true.1 hx x (by simpa using hm)
    simp only [Bool.and_eq_true] at this
    exact (ev_ok ht hg this.1).flatEq this.2
  rw [hc]
  unfold pureOp at h
  split at h
  · rename_i u hu
    split at h
    · rename_i hf
      cases h
      exact OK.value g (VR.flat hf) (run_of_runPure hu w)
    · cases h
  · rename_i hu
    cases h
    exact ⟨β, undef, w, Ext.refl β, undefR β, g, .inr ⟨run_of_runPure hu w, rfl⟩⟩
  · cases h

/-! ### Loads -/

theorem AR.add {a a' : Addr} (h : AR β a a') (n : Nat) : AR β (a.add n) (a'.add n) := by
  obtain ⟨l, hl, hs, rfl⟩ := h
  unfold Addr.add
  by_cases hn : n = 0
  · simp [hn]; exact ⟨l, hl, hs, rfl⟩
  · simp [hn]; exact ⟨l, hl, rfl, by simp [Nat.add_assoc]⟩
theorem Addr.add_block (a : Addr) (n : Nat) : (a.add n).block = a.block := by unfold Addr.add; split <;> rfl
theorem Addr.add_off (a : Addr) (n : Nat) : (a.add n).off = a.off + n := by unfold Addr.add; split <;> simp [*]

/-- n cells behind an address. -/
def cellsAt (E : EM) (a : Addr) (n : Nat) : Option (List Value) :=
  match E.get a.block with
  | .cells c _ _ _ => if a.off + n ≤ llen c then some ((ldrop a.off c).take n) else none
  | _ => none
theorem cellsAt_def (E : EM) (a : Addr) (n : Nat) : cellsAt E a n = match E.get a.block with
  | .cells c _ _ _ => if a.off + n ≤ c.length then some ((c.drop a.off).take n) else none
  | _ => none := by
  unfold cellsAt
  simp only [llen_eq, ldrop_eq]

theorem Good.loads (g : Good P base w0 β E w) {a a' : Addr} (h : AR β a a') {n : Nat} {cs : List Value} (hc : cellsAt E a n = some cs) :
    ∃ cs' : List Value, VRs β cs cs' ∧ cs.length = n ∧ (loadCells a' n).run P w = .ok cs'.toArray w ∧ (∀ j v, cs'[j]? = some v → w.cell? (a'.add j) = some v) := by
  rw [cellsAt_def] at hc
  split at hc
  · rename_i c t own fx he
    split at hc
    · rename_i hle
      cases hc
      have hn : ((c.drop a.off).take n).length = n := by simp; omega
      have hcell : ∀ j, j < n → ∃ v v', ((c.drop a.off).take n)[j]? = some v ∧ w.cell? (a'.add j) = some v' ∧ VR β v v' := by
        intro j hj
        have hlt : a.off + j < c.length := by omega
        have hv : c[a.off + j]? = some c[a.off + j] := List.getElem?_eq_getElem hlt
        obtain ⟨v', h1, h2⟩ := g.load (h.add j) (c := c) (t := t) (own := own) (fx := fx) (by rw [Addr.add_block]; exact he) (v := c[a.off + j]) (by rw [Addr.add_off]; exact hv)
        exact ⟨_, v', by simp [hj, hlt], h1, h2⟩
      let f : Nat → Value := fun j => (w.cell? (a'.add j)).getD undef
      refine ⟨(List.range n).map f, ?_, hn, ?_, ?_⟩
      · refine VRs.of_get (by simp; omega) fun i v v' hv hv' => ?_
        have hi : i < n := by
          have := (List.getElem?_eq_some_iff.1 hv).1
          omega
        obtain ⟨x, x', h1, h2, h3⟩ := hcell i hi
        rw [h1] at hv; cases hv
        simp [hi, f, h2] at hv'
        subst hv'; exact h3
      · exact run_loadCells w a' n f fun j hj => by
          obtain ⟨x, x', _, h2, _⟩ := hcell j hj
          simp [f, h2]
      · intro j v hv
        have hj : j < n := by
          have := (List.getElem?_eq_some_iff.1 hv).1
          simpa using this
        obtain ⟨x, x', _, h2, _⟩ := hcell j hj
        simp [hj, f, h2] at hv
        subst hv; exact h2
    · cases hc
  · cases hc

def aggT (P : Program) (t : TypeId) : Option Bool :=
  match P.underlying t with
  | some (.struct _) | some (.array _ _) => some true
  | some _ => some false
  | none => none
theorem run_isAgg {t : TypeId} {b : Bool} (h : aggT P t = some b) : (isAgg t).run P w = .ok b w := by
  unfold aggT at h
  cases hu : P.underlying t with
  | none => simp [hu] at h
  | some d =>
    rw [hu] at h
    unfold isAgg
    simp only [Sem.run_bind, run_underlying hu, Result.andThen_ok]
    cases d <;> simp_all
theorem run_sizeOf {t : TypeId} {i : TypeInfo} (h : P.info? t = some i) : (sizeOf t).run P w = .ok i.size w := by
  simp [sizeOf, typeInfo, h]
theorem run_typeInfo {t : TypeId} {i : TypeInfo} (h : P.info? t = some i) : (typeInfo t).run P w = .ok i w := by
  simp [typeInfo, h]

def loadE (P : Program) (E : EM) (t : TypeId) (a : Addr) : Option Value :=
  match aggT P t, P.info? t with
  | some true, some i => (cellsAt E a i.size).map fun cs => .agg cs.toArray
  | some false, _ => match cellsAt E a 1 with
    | some [v] => some v
    | _ => none
  | _, _ => none

theorem Addr.add_zero (a : Addr) : a.add 0 = a := by simp [Addr.add]
theorem loadE_ok (g : Good P base w0 β E w) {a a' : Addr} (h : AR β a a') {t : TypeId} {v : Value} (hl : loadE P E t a = some v) :
    ∃ v', VR β v v' ∧ (loadVar t a').run P w = .ok v' w := by
  unfold loadE at hl
  split at hl
  · rename_i i h1 h2
    simp only [Option.map_eq_some_iff] at hl
    obtain ⟨cs, hc, rfl⟩ := hl
    obtain ⟨cs', hr, hn, hrun, _⟩ := g.loads h hc
    refine ⟨.agg cs'.toArray, .agg (by simpa using hr), ?_⟩
    simp [loadVar, run_isAgg h1, run_sizeOf h2, hrun]
  · rename_i h1
    split at hl
    · rename_i u hc
      cases hl
      obtain ⟨cs', hr, hn, hrun, hcell⟩ := g.loads h hc
      cases hr with
      | cons hv ht =>
        cases ht
        rename_i v'
        have := hcell 0 v' rfl
        rw [Addr.add_zero] at this
        refine ⟨v', hv, ?_⟩
        simp [loadVar, run_isAgg h1, this]
    · cases hl
  · cases hl

/-! ### Stores -/

def isOne : Value → Bool
  | .agg _ | .tuple _ => false
  | _ => true
theorem VR.oneCell {v v' : Value} (h : VR β v v') (hv : isOne v = true) : v'.oneCell' = true := by
  cases h with
  | scalar hs => cases v <;> simp_all [isOne, Value.oneCell', isScalar]
  | ptr _ => rfl
  | slice _ _ => rfl
  | empty => rfl
  | agg _ => simp [isOne] at hv
  | tuple _ => simp [isOne] at hv
  | func _ _ _ => rfl
  | iface _ => rfl
  | map _ => rfl
  | unk => rfl

def storeCellsE (E : EM) (a : Addr) : Nat → List Value → Option EM
  | _, [] => some E
  | i, v :: r =>
    match E.get a.block with
    | .cells c t true fx => if a.off + i < llen c && isOne v then storeCellsE (E.set a.block (.cells (lset c (a.off + i) v) t true fx)) a (i + 1) r else none
    | _ => none

theorem storeCellsE_ok {a a' : Addr} : ∀ (vs : List Value) (i : Nat) {E E1 : EM} {w : World} {vs' : List Value}, Good P base w0 β E w → AR β a a' → VRs β vs vs' → storeCellsE E a i vs = some E1 →
    ∃ w1, (storeCells a' vs' i).run P w = .ok () w1 ∧ Good P base w0 β E1 w1
  | [], i, E, E1, w, vs', g, h, hv, hs => by
    cases hv
    simp [storeCellsE] at hs
    subst hs
    exact ⟨w, by simp [storeCells], g⟩
  | v :: r, i, E, E1, w, vs', g, h, hv, hs => by
    cases hv with
    | cons hv ht =>
      rename_i v' r'
      simp only [storeCellsE, llen_eq, lset_eq] at hs
      split at hs
      · rename_i c t fx he
        split at hs
        · rename_i hcond
          simp only [Bool.and_eq_true, decide_eq_true_eq] at hcond
          obtain ⟨⟨u, hu⟩, hf, g1⟩ := g.store (h.add i) (c := c) (t := t) (fx := fx) (by rw [Addr.add_block]; exact he) (by rw [Addr.add_off]; exact hcond.1) hv
          rw [Addr.add_block, Addr.add_off] at g1
          obtain ⟨w1, hrun, g2⟩ := storeCellsE_ok r (i + 1) g1 h ht hs
          refine ⟨w1, ?_, g2⟩
          simp [storeCells, run_store P w _ v' _ (hv.oneCell hcond.2), hu, hf, hrun]
        · cases hs
      · cases hs

def storeE (P : Program) (E : EM) (t : TypeId) (a : Addr) (v : Value) : Option EM :=
  match P.info? t with
  | some i => if v.cells.size = i.size then storeCellsE E a 0 v.cells.toList else none
  | none => none
theorem VR.cellsSize {v v' : Value} (h : VR β v v') : v'.cells.size = v.cells.size := by
  have := h.cells.length
  simpa using this.symm
theorem storeE_ok (g : Good P base w0 β E w) {a a' : Addr} (h : AR β a a') {t : TypeId} {v v' : Value} (hv : VR β v v') {E1 : EM} (hs : storeE P E t a v = some E1) :
    ∃ w1, (storeVar t a' v').run P w = .ok () w1 ∧ Good P base w0 β E1 w1 := by
  unfold storeE at hs
  split at hs
  · rename_i i hi
    split at hs
    · rename_i hsz
      obtain ⟨w1, hrun, g1⟩ := storeCellsE_ok _ 0 g h hv.cells hs
      refine ⟨w1, ?_, g1⟩
      simp [storeVar, run_sizeOf hi, hv.cellsSize, hsz, hrun]
    · cases hs
  · cases hs

end
end
end Go.Eng
