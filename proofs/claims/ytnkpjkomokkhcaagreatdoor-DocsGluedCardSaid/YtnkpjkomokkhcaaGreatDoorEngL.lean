/-
  A CLOSED RUN, HELD AGAINST THE MODEL (11): regions: in the order of the text, and in every order that the edges allow.
-/
import Derived.Test.YtnkpjkomokkhcaaGreatDoorEngU
import Derived.Test.YtnkpjkomokkhcaaGreatDoorEngS
namespace Go.Eng
noncomputable section
set_option linter.unusedVariables false
set_option linter.unusedSimpArgs false

abbrev CallF := Value → List Value → EM → Option (Value × EM)

def putL (ts : Slots) (dst : Option Tmp) (v : Value) : Slots :=
  match dst with
  | some d => ts.put d v
  | none => ts
def yieldL (ops : Array Oper) (ts : Slots) (j : Nat) : Option Bool :=
  match (ops[j]?).bind (·.dst) with
  | some d => match ts.get d with
    | .bool b => some b
    | _ => none
  | none => none

def isDefer : Op → Bool
  | .defer _ => true
  | _ => false
/-- An operation; a call of a function's value goes through 'call' where memory is wanted. -/
def opX0 (call : CallF) (P : Program) (ng : Nat) (ts : Slots) (o : Oper) (E : EM) : Option (Value × EM) :=
  if isDefer o.op then none else
  match opE P ng ts o E with
  | some r => some r
  | none => match o.op with
    | .call ⟨.value f, args, _⟩ => if o.op.operands.toList.all (okX ng) then call (evT ts f) (args.toList.map (evT ts)) E else none
    | _ => none
/-- A value whose call enters a function of the program, or a loop's body. -/
def isGo (P : Program) : Value → Bool
  | .func (.func g) _ _ => match P.funcs[g]? with
    | some fn => fn.body.isSome
    | none => false
  | .func (.yield _) _ _ => true
  | _ => false
/-- The function that a method of an interface's value is, where the method is the type's own. -/
def methodQ (P : Program) (t : TypeId) (name : String) : Option FuncId :=
  match P.info? t with
  | some i => match i.methods.find? (·.name == name) with
    | some m => if m.path.isEmpty then (match m.func with
      | some (f, pr) => match P.underlying t with
        | some (.pointer _) => if pr then some f else none
        | some _ => if pr then none else some f
        | none => none
      | none => none) else none
    | none => none
  | none => none
/-- A call by way of an interface's value. -/
def invX (call : CallF) (P : Program) (ng : Nat) (ts : Slots) (E : EM) (r : Operand) (m : String) (args : Array Operand) : Option (Value × EM) :=
  if okX ng r && okL ng args.toList then
    match evT ts r with
    | .iface t v => match methodQ P t m with
      | some f => call (.func (.func f) #[] #[]) (v :: args.toList.map (evT ts)) E
      | none => none
    | _ => none
  else none
def opX (call : CallF) (P : Program) (ng : Nat) (ts : Slots) (o : Oper) (E : EM) : Option (Value × EM) :=
  match o.op with
  | .call ⟨.invoke r m, args, _⟩ => invX call P ng ts E r m args
  | .call ⟨.value f, args, _⟩ => if isGo P (evT ts f) && okX ng f && okL ng args.toList then call (evT ts f) (args.toList.map (evT ts)) E else opX0 call P ng ts o E
  | _ => opX0 call P ng ts o E
theorem opX0_congr {call : CallF} {P : Program} {ng : Nat} {ts us : Slots} {E : EM} {o : Oper} (h : ∀ x ∈ o.op.operands, evT ts x = evT us x) : opX0 call P ng ts o E = opX0 call P ng us o E := by
  obtain ⟨dst, op, type, pos, after, guard⟩ := o
  unfold opX0
  rw [opE_congr h]
  simp only at h ⊢
  cases op with
  | call c =>
    obtain ⟨callee, args, tys⟩ := c
    cases callee with
    | value f =>
      simp only
      have ha : args.toList.map (evT ts) = args.toList.map (evT us) := List.map_congr_left fun x hx => h x (by simp [Op.operands, Call.operands]; exact .inr (by simpa using hx))
      rw [ha, h f (by simp [Op.operands, Call.operands])]
    | _ => rfl
  | _ => rfl
theorem opX_congr {call : CallF} {P : Program} {ng : Nat} {ts us : Slots} {E : EM} {o : Oper} (h : ∀ x ∈ o.op.operands, evT ts x = evT us x) : opX call P ng ts o E = opX call P ng us o E := by
  unfold opX
  rw [opX0_congr h]
  split
  · rename_i r m args tys hop
    rw [hop] at h
    have ha : args.toList.map (evT ts) = args.toList.map (evT us) := List.map_congr_left fun x hx => h x (by simp [Op.operands, Call.operands]; exact .inr (by simpa using hx))
    unfold invX
    rw [ha, h r (by simp [Op.operands, Call.operands])]
  · rename_i f args tys hop
    rw [hop] at h
    have ha : args.toList.map (evT ts) = args.toList.map (evT us) := List.map_congr_left fun x hx => h x (by simp [Op.operands, Call.operands]; exact .inr (by simpa using hx))
    rw [ha, h f (by simp [Op.operands, Call.operands])]
  · rfl
/-- What is no such call goes by the long way. -/
def NotX (op : Op) : Prop := (∀ f args tys, op ≠ .call ⟨.value f, args, tys⟩) ∧ ∀ r m args tys, op ≠ .call ⟨.invoke r m, args, tys⟩
theorem opX_other {call : CallF} {P : Program} {ng : Nat} {ts : Slots} {o : Oper} {E : EM} (h : NotX o.op) : opX call P ng ts o E = opX0 call P ng ts o E := by
  unfold opX
  split
  · rename_i r m args tys hop
    exact absurd hop (h.2 r m args tys)
  · rename_i f args tys hop
    exact absurd hop (h.1 f args tys)
  · rfl
theorem keep_other {op : Op} (h : keepOp op = true) : NotX op := by
  constructor
  · intro f args tys e
    rw [e] at h
    simp [keepOp] at h
  · intro r m args tys e
    rw [e] at h
    simp [keepOp] at h

def opStep (call : CallF) (P : Program) (ng : Nat) (ops : Array Oper) (ts : Slots) (E : EM) (i : Nat) : Option (Slots × EM) :=
  match ops[i]? with
  | none => none
  | some o =>
    if Region.wanted o (yieldL ops ts) then
      match opX call P ng ts o E with
      | some (v, E1) => some (putL ts o.dst v, E1)
      | none => none
    else some (putL ts o.dst undef, E)

def runL (call : CallF) (P : Program) (ng : Nat) (ops : Array Oper) : List Nat → Slots → EM → Option (Slots × EM)
  | [], ts, E => some (ts, E)
  | i :: r, ts, E => match opStep call P ng ops ts E i with
    | some (ts1, E1) => runL call P ng ops r ts1 E1
    | none => none
/-- One operation, and a row of them, in the order of the text. -/
def opStepO (call : CallF) (P : Program) (ng : Nat) (ops : Array Oper) (ts : Slots) (E : EM) (o : Oper) : Option (Slots × EM) :=
  if Region.wanted o (yieldL ops ts) then
    match opX call P ng ts o E with
    | some (v, E1) => some (putL ts o.dst v, E1)
    | none => none
  else some (putL ts o.dst undef, E)
def runS (call : CallF) (P : Program) (ng : Nat) (ops : Array Oper) (l : List Oper) : Slots → EM → Option (Slots × EM) :=
  List.rec (motive := fun _ => Slots → EM → Option (Slots × EM)) (fun ts E => some (ts, E)) (fun o _ ih ts E => match opStepO call P ng ops ts E o with
    | some (ts1, E1) => ih ts1 E1
    | none => none) l
theorem runS_eq {call : CallF} {P : Program} {ng : Nat} {ops : Array Oper} : ∀ (l : List Oper) (k : Nat) (ts : Slots) (E : EM), ops.toList.drop k = l → runS call P ng ops l ts E = runL call P ng ops (List.range' k l.length) ts E
  | [], _, _, _, _ => rfl
  | o :: r, k, ts, E, h => by
    have ho : ops[k]? = some o := by
      have := congrArg List.head? h
      rw [List.head?_drop] at this
      simpa using this
    have hr : ops.toList.drop (k + 1) = r := by
      have := congrArg List.tail h
      simpa using this
    have hs : opStep call P ng ops ts E k = opStepO call P ng ops ts E o := by
      unfold opStep
      rw [ho]
      rfl
    show (match opStepO call P ng ops ts E o with
      | some (ts1, E1) => runS call P ng ops r ts1 E1
      | none => none) = (match opStep call P ng ops ts E k with
      | some (ts1, E1) => runL call P ng ops (List.range' (k + 1) r.length) ts1 E1
      | none => none)
    rw [hs]
    cases opStepO call P ng ops ts E o with
    | none => rfl
    | some q => exact runS_eq r (k + 1) q.1 q.2 hr
theorem runS_range {call : CallF} {P : Program} {ng : Nat} {ops : Array Oper} (ts : Slots) (E : EM) : runS call P ng ops ops.toList ts E = runL call P ng ops (List.range ops.size) ts E := by
  rw [runS_eq ops.toList 0 ts E rfl, List.range_eq_range']
  rfl

/-! ### Every order -/

/-- What an operation that does not keep memory did, in the order of the text. -/
structure Rec where
  i : Nat
  ts : Slots
  v : Value
  E : EM

def canon (call : CallF) (P : Program) (ng : Nat) (ops : Array Oper) : List Nat → Slots → EM → Option (List Rec)
  | [], _, _ => some []
  | i :: r, ts, E =>
    match ops[i]? with
    | none => none
    | some o =>
      if Region.wanted o (yieldL ops ts) then
        match opX call P ng ts o E with
        | some (v, E1) =>
          if keepOp o.op then canon call P ng ops r (putL ts o.dst v) E
          else match canon call P ng ops r (putL ts o.dst v) E1 with
            | some l => some (⟨i, ts, v, E1⟩ :: l)
            | none => none
        | none => none
      else canon call P ng ops r (putL ts o.dst undef) E

def Chain (call : CallF) (P : Program) (ng : Nat) (ops : Array Oper) : EM → List Rec → Prop
  | _, [] => True
  | E, r :: l => (∃ o, ops[r.i]? = some o ∧ opX call P ng r.ts o E = some (r.v, r.E)) ∧ Chain call P ng ops r.E l

section
variable {call : CallF} {P : Program} {ng : Nat} {ops : Array Oper}

theorem canon_chain : ∀ (l : List Nat) {ts : Slots} {E : EM} {rs : List Rec}, canon call P ng ops l ts E = some rs → Chain call P ng ops E rs
  | [], ts, E, rs, h => by simp [canon] at h; subst h; trivial
  | i :: r, ts, E, rs, h => by
    simp only [canon] at h
    split at h
    · cases h
    · rename_i o ho
      split at h
      · split at h
        · rename_i v E1 hx
          split at h
          · exact canon_chain r h
          · split at h
            · rename_i l hl
              cases h
              exact ⟨⟨o, ho, hx⟩, canon_chain r hl⟩
            · cases h
        · cases h
      · exact canon_chain r h

def eAt (E : EM) : List Rec → Nat → EM
  | _, 0 => E
  | [], _ + 1 => E
  | r :: l, j + 1 => eAt r.E l j
theorem chain_at : ∀ {l : List Rec} {E : EM} {j : Nat} {r : Rec}, Chain call P ng ops E l → l[j]? = some r →
    (∃ o, ops[r.i]? = some o ∧ opX call P ng r.ts o (eAt E l j) = some (r.v, r.E)) ∧ eAt E l (j + 1) = r.E
  | [], _, _, _, _, h => by simp at h
  | a :: l, E, 0, r, hc, h => by
    simp at h; subst h
    exact ⟨hc.1, by simp [eAt]⟩
  | a :: l, E, j + 1, r, hc, h => by
    have := chain_at (E := a.E) (l := l) (j := j) hc.2 (by simpa using h)
    simpa [eAt] using this

structure St where
  listed : Array Bool
  ts : Slots
  j : Nat

def dpStep (P : Program) (ng : Nat) (ops : Array Oper) (E : EM) (recs : List Rec) (s : St) (i : Nat) : Option St :=
  match ops[i]? with
  | none => none
  | some o =>
    if Region.wanted o (yieldL ops s.ts) then
      if keepOp o.op then
        match opE P ng s.ts o (eAt E recs s.j) with
        | some (v, _) => some ⟨s.listed.setIfInBounds i true, putL s.ts o.dst v, s.j⟩
        | none => none
      else match recs[s.j]? with
        | some r => if r.i = i ∧ o.op.operands.toList.all (fun x => eqV 64 (evT s.ts x) (evT r.ts x)) = true then some ⟨s.listed.setIfInBounds i true, putL s.ts o.dst r.v, s.j + 1⟩ else none
        | none => none
    else some ⟨s.listed.setIfInBounds i true, putL s.ts o.dst undef, s.j⟩

theorem keep_notDefer {op : Op} (h : keepOp op = true) : isDefer op = false := by cases op <;> simp [keepOp, isDefer] at h ⊢

theorem dpStep_ok {E : EM} {recs : List Rec} (hc : Chain call P ng ops E recs) {s s' : St} {i : Nat} (h : dpStep P ng ops E recs s i = some s') :
    opStep call P ng ops s.ts (eAt E recs s.j) i = some (s'.ts, eAt E recs s'.j) ∧ s'.listed = s.listed.setIfInBounds i true := by
  unfold dpStep at h
  unfold opStep
  split at h
  · cases h
  · rename_i o ho
    split at h
    · rename_i hw
      simp only [hw, if_true]
      split at h
      · rename_i hk
        split at h
        · rename_i v E1 hx
          cases h
          have := opE_keeps hk hx
          subst this
          refine ⟨?_, rfl⟩
          rw [opX_other (keep_other hk)]
          simp [opX0, keep_notDefer hk, hx]
        · cases h
      · split at h
        · rename_i r hr
          split at h
          · rename_i hcond
            obtain ⟨hi, heq⟩ := hcond
            cases h
            obtain ⟨⟨o', ho', hx⟩, he⟩ := chain_at hc hr
            rw [hi, ho] at ho'
            cases ho'
            have hcg : opX call P ng s.ts o (eAt E recs s.j) = opX call P ng r.ts o (eAt E recs s.j) := opX_congr fun x hm => eqV_ok 64 _ _ (List.all_eq_true.1 heq x (by simpa using hm))
            rw [hcg, hx]
            exact ⟨by rw [he], rfl⟩
          · cases h
        · cases h
    · rename_i hw
      simp only [hw]
      cases h
      exact ⟨rfl, rfl⟩

def ins (s : St) : List St → Option (List St)
  | [] => some [s]
  | a :: r => if a.listed = s.listed then (if a.j = s.j ∧ eqTs a.ts s.ts = true then some (a :: r) else none) else match ins s r with
    | some l => some (a :: l)
    | none => none
def expand1 (P : Program) (ng : Nat) (ops : Array Oper) (E : EM) (recs : List Rec) (s : St) : List Nat → List St → Option (List St)
  | [], acc => some acc
  | i :: r, acc => match dpStep P ng ops E recs s i with
    | none => none
    | some s' => match ins s' acc with
      | none => none
      | some acc' => expand1 P ng ops E recs s r acc'

/-! An operation that asks no memory, and that no other one waiting looks at or is looked at by, may be taken first. -/

def memFree : Op → Bool
  | .move _ | .assign _ | .pick .. | .build .. | .nilCheck _ | .binOp .. | .makeFunc .. | .makeInterface .. | .fieldAddr .. | .field .. | .indexAddr .. | .extract .. => true
  | .call ⟨.builtin .len, _, _⟩ => true
  | _ => false
def opV0 (P : Program) (ng : Nat) (ts : Slots) (o : Oper) : Option Value :=
  if o.op.operands.toList.all (okX ng) then
    match (if o.op.operands.toList.all (fun x => isFlat (evT ts x)) && notSelect o.op then pureOp P ts o else none) with
    | some v => some v
    | none => if memFree o.op && lenOK P o.op then (match opS P ts ⟨0, .leaf⟩ o.op with | some (v, _) => some v | none => none) else none
  else none
def opV (P : Program) (ng : Nat) (ts : Slots) (o : Oper) : Option Value :=
  match fastV P ng ts o.op with
  | some v => some v
  | none => match (if memFree o.op then fastS P ng ts ⟨0, .leaf⟩ o.op else none) with
    | some (v, _) => some v
    | none => match fastS P ng ts ⟨0, .leaf⟩ o.op with
      | some _ => none
      | none => if fastOK P ng o.op then none else opV0 P ng ts o
/-- A call that enters a function of the program: it may touch memory. -/
def isGoCall (P : Program) (ts : Slots) : Op → Bool
  | .call ⟨.value f, _, _⟩ => isGo P (evT ts f)
  | .call ⟨.invoke _ _, _, _⟩ => true
  | _ => false
def stepV (P : Program) (ng : Nat) (ops : Array Oper) (ts : Slots) (i : Nat) : Option Value :=
  match ops[i]? with
  | none => none
  | some o => if Region.wanted o (yieldL ops ts) then (if isDefer o.op then none else if isGoCall P ts o.op then none else opV P ng ts o) else some undef

def pick1 (P : Program) (ng : Nat) (ops : Array Oper) (s : St) : List Nat → Option Nat
  | [] => none
  | i :: r => if freeQ ops s.listed i && (stepV P ng ops s.ts i).isSome then some i else pick1 P ng ops s r

def expandAll (P : Program) (ng : Nat) (ops : Array Oper) (E : EM) (recs : List Rec) : List St → List St → Option (List St)
  | [], acc => some acc
  | s :: r, acc => match readyQ ops s.listed with
    | [] => none
    | i :: is => match expand1 P ng ops E recs s (match pick1 P ng ops s (i :: is) with | some k => [k] | none => i :: is) acc with
      | none => none
      | some acc' => expandAll P ng ops E recs r acc'
def layers (P : Program) (ng : Nat) (ops : Array Oper) (E : EM) (recs : List Rec) : Nat → List St → Option St
  | 0, [s] => match readyQ ops s.listed with
    | [] => some s
    | _ => none
  | 0, _ => none
  | n + 1, l => match expandAll P ng ops E recs l [] with
    | none => none
    | some l' => layers P ng ops E recs n l'

theorem ins_ok {s : St} : ∀ {acc acc' : List St}, ins s acc = some acc' → s ∈ acc' ∧ ∀ a ∈ acc, a ∈ acc'
  | [], acc', h => by simp [ins] at h; subst h; simp
  | a :: r, acc', h => by
    simp only [ins] at h
    split at h
    · rename_i hl
      split at h
      · rename_i hc
        cases h
        have : a = s := by
          obtain ⟨l1, t1, j1⟩ := a
          obtain ⟨l2, t2, j2⟩ := s
          simp only at hl hc
          rw [hl, hc.1, eqTs_ok hc.2]
        exact ⟨by rw [← this]; exact List.mem_cons_self .., fun b hb => hb⟩
      · cases h
    · split at h
      · rename_i l hi
        cases h
        have := ins_ok hi
        refine ⟨List.mem_cons_of_mem _ this.1, fun b hb => ?_⟩
        rcases List.mem_cons.1 hb with e | e
        · rw [e]; exact List.mem_cons_self ..
        · exact List.mem_cons_of_mem _ (this.2 b e)
      · cases h
theorem expand1_ok {E : EM} {recs : List Rec} {s : St} : ∀ {is : List Nat} {acc acc' : List St}, expand1 P ng ops E recs s is acc = some acc' →
    (∀ i ∈ is, ∃ s', dpStep P ng ops E recs s i = some s' ∧ s' ∈ acc') ∧ ∀ a ∈ acc, a ∈ acc'
  | [], acc, acc', h => by simp [expand1] at h; subst h; simp
  | i :: r, acc, acc', h => by
    simp only [expand1] at h
    split at h
    · cases h
    · rename_i s' hs
      split at h
      · cases h
      · rename_i acc1 hi
        have h1 := ins_ok hi
        have h2 := expand1_ok h
        refine ⟨fun k hk => ?_, fun a ha => h2.2 a (h1.2 a ha)⟩
        rcases List.mem_cons.1 hk with e | e
        · rw [e]; exact ⟨s', hs, h2.2 _ h1.1⟩
        · exact h2.1 k e

theorem pick1_ok {s : St} : ∀ {is : List Nat} {k : Nat}, pick1 P ng ops s is = some k → k ∈ is ∧ Region.free .any ops s.listed k = true ∧ ∃ v, stepV P ng ops s.ts k = some v
  | [], k, h => by simp [pick1] at h
  | i :: r, k, h => by
    simp only [pick1] at h
    split at h
    · rename_i hc
      cases h
      simp only [Bool.and_eq_true, Option.isSome_iff_exists] at hc
      exact ⟨List.mem_cons_self .., freeQ_ok hc.1, hc.2⟩
    · have := pick1_ok h
      exact ⟨List.mem_cons_of_mem _ this.1, this.2⟩

/-- Either every operation that is ready was gone over, or one that may be taken first. -/
theorem expandAll_ok {E : EM} {recs : List Rec} : ∀ {l : List St} {acc acc' : List St}, expandAll P ng ops E recs l acc = some acc' →
    (∀ s ∈ l, Region.ready .any ops s.listed ≠ [] ∧
      ((∀ i ∈ Region.ready .any ops s.listed, ∃ s', dpStep P ng ops E recs s i = some s' ∧ s' ∈ acc') ∨
       (∃ i ∈ Region.ready .any ops s.listed, Region.free .any ops s.listed i = true ∧ (∃ v, stepV P ng ops s.ts i = some v) ∧ ∃ s', dpStep P ng ops E recs s i = some s' ∧ s' ∈ acc'))) ∧ ∀ a ∈ acc, a ∈ acc'
  | [], acc, acc', h => by simp [expandAll] at h; subst h; simp
  | s :: r, acc, acc', h => by
    simp only [expandAll, readyQ_eq] at h
    split at h
    · cases h
    · rename_i i is hr
      split at h
      · cases h
      · rename_i acc1 h1
        have e1 := expand1_ok h1
        have e2 := expandAll_ok h
        refine ⟨fun u hu => ?_, fun a ha => e2.2 a (e1.2 a ha)⟩
        rcases List.mem_cons.1 hu with e | e
        · subst e
          rw [hr]
          refine ⟨by simp, ?_⟩
          cases hp : pick1 P ng ops u (i :: is) with
          | none =>
            rw [hp] at e1
            refine .inl fun k hk => ?_
            obtain ⟨s', h3, h4⟩ := e1.1 k hk
            exact ⟨s', h3, e2.2 _ h4⟩
          | some k =>
            rw [hp] at e1
            obtain ⟨p1, p2, p3⟩ := pick1_ok hp
            obtain ⟨s', h3, h4⟩ := e1.1 k (List.mem_singleton.2 rfl)
            exact .inr ⟨k, p1, p2, p3, s', h3, e2.2 _ h4⟩
        · exact e2.1 u e

/-! ### What an operation sees of the slots -/

def opVal (call : CallF) (P : Program) (ng : Nat) (ops : Array Oper) (ts : Slots) (E : EM) (o : Oper) : Option (Value × EM) :=
  if Region.wanted o (yieldL ops ts) then opX call P ng ts o E else some (undef, E)
theorem opStep_val {ts : Slots} {E : EM} {i : Nat} {o : Oper} (ho : ops[i]? = some o) : opStep call P ng ops ts E i = (opVal call P ng ops ts E o).map fun r => (putL ts o.dst r.1, r.2) := by
  unfold opStep opVal
  rw [ho]
  simp only
  split
  · cases opX call P ng ts o E <;> rfl
  · rfl
theorem evT_put {ts : Slots} {dst : Option Tmp} {v : Value} {x : Operand} (h : ∀ d, dst = some d → x ≠ .tmp d) : evT (putL ts dst v) x = evT ts x := by
  cases dst with
  | none => rfl
  | some d =>
    cases x with
    | tmp t =>
      have hne : d ≠ t := fun e => h d rfl (e ▸ rfl)
      exact Slots.get_put_other _ hne _
    | _ => rfl
theorem looks_operand {o : Oper} {x : Operand} {d : Tmp} (hx : x ∈ o.op.operands) (hd : d ∉ o.looksAt ops) : x ≠ .tmp d := by
  intro e
  subst e
  refine hd ?_
  simp only [Oper.looksAt, List.mem_append, List.mem_filterMap]
  exact .inl ⟨.tmp d, by simpa using hx, rfl⟩
theorem wanted_putL {ts : Slots} {dst : Option Tmp} {v : Value} {o : Oper} (h : ∀ d, dst = some d → d ∉ o.looksAt ops) : Region.wanted o (yieldL ops (putL ts dst v)) = Region.wanted o (yieldL ops ts) := by
  unfold Region.wanted
  cases hg : o.guard with
  | none => rfl
  | some p =>
    obtain ⟨g, b⟩ := p
    simp only
    have : yieldL ops (putL ts dst v) g = yieldL ops ts g := by
      cases dst with
      | none => rfl
      | some d =>
        unfold yieldL
        cases hq : (ops[g]?).bind (·.dst) with
        | none => rfl
        | some t =>
          have hne : d ≠ t := by
            intro e
            refine h d rfl ?_
            simp only [Oper.looksAt, hg, hq, List.mem_append]
            exact .inr (by simp [e])
          simp only [putL, Slots.get_put_other _ hne]
    rw [this]
theorem opVal_put {ts : Slots} {E : EM} {dst : Option Tmp} {v : Value} {o : Oper} (h : ∀ d, dst = some d → d ∉ o.looksAt ops) : opVal call P ng ops (putL ts dst v) E o = opVal call P ng ops ts E o := by
  unfold opVal
  rw [wanted_putL h, opX_congr fun x hx => evT_put fun d hd => looks_operand hx (h d hd)]
theorem opV0_congr {ts us : Slots} {o : Oper} (h : ∀ x ∈ o.op.operands, evT ts x = evT us x) : opV0 P ng ts o = opV0 P ng us o := by
  unfold opV0
  have h1 : o.op.operands.toList.all (fun x => isFlat (evT ts x)) = o.op.operands.toList.all (fun x => isFlat (evT us x)) := by
    rw [Bool.eq_iff_iff]
    simp only [List.all_eq_true]
    exact ⟨fun k x hx => by rw [← h x (by simpa using hx)]; exact k x hx, fun k x hx => by rw [h x (by simpa using hx)]; exact k x hx⟩
  have h2 : notSelect o.op = true → pureOp P ts o = pureOp P us o := by
    intro hn
    unfold pureOp
    rw [execOp_congr o (fun cs b he => by rw [he] at hn; simp [notSelect] at hn) h]
  have h3 : (if (o.op.operands.toList.all (fun x => isFlat (evT ts x)) && notSelect o.op) = true then pureOp P ts o else none) =
      (if (o.op.operands.toList.all (fun x => isFlat (evT us x)) && notSelect o.op) = true then pureOp P us o else none) := by
    rw [h1]
    split
    · rename_i hc
      simp only [Bool.and_eq_true] at hc
      exact h2 hc.2
    · rfl
  rw [h3, opS_congr h]
theorem opV_congr {ts us : Slots} {o : Oper} (h : ∀ x ∈ o.op.operands, evT ts x = evT us x) : opV P ng ts o = opV P ng us o := by
  unfold opV; rw [fastV_congr h, fastS_congr h, opV0_congr h]
theorem isGoCall_congr {ts us : Slots} {op : Op} (h : ∀ x ∈ op.operands, evT ts x = evT us x) : isGoCall P ts op = isGoCall P us op := by
  cases op with
  | call c =>
    obtain ⟨callee, args, tys⟩ := c
    cases callee with
    | value f => simp only [isGoCall]; rw [h f (by simp [Op.operands, Call.operands])]
    | _ => rfl
  | _ => rfl
theorem stepV_put {ts : Slots} {dst : Option Tmp} {v : Value} {i : Nat} {o : Oper} (ho : ops[i]? = some o) (h : ∀ d, dst = some d → d ∉ o.looksAt ops) : stepV P ng ops (putL ts dst v) i = stepV P ng ops ts i := by
  unfold stepV
  rw [ho]
  simp only
  rw [wanted_putL h, opV_congr fun x hx => evT_put fun d hd => looks_operand hx (h d hd), isGoCall_congr (P := P) fun x hx => evT_put fun d hd => looks_operand hx (h d hd)]

theorem memFree_ok {ts : Slots} {E E0 E1 : EM} {op : Op} {v : Value} (hm : memFree op = true) (h : opS P ts E0 op = some (v, E1)) : opS P ts E op = some (v, E) := by
  have mp : ∀ {α : Type} {x : Option Value} {E0 E1 : EM}, (x.map fun u => (u, E0)) = some (v, E1) → (x.map fun u => (u, E)) = some (v, E) := by
    intro α x E0 E1 h
    simp only [Option.map_eq_some_iff, Prod.mk.injEq] at h ⊢
    obtain ⟨u, h1, h2, _⟩ := h
    exact ⟨u, h1, h2, trivial⟩
  cases op with
  | move x => simp only [opS, sPick, sAlloc, sLoad, sStore, sNil, sBin, sConv, sLen, sPick, sAlloc, sLoad, sStore, sNil, sBin, sConv, sLen] at h ⊢; cases h; rfl
  | assign x => simp only [opS, sPick, sAlloc, sLoad, sStore, sNil, sBin, sConv, sLen, sPick, sAlloc, sLoad, sStore, sNil, sBin, sConv, sLen] at h ⊢; cases h; rfl
  | pick c a b => simp only [opS, sPick, sAlloc, sLoad, sStore, sNil, sBin, sConv, sLen, sPick, sAlloc, sLoad, sStore, sNil, sBin, sConv, sLen] at h ⊢; split at h <;> cases h; rfl
  | build t ps => simp only [opS, sPick, sAlloc, sLoad, sStore, sNil, sBin, sConv, sLen, sPick, sAlloc, sLoad, sStore, sNil, sBin, sConv, sLen] at h ⊢; exact mp (α := Nat) h
  | nilCheck x => simp only [opS, sPick, sAlloc, sLoad, sStore, sNil, sBin, sConv, sLen, sPick, sAlloc, sLoad, sStore, sNil, sBin, sConv, sLen] at h ⊢; split at h <;> cases h <;> rfl
  | binOp bop t x y yt =>
    simp only [opS, sPick, sAlloc, sLoad, sStore, sNil, sBin, sConv, sLen, sPick, sAlloc, sLoad, sStore, sNil, sBin, sConv, sLen] at h ⊢
    split at h
    · split at h
      · rename_i hc
        rw [if_pos hc]
        simp only [Option.map_eq_some_iff, Prod.mk.injEq] at h ⊢
        obtain ⟨b, h1, h2, _⟩ := h
        exact ⟨b, h1, h2, trivial⟩
      · cases h
    · split at h
      · rename_i hc
        rw [if_pos hc]
        simp only [Option.map_eq_some_iff, Prod.mk.injEq] at h ⊢
        obtain ⟨b, h1, h2, _⟩ := h
        exact ⟨b, h1, h2, trivial⟩
      · cases h
    · cases h
  | makeFunc fn a b =>
    cases fn with
    | func f => simp only [opS, sPick, sAlloc, sLoad, sStore, sNil, sBin, sConv, sLen, sPick, sAlloc, sLoad, sStore, sNil, sBin, sConv, sLen] at h ⊢; cases h; rfl
    | _ => simp [opS] at h
  | makeInterface t x =>
    simp only [opS, sIface] at h ⊢
    split at h <;> cases h <;> rfl
  | fieldAddr s x f => simp only [opS, sPick, sAlloc, sLoad, sStore, sNil, sBin, sConv, sLen, sPick, sAlloc, sLoad, sStore, sNil, sBin, sConv, sLen] at h ⊢; exact mp (α := Nat) h
  | field s x f => simp only [opS, sPick, sAlloc, sLoad, sStore, sNil, sBin, sConv, sLen, sPick, sAlloc, sLoad, sStore, sNil, sBin, sConv, sLen] at h ⊢; exact mp (α := Nat) h
  | indexAddr s x f => simp only [opS, sPick, sAlloc, sLoad, sStore, sNil, sBin, sConv, sLen, sPick, sAlloc, sLoad, sStore, sNil, sBin, sConv, sLen] at h ⊢; exact mp (α := Nat) h
  | extract x i => simp only [opS, sPick, sAlloc, sLoad, sStore, sNil, sBin, sConv, sLen, sPick, sAlloc, sLoad, sStore, sNil, sBin, sConv, sLen] at h ⊢; exact mp (α := Nat) h
  | call c =>
    obtain ⟨callee, args, tys⟩ := c
    cases callee with
    | value f => simp [memFree] at hm
    | invoke r m => simp [memFree] at hm
    | builtin b =>
      cases b <;> try (simp [memFree] at hm; done)
      simp only [opS, sPick, sAlloc, sLoad, sStore, sNil, sBin, sConv, sLen, sPick, sAlloc, sLoad, sStore, sNil, sBin, sConv, sLen] at h ⊢
      split at h
      · split at h <;> cases h; rfl
      · cases h
  | _ => simp [memFree] at hm

theorem opV0_ok {ts : Slots} {v : Value} {o : Oper} (h : opV0 P ng ts o = some v) (E : EM) : opE0 P ng ts o E = some (v, E) := by
  unfold opV0 at h
  unfold opE0
  split at h
  · rename_i hok
    rw [if_pos hok]
    split at h
    · rename_i u hu
      cases h
      rw [hu]
    · rename_i hu
      rw [hu]
      simp only
      split at h
      · rename_i hc
        simp only [Bool.and_eq_true] at hc
        rw [if_pos hc.2]
        split at h
        · rename_i u E2 hs
          cases h
          exact memFree_ok hc.1 hs
        · cases h
      · cases h
  · cases h
theorem opV_ok {ts : Slots} {v : Value} {o : Oper} (h : opV P ng ts o = some v) (E : EM) : opE P ng ts o E = some (v, E) := by
  refine opE_of_opA ?_
  unfold opV at h
  unfold opA
  split at h
  · rename_i u hu
    cases h
    rw [hu]
  · rename_i hu
    rw [hu]
    simp only
    split at h
    · rename_i u E2 hs
      cases h
      split at hs
      · rename_i hm
        unfold fastS at hs ⊢
        split at hs
        · rename_i hf
          rw [if_pos hf, memFree_ok hm hs]
        · cases hs
      · cases hs
    · split at h
      · cases h
      · split at h
        · cases h
        · rename_i hf
          have : fastS P ng ts E o.op = none := by unfold fastS; rw [if_neg hf]
          rw [this]
          exact opV0_ok h E
theorem stepV_ok {ts : Slots} {i : Nat} {v : Value} {o : Oper} (ho : ops[i]? = some o) (h : stepV P ng ops ts i = some v) (E : EM) : opVal call P ng ops ts E o = some (v, E) := by
  unfold stepV at h
  rw [ho] at h
  simp only at h
  unfold opVal
  split at h
  · rename_i hw
    rw [if_pos hw]
    split at h
    · cases h
    · rename_i hd
      split at h
      · rename_i hgo
        cases h
      · rename_i hgo
        have hx : opX0 call P ng ts o E = some (v, E) := by
          unfold opX0
          rw [if_neg hd, opV_ok h E]
        unfold opX
        split
        · rename_i r m args tys hop
          rw [hop] at hgo
          exact absurd rfl hgo
        · rename_i f args tys hop
          have : isGoCall P ts o.op = false := by simpa using hgo
          rw [hop] at this
          simp only [isGoCall] at this
          rw [this]
          simpa using hx
        · exact hx
  · rename_i hw
    rw [if_neg hw]
    cases h; rfl

/-! ### Every order comes to the same -/

def AllO (call : CallF) (P : Program) (ng : Nat) (ops : Array Oper) (F : Slots × EM) : Nat → Array Bool → Slots → EM → Prop
  | 0, listed, ts, E => Region.ready .any ops listed = [] ∧ (ts, E) = F
  | n + 1, listed, ts, E => Region.ready .any ops listed ≠ [] ∧ ∀ i ∈ Region.ready .any ops listed, ∃ ts1 E1, opStep call P ng ops ts E i = some (ts1, E1) ∧ AllO call P ng ops F n (listed.setIfInBounds i true) ts1 E1

theorem AllO.run {F : Slots × EM} : ∀ (n : Nat) {listed : Array Bool} {ts : Slots} {E : EM}, AllO call P ng ops F n listed ts E → ∀ t, runL call P ng ops (Region.linearise.go .any ops n t listed []) ts E = some F
  | 0, listed, ts, E, h, t => by
    obtain ⟨_, h⟩ := h
    simp [Region.linearise.go, runL, h]
  | n + 1, listed, ts, E, h, t => by
    obtain ⟨hne, hall⟩ := h
    simp only [Region.linearise.go]
    change runL call P ng ops (match (Region.ready .any ops listed)[t % (Region.ready .any ops listed).length]? with
      | some i => Region.linearise.go .any ops n (t / (Region.ready .any ops listed).length) (listed.setIfInBounds i true) [i]
      | none => [].reverse) ts E = _
    have hpos : 0 < (Region.ready .any ops listed).length := List.length_pos_iff.2 hne
    have hlt := Nat.mod_lt t hpos
    rw [List.getElem?_eq_getElem hlt]
    simp only
    rw [linearise_go_acc, List.reverse_singleton, List.singleton_append]
    obtain ⟨ts1, E1, h1, h2⟩ := hall _ (List.getElem_mem hlt)
    simp only [runL, h1]
    exact AllO.run n h2 _

theorem free_later {listed : Array Bool} {i j : Nat} (h : Region.free .any ops listed i = true) : Region.free .any ops (listed.setIfInBounds j true) i = true := by
  unfold Region.free at h ⊢
  cases hi : ops[i]? with
  | none => simp [hi] at h
  | some oi =>
    simp only [hi, List.all_eq_true, Bool.or_eq_true] at h ⊢
    intro k hk
    rcases h k hk with (h1 | h1) | h1
    · exact .inl (.inl h1)
    · refine .inl (.inr ?_)
      by_cases hjk : j = k
      · subst hjk
        by_cases hlt : j < listed.size
        · simp [hlt]
        · simp only [Array.getD_eq_getD_getElem?] at h1 ⊢
          rw [Array.getElem?_eq_none (by simpa using hlt)] 
          rfl
      · rw [getD_set_ne true hjk]; exact h1
    · exact .inr h1

theorem setSwap (a : Array Bool) (i j : Nat) : (a.setIfInBounds i true).setIfInBounds j true = (a.setIfInBounds j true).setIfInBounds i true := by
  by_cases h : i = j
  · subst h; rfl
  · exact Array.setIfInBounds_comm _ _ h

theorem putL_comm {ts : Slots} {x y : Option Tmp} (v u : Value) (h : ∀ d, x = some d → y ≠ some d) : putL (putL ts x v) y u = putL (putL ts y u) x v := by
  cases x with
  | none => rfl
  | some d =>
    cases y with
    | none => rfl
    | some e =>
      have hne : d ≠ e := fun he => h d rfl (he ▸ rfl)
      exact Slots.put_comm _ hne _ _

/-- One that may be taken first decides. -/
theorem AllO.first {F : Slots × EM} {i : Nat} {oi : Oper} {v : Value} (hi : ops[i]? = some oi) : ∀ (n : Nat) {listed : Array Bool} {ts : Slots} {E : EM}, i ∈ Region.ready .any ops listed → Region.free .any ops listed i = true →
    stepV P ng ops ts i = some v → AllO call P ng ops F n (listed.setIfInBounds i true) (putL ts oi.dst v) E → AllO call P ng ops F (n + 1) listed ts E
  | n, listed, ts, E, hri, hfree, hv, h => by
    refine ⟨fun e => (by rw [e] at hri; cases hri), fun j hj => ?_⟩
    by_cases hji : j = i
    · subst hji
      refine ⟨_, E, ?_, h⟩
      rw [opStep_val hi, stepV_ok hi hv E]; rfl
    · -- another one first
      have hj' := (mem_ready (md := .any) (ops := ops)).1 hj
      have hri' := (mem_ready (md := .any) (ops := ops)).1 hri
      obtain ⟨hjun, oj, hoj, hjall⟩ := hj'
      have hiun : listed.getD i false = false := by
        have hlt : ¬ listed.getD i false = true := by
          intro e
          have : listed.getD i true = true := by
            simp only [Array.getD_eq_getD_getElem?] at e ⊢
            cases hq : listed[i]? with
            | none => rfl
            | some b => rw [hq] at e; simpa using e
          rw [this] at hri'
          exact absurd hri'.1 (by simp)
        simpa using hlt
      have hap : oi.apart ops oj = true := Region.free_spec hi hfree j oj hoj hji hjun fun e he hb hon => by
        have := hjall e he hb
        rw [hon, hiun] at this
        cases this
      obtain ⟨a1, a2, a3⟩ := Oper.apart_spec hap
      cases n with
      | zero =>
        -- i alone is left: j is none
        have := ready_mono hj hji
        rw [h.1] at this
        cases this
      | succ n =>
        obtain ⟨hne, hall⟩ := h
        obtain ⟨ts2, E2, hs, hrest⟩ := hall j (ready_mono hj hji)
        rw [opStep_val hoj, opVal_put a1] at hs
        simp only [Option.map_eq_some_iff, Prod.mk.injEq] at hs
        obtain ⟨⟨u, E3⟩, hval, hts, hE⟩ := hs
        simp only at hts hE
        subst hts hE
        refine ⟨putL ts oj.dst u, E3, by rw [opStep_val hoj, hval]; rfl, ?_⟩
        refine AllO.first hi n (ready_mono hri (fun e => hji e.symm)) (free_later hfree) (by rw [stepV_put hi a3]; exact hv) ?_
        rw [setSwap, ← putL_comm v u a2]
        exact hrest

theorem layers_ok {E : EM} {recs : List Rec} (hc : Chain call P ng ops E recs) : ∀ (n : Nat) {l : List St} {f : St}, layers P ng ops E recs n l = some f → ∀ s ∈ l, AllO call P ng ops (f.ts, eAt E recs f.j) n s.listed s.ts (eAt E recs s.j)
  | 0, l, f, h, s, hs => by
    match l, h with
    | [a], h =>
      simp only [layers, readyQ_eq] at h
      split at h
      · rename_i hr
        cases h
        simp only [List.mem_singleton] at hs
        subst hs
        exact ⟨hr, rfl⟩
      · cases h
  | n + 1, l, f, h, s, hs => by
    simp only [layers, readyQ_eq] at h
    split at h
    · cases h
    · rename_i l' he
      obtain ⟨hne, hall⟩ := (expandAll_ok he).1 s hs
      rcases hall with hall | ⟨i, hi, hfree, ⟨v, hv⟩, s', h1, h2⟩
      · refine ⟨hne, fun i hi => ?_⟩
        obtain ⟨s', h1, h2⟩ := hall i hi
        obtain ⟨h3, h4⟩ := dpStep_ok hc h1
        refine ⟨_, _, h3, ?_⟩
        have := layers_ok hc n h s' h2
        rwa [h4] at this
      · obtain ⟨h3, h4⟩ := dpStep_ok hc h1
        obtain ⟨_, oi, ho, _⟩ := (mem_ready (md := .any) (ops := ops)).1 hi
        have := layers_ok hc n h s' h2
        rw [h4] at this
        rw [opStep_val ho, stepV_ok ho hv] at h3
        simp only [Option.map_some, Option.some.injEq, Prod.mk.injEq] at h3
        rw [← h3.1, ← h3.2] at this
        exact AllO.first ho n hi hfree hv this

def drawE0 (call : CallF) (P : Program) (ng : Nat) (ops : Array Oper) (ts : Slots) (E : EM) : Option (Slots × EM) :=
  match canon call P ng ops (List.range ops.size) ts E with
  | none => none
  | some recs => match layers P ng ops E recs ops.size [⟨Array.replicate ops.size false, ts, 0⟩] with
    | some f => some (f.ts, eAt E recs f.j)
    | none => none
theorem drawE0_ok {ts ts1 : Slots} {E E1 : EM} (h : drawE0 call P ng ops ts E = some (ts1, E1)) (t : Nat) : runL call P ng ops (Region.linearise .any ops t) ts E = some (ts1, E1) := by
  unfold drawE0 at h
  split at h
  · cases h
  · rename_i recs hc
    split at h
    · rename_i f hf
      cases h
      have := (layers_ok (canon_chain _ hc) ops.size hf _ (List.mem_singleton.2 rfl)).run ops.size t
      cases recs <;> simpa [Region.linearise, eAt] using this
    · cases h

/-! A plan of a region: which operation may be taken next, from the operations alone. -/
theorem opVal_keeps {ts : Slots} {E E1 : EM} {o : Oper} {v : Value} (hk : keepOp o.op = true) (h : opVal call P ng ops ts E o = some (v, E1)) : E1 = E := by
  unfold opVal at h
  split at h
  · rw [opX_other (keep_other hk)] at h
    unfold opX0 at h
    rw [keep_notDefer hk] at h
    simp only [Bool.false_eq_true, if_false] at h
    split at h
    · rename_i r hr
      cases h
      exact opE_keeps hk hr
    · split at h
      · rename_i f args tys hop
        exact absurd hop ((keep_other hk).1 f args tys)
      · cases h
  · cases h; rfl

/-- What stands in 'C' may be done with i left out: nothing besides i can follow. -/
structure Shut (ok : Op → Bool) (ops : Array Oper) (C : Array Bool) (i : Nat) (listed : Array Bool) : Prop where
  size : C.size = listed.size
  stop : ∀ j ∈ Region.ready .any ops C, j = i
  sub : ∀ k, listed.getD k false = true → C.getD k false = true
  keep : ∀ j o, ops[j]? = some o → C.getD j false = true → listed.getD j true = false → ok o.op = true

theorem getD_lt {a : Array Bool} {j : Nat} (h : a.getD j true = false) : j < a.size := by
  simp only [Array.getD_eq_getD_getElem?] at h
  cases hq : a[j]? with
  | none => rw [hq] at h; cases h
  | some b => exact (Array.getElem?_eq_some_iff.1 hq).1
theorem getD_same {a : Array Bool} {j : Nat} (h : j < a.size) (d e : Bool) : a.getD j d = a.getD j e := by
  simp only [Array.getD_eq_getD_getElem?, Array.getElem?_eq_getElem h, Option.getD_some]
theorem Shut.within {ok : Op → Bool} {C listed : Array Bool} {i j : Nat} (h : Shut ok ops C i listed) (hj : j ∈ Region.ready .any ops listed) (hji : j ≠ i) : C.getD j false = true := by
  cases hc : C.getD j false with
  | true => rfl
  | false =>
    obtain ⟨h0, o, ho, hall⟩ := (mem_ready (md := .any) (ops := ops)).1 hj
    have hlt : j < C.size := by rw [h.size]; exact getD_lt h0
    exact absurd (h.stop j ((mem_ready (md := .any) (ops := ops)).2 ⟨by rw [getD_same hlt true false]; exact hc, o, ho, fun e he hb => h.sub _ (hall e he hb)⟩)) hji
theorem Shut.next {ok : Op → Bool} {C listed : Array Bool} {i j : Nat} (h : Shut ok ops C i listed) (hj : j ∈ Region.ready .any ops listed) (hji : j ≠ i) : Shut ok ops C i (listed.setIfInBounds j true) := by
  refine ⟨by simpa using h.size, h.stop, fun k hk => ?_, fun k o ho hc hl => ?_⟩
  · by_cases hkj : k = j
    · subst hkj; exact h.within hj hji
    · rw [getD_set_ne false (fun e => hkj e.symm)] at hk; exact h.sub k hk
  · refine h.keep k o ho hc ?_
    by_cases hkj : k = j
    · subst hkj; exact ((mem_ready (md := .any) (ops := ops)).1 hj).1
    · rwa [getD_set_ne true (fun e => hkj e.symm)] at hl

theorem AllO.firstK {F : Slots × EM} {i : Nat} {oi : Oper} {v : Value} {C : Array Bool} (hi : ops[i]? = some oi) : ∀ (n : Nat) {listed : Array Bool} {ts : Slots} {E : EM}, Shut keepOp ops C i listed → i ∈ Region.ready .any ops listed → Region.free .any ops listed i = true →
    opVal call P ng ops ts E oi = some (v, E) → AllO call P ng ops F n (listed.setIfInBounds i true) (putL ts oi.dst v) E → AllO call P ng ops F (n + 1) listed ts E
  | n, listed, ts, E, hsh, hri, hfree, hv, h => by
    refine ⟨fun e => (by rw [e] at hri; cases hri), fun j hj => ?_⟩
    by_cases hji : j = i
    · subst hji
      refine ⟨_, E, ?_, h⟩
      rw [opStep_val hi, hv]; rfl
    · have hj' := (mem_ready (md := .any) (ops := ops)).1 hj
      have hri' := (mem_ready (md := .any) (ops := ops)).1 hri
      obtain ⟨hjun, oj, hoj, hjall⟩ := hj'
      have hiun : listed.getD i false = false := by rw [getD_same (getD_lt hri'.1) false true]; exact hri'.1
      have hap : oi.apart ops oj = true := Region.free_spec hi hfree j oj hoj hji hjun fun e he hb hon => by
        have := hjall e he hb
        rw [hon, hiun] at this
        cases this
      obtain ⟨a1, a2, a3⟩ := Oper.apart_spec hap
      have hkj := hsh.keep j oj hoj (hsh.within hj hji) hjun
      cases n with
      | zero =>
        have := ready_mono hj hji
        rw [h.1] at this
        cases this
      | succ n =>
        obtain ⟨hne, hall⟩ := h
        obtain ⟨ts2, E2, hs, hrest⟩ := hall j (ready_mono hj hji)
        rw [opStep_val hoj, opVal_put a1] at hs
        simp only [Option.map_eq_some_iff, Prod.mk.injEq] at hs
        obtain ⟨⟨u, E3⟩, hval, hts, hE⟩ := hs
        simp only at hts hE
        subst hts hE
        have hE3 := opVal_keeps hkj hval
        subst hE3
        refine ⟨putL ts oj.dst u, E3, by rw [opStep_val hoj, hval]; rfl, ?_⟩
        refine AllO.firstK hi n (hsh.next hj hji) (ready_mono hri (fun e => hji e.symm)) (free_later hfree) (by rw [opVal_put a3]; exact hv) ?_
        rw [setSwap, ← putL_comm v u a2]
        exact hrest

/-- Operations that add a block, and do nothing else. -/
def growOp : Op → Bool
  | .alloc _ | .box .. | .buildSlice .. => true
  | _ => false
def mildOp (op : Op) : Bool := keepOp op || growOp op
def isLoad : Op → Bool
  | .load .. => true
  | .lookup .. => true
  | _ => false
theorem opS_grows {ts : Slots} {E E1 : EM} {op : Op} {v : Value} (hk : growOp op = true) (h : opS P ts E op = some (v, E1)) : ∃ b, E1 = E.push b := by
  cases op <;> simp [growOp] at hk
  · simp only [opS, sAlloc] at h
    split at h
    · cases h; exact ⟨_, rfl⟩
    · cases h
  · simp only [opS] at h
    cases h; exact ⟨_, rfl⟩
  · simp only [opS, buildSliceE] at h
    split at h
    · split at h
      · split at h
        · cases h
        · split at h
          · cases h; exact ⟨_, rfl⟩
          · cases h
      · cases h
    · cases h
theorem opU_grow {ts : Slots} {E : EM} {o : Oper} (hk : growOp o.op = true) : opU P ng ts o E = none := by
  obtain ⟨dst, op, type, pos, after, guard⟩ := o
  unfold opU
  cases op <;> simp [growOp] at hk <;> simp
theorem opE_grows {ts : Slots} {E E1 : EM} {o : Oper} {v : Value} (hk : growOp o.op = true) (h : opE P ng ts o E = some (v, E1)) : E1 = E ∨ ∃ b, E1 = E.push b := by
  have h : opA P ng ts o E = some (v, E1) := by
    unfold opE at h
    split at h
    · rename_i r hr; cases h; exact hr
    · rw [opU_grow hk] at h; cases h
  unfold opA at h
  split at h
  · cases h; exact .inl rfl
  · split at h
    · rename_i r hr
      cases h
      unfold fastS at hr
      split at hr
      · exact .inr (opS_grows hk hr)
      · cases hr
    · unfold opE0 at h
      split at h
      · split at h
        · cases h; exact .inl rfl
        · split at h
          · exact .inr (opS_grows hk h)
          · cases h
      · cases h
theorem opX_plain {ts : Slots} {E E1 : EM} {o : Oper} {v : Value} (hk : isDefer o.op = false) (hc : NotX o.op) : opX call P ng ts o E = some (v, E1) ↔ opE P ng ts o E = some (v, E1) := by
  rw [opX_other hc]
  unfold opX0
  rw [hk]
  simp only [Bool.false_eq_true, if_false]
  constructor
  · intro h
    split at h
    · rename_i r hr; cases h; exact hr
    · first
      | cases h
      | (split at h
         · rename_i f args tys hop; exact absurd hop (hc.1 f args tys)
         · cases h)
  · intro h
    rw [h]
theorem opVal_mild {ts : Slots} {E E1 : EM} {o : Oper} {v : Value} (hk : mildOp o.op = true) (h : opVal call P ng ops ts E o = some (v, E1)) : E1 = E ∨ ∃ b, E1 = E.push b := by
  unfold mildOp at hk
  cases hkk : keepOp o.op with
  | true => exact .inl (opVal_keeps hkk h)
  | false =>
    rw [hkk, Bool.false_or] at hk
    unfold opVal at h
    split at h
    · exact opE_grows hk ((opX_plain (by revert hk; cases o.op <;> simp [growOp, isDefer]) ⟨by intro f args tys e; rw [e] at hk; simp [growOp] at hk, by intro r m args tys e; rw [e] at hk; simp [growOp] at hk⟩).1 h)
    · cases h; exact .inl rfl
theorem cellsAt_push {E : EM} {a : Addr} {n : Nat} {cs : List Value} (b : EB) (h : cellsAt E a n = some cs) : cellsAt (E.push b) a n = some cs := by
  rw [cellsAt_def] at h ⊢
  by_cases he : a.block = E.n
  · have hd : E.get a.block = .dead := by rw [EM.get_eq, if_neg (by omega)]
    rw [hd] at h; cases h
  · rw [EM.get_push_old b he]; exact h
theorem loadE_push {E : EM} {t : TypeId} {a : Addr} {v : Value} (b : EB) (h : loadE P E t a = some v) : loadE P (E.push b) t a = some v := by
  unfold loadE at h ⊢
  split
  · rename_i i h1 h2
    rw [h1, h2] at h
    simp only [Option.map_eq_some_iff] at h ⊢
    obtain ⟨cs, hc, rfl⟩ := h
    exact ⟨cs, cellsAt_push b hc, rfl⟩
  · rename_i h1
    rw [h1] at h
    simp only at h
    cases hc : cellsAt E a 1 with
    | none => rw [hc] at h; cases h
    | some cs => rw [hc] at h; rw [cellsAt_push b hc]; exact h
  · rename_i h1 h2
    split at h
    · rename_i i h3 h4; exact absurd h4 (h2 i h3)
    · rename_i h3; exact absurd h3 h1
    · cases h
theorem opS_load {ts : Slots} {E : EM} {t : TypeId} {x : Operand} {r : Value × EM} (b : EB) (h : opS P ts E (.load t x) = some r) : opS P ts (E.push b) (.load t x) = some (r.1, E.push b) := by
  simp only [opS, sLoad] at h ⊢
  split at h
  · rename_i a ha
    simp only [Option.map_eq_some_iff] at h ⊢
    obtain ⟨v, hv, rfl⟩ := h
    exact ⟨v, loadE_push b hv, rfl⟩
  · cases h
theorem opVal_load1 {ts : Slots} {E : EM} {o : Oper} {v : Value} (b : EB) (hk : ∃ t x, o.op = .load t x) (h : opVal call P ng ops ts E o = some (v, E)) : opVal call P ng ops ts (E.push b) o = some (v, E.push b) := by
  obtain ⟨dst, op, type, pos, after, guard⟩ := o
  obtain ⟨t, x, hk⟩ := hk
  simp only at hk
  subst hk
  unfold opVal at h ⊢
  split
  · rename_i hw
    rw [if_pos hw] at h
    have h := (opX_plain rfl ⟨(by intro f args tys e; cases e), (by intro r m args tys e; cases e)⟩).1 h
    refine (opX_plain rfl ⟨(by intro f args tys e; cases e), (by intro r m args tys e; cases e)⟩).2 (opE_of_opA ?_)
    have h : opA P ng ts ⟨dst, .load t x, type, pos, after, guard⟩ E = some (v, E) := by
      unfold opE at h
      split at h
      · rename_i r hr; cases h; exact hr
      · rw [opU_load rfl] at h; cases h
    unfold opA at h ⊢
    simp only [fastV] at h ⊢
    unfold fastS at h ⊢
    by_cases hf : fastOK P ng (.load t x) = true
    · simp only [hf, if_true] at h ⊢
      split at h
      · rename_i r hr
        cases h
        rw [opS_load b hr]
      · rename_i hn
        unfold opE0 at h ⊢
        simp only at h ⊢
        split at h
        · rename_i hok
          simp only [hok, if_true]
          cases hsn : opS P ts (E.push b) (.load t x) with
          | some r =>
            -- a pure value there would be no pointer
            split at h
            · rename_i u hu
              cases h
              exfalso
              simp only [opS, sLoad] at hsn
              split at hsn
              · rename_i a ha
                split at hu
                · rename_i hfl
                  simp only [Bool.and_eq_true, List.all_eq_true] at hfl
                  have := hfl.1 x (by simp [Op.operands])
                  rw [ha] at this
                  simp [isFlat, isScalar] at this
                · cases hu
              · cases hsn
            · split at h
              · rw [hn] at h; cases h
              · cases h
          | none =>
            simp only
            split at h
            · rename_i u hu
              cases h
              first | rfl | rw [hu]
            · split at h
              · rw [hn] at h; cases h
              · cases h
        · cases h
    · simp only [hf] at h ⊢
      unfold opE0 at h ⊢
      simp only [Bool.false_eq_true, if_false] at h ⊢
      split at h
      · rename_i hok
        simp only [hok, if_true]
        split at h
        · rename_i u hu
          cases h
          first | rfl | rw [hu]
        · rename_i hu
          first | rw [hu] | skip
          try simp only
          split at h
          · rename_i hl
            rw [if_pos hl]
            exact opS_load b h
          · cases h
      · cases h
  · rename_i hw
    rw [if_neg hw] at h
    cases h; rfl

/-- A look into a map, with one block more. -/
theorem opVal_lookup {ts : Slots} {E : EM} {dst : Option Tmp} {t : TypeId} {x i : Operand} {ok : Bool} {type : TypeId} {pos : String} {after : Array Edge} {guard : Option (Nat × Bool)} {v : Value} (b : EB)
    (h : opVal call P ng ops ts E ⟨dst, .lookup t x i ok, type, pos, after, guard⟩ = some (v, E)) : opVal call P ng ops ts (E.push b) ⟨dst, .lookup t x i ok, type, pos, after, guard⟩ = some (v, E.push b) := by
  unfold opVal at h ⊢
  split
  · rename_i hw
    rw [if_pos hw] at h
    have h := (opX_plain rfl ⟨(by intro f args tys e; cases e), (by intro r m args tys e; cases e)⟩).1 h
    refine (opX_plain rfl ⟨(by intro f args tys e; cases e), (by intro r m args tys e; cases e)⟩).2 ?_
    have hA : ∀ F : EM, opA P ng ts ⟨dst, .lookup t x i ok, type, pos, after, guard⟩ F = (opA P ng ts ⟨dst, .lookup t x i ok, type, pos, after, guard⟩ E).map fun r => (r.1, F) := by
      intro F
      unfold opA opE0
      simp only [fastV, fastS, fastOK, Bool.false_eq_true, if_false, opS]
      split
      · split
        · rfl
        · split <;> rfl
      · rfl
    unfold opE at h ⊢
    rw [hA (E.push b)]
    split at h
    · rename_i r hr
      cases h
      rw [hr]
      rfl
    · rename_i hr
      rw [hr]
      simp only [Option.map_none]
      unfold opU at h ⊢
      split at h
      · rename_i hok
        rw [if_pos hok]
        simp only at h ⊢
        split at h
        · rename_i r hl
          cases h
          rw [uLookup_push b (uLookup_there hl), hl]
          rfl
        · rename_i hl
          rw [uLookup_push b (uLookupX_there h), hl, uLookupX_push b (uLookupX_there h), h]
          rfl
      · cases h
  · rename_i hw
    rw [if_neg hw] at h
    cases h; rfl
theorem opVal_load {ts : Slots} {E : EM} {o : Oper} {v : Value} (b : EB) (hk : isLoad o.op = true) (h : opVal call P ng ops ts E o = some (v, E)) : opVal call P ng ops ts (E.push b) o = some (v, E.push b) := by
  obtain ⟨dst, op, type, pos, after, guard⟩ := o
  cases op <;> simp [isLoad] at hk
  · exact opVal_load1 b ⟨_, _, rfl⟩ h
  · exact opVal_lookup b h

theorem AllO.firstL {F : Slots × EM} {i : Nat} {oi : Oper} {v : Value} {C : Array Bool} (hi : ops[i]? = some oi) (hload : isLoad oi.op = true) : ∀ (n : Nat) {listed : Array Bool} {ts : Slots} {E : EM}, Shut mildOp ops C i listed → i ∈ Region.ready .any ops listed → Region.free .any ops listed i = true →
    opVal call P ng ops ts E oi = some (v, E) → AllO call P ng ops F n (listed.setIfInBounds i true) (putL ts oi.dst v) E → AllO call P ng ops F (n + 1) listed ts E
  | n, listed, ts, E, hsh, hri, hfree, hv, h => by
    refine ⟨fun e => (by rw [e] at hri; cases hri), fun j hj => ?_⟩
    by_cases hji : j = i
    · subst hji
      refine ⟨_, E, ?_, h⟩
      rw [opStep_val hi, hv]; rfl
    · have hj' := (mem_ready (md := .any) (ops := ops)).1 hj
      have hri' := (mem_ready (md := .any) (ops := ops)).1 hri
      obtain ⟨hjun, oj, hoj, hjall⟩ := hj'
      have hiun : listed.getD i false = false := by rw [getD_same (getD_lt hri'.1) false true]; exact hri'.1
      have hap : oi.apart ops oj = true := Region.free_spec hi hfree j oj hoj hji hjun fun e he hb hon => by
        have := hjall e he hb
        rw [hon, hiun] at this
        cases this
      obtain ⟨a1, a2, a3⟩ := Oper.apart_spec hap
      have hkj := hsh.keep j oj hoj (hsh.within hj hji) hjun
      cases n with
      | zero =>
        have := ready_mono hj hji
        rw [h.1] at this
        cases this
      | succ n =>
        obtain ⟨hne, hall⟩ := h
        obtain ⟨ts2, E2, hs, hrest⟩ := hall j (ready_mono hj hji)
        rw [opStep_val hoj, opVal_put a1] at hs
        simp only [Option.map_eq_some_iff, Prod.mk.injEq] at hs
        obtain ⟨⟨u, E3⟩, hval, hts, hE⟩ := hs
        simp only at hts hE
        subst hts hE
        refine ⟨putL ts oj.dst u, E3, by rw [opStep_val hoj, hval]; rfl, ?_⟩
        have hv3 : opVal call P ng ops (putL ts oj.dst u) E3 oi = some (v, E3) := by
          rw [opVal_put a3]
          rcases opVal_mild hkj hval with hE3 | ⟨b, hE3⟩
          · rw [hE3]; exact hv
          · rw [hE3]; exact opVal_load b hload hv
        refine AllO.firstL hi hload n (hsh.next hj hji) (ready_mono hri (fun e => hji e.symm)) (free_later hfree) hv3 ?_
        rw [setSwap, ← putL_comm v u a2]
        exact hrest

def growC (ops : Array Oper) (i : Nat) : Nat → Array Bool → Array Bool
  | 0, C => C
  | n + 1, C => match (readyQ ops C).find? (fun j => !(j == i)) with
    | some j => growC ops i n (C.setIfInBounds j true)
    | none => C
def shutC (ok : Op → Bool) (ops : Array Oper) (C : Array Bool) (i : Nat) (listed : Array Bool) : Bool :=
  C.size == listed.size && ((readyQ ops C).all (fun j => j == i) && ((List.range listed.size).all (fun k => !(listed.getD k false) || C.getD k false) &&
    (List.range ops.size).all fun j => match ops[j]? with
      | some o => !(C.getD j false) || (listed.getD j true || ok o.op)
      | none => true))
theorem shutC_ok {ok : Op → Bool} {C listed : Array Bool} {i : Nat} (h : shutC ok ops C i listed = true) : Shut ok ops C i listed := by
  simp only [shutC, readyQ_eq, Bool.and_eq_true, beq_iff_eq, List.all_eq_true, List.mem_range] at h
  obtain ⟨h1, h2, h3, h4⟩ := h
  refine ⟨h1, h2, fun k hk => ?_, fun j o ho hc hl => ?_⟩
  · have hlt : k < listed.size := by
      simp only [Array.getD_eq_getD_getElem?] at hk
      cases hq : listed[k]? with
      | none => rw [hq] at hk; cases hk
      | some b => exact (Array.getElem?_eq_some_iff.1 hq).1
    have := h3 k hlt
    simpa [hk] using this
  · have := h4 j (Array.getElem?_eq_some_iff.1 ho).1
    rw [ho] at this
    simpa [hc, hl] using this

/-- Operations that ask no memory. -/
def valueOp (P : Program) (op : Op) : Bool := memFree op || (match op with
  | .binOp .. | .index .. | .unOp .. => true
  | .slice t _ _ _ none => match P.underlying t with
    | some .string => true
    | _ => false
  | _ => false)
def pickP (op : Op) : Op → Bool := if isLoad op then mildOp else keepOp
inductive Pick where
  | sole (i : Nat)
  | first (i : Nat)
  | keep (i : Nat)
def pickB (P : Program) (ops : Array Oper) (listed : Array Bool) : List Nat → Option Pick
  | [] => none
  | i :: r => if freeQ ops listed i then
      (match ops[i]? with
      | some o => if valueOp P o.op then some (.first i) else if keepOp o.op && shutC (pickP o.op) ops (growC ops i ops.size listed) i listed then some (.keep i) else pickB P ops listed r
      | none => none)
    else pickB P ops listed r
def Pick.at : Pick → Nat
  | .sole i | .first i | .keep i => i
def planB (P : Program) (ops : Array Oper) : Nat → Array Bool → Option (List Pick)
  | 0, listed => if readyQ ops listed = [] then some [] else none
  | n + 1, listed => match readyQ ops listed with
    | [] => none
    | [i] => match planB P ops n (listed.setIfInBounds i true) with
      | some l => some (.sole i :: l)
      | none => none
    | i :: j :: r => match pickB P ops listed (i :: j :: r) with
      | some k => match planB P ops n (listed.setIfInBounds k.at true) with
        | some l => some (k :: l)
        | none => none
      | none => none
def runPlan (call : CallF) (P : Program) (ng : Nat) (ops : Array Oper) (l : List Pick) : Slots → EM → Option (Slots × EM) :=
  List.rec (motive := fun _ => Slots → EM → Option (Slots × EM)) (fun ts E => some (ts, E)) (fun p _ ih ts E => match p with
    | .first i => match ops[i]? with
      | some o => match stepV P ng ops ts i with
        | some v => ih (putL ts o.dst v) E
        | none => none
      | none => none
    | .keep i => match ops[i]? with
      | some o => match opVal call P ng ops ts E o with
        | some (v, _) => ih (putL ts o.dst v) E
        | none => none
      | none => none
    | .sole i => match opStep call P ng ops ts E i with
      | some (ts1, E1) => ih ts1 E1
      | none => none) l
theorem pickB_ok {listed : Array Bool} {k : Pick} : ∀ {l : List Nat}, pickB P ops listed l = some k → k.at ∈ l ∧ Region.free .any ops listed k.at = true ∧ (∀ i, k ≠ .sole i) ∧
    (∀ i, k = .keep i → ∃ o, ops[i]? = some o ∧ keepOp o.op = true ∧ Shut (pickP o.op) ops (growC ops i ops.size listed) i listed)
  | [], h => by simp [pickB] at h
  | i :: r, h => by
    simp only [pickB] at h
    have later : pickB P ops listed r = some k → _ := fun h => by
      obtain ⟨h1, h2, h3, h4⟩ := pickB_ok h
      exact (⟨List.mem_cons_of_mem _ h1, h2, h3, h4⟩ : k.at ∈ i :: r ∧ Region.free .any ops listed k.at = true ∧ (∀ i, k ≠ .sole i) ∧
        (∀ i, k = .keep i → ∃ o, ops[i]? = some o ∧ keepOp o.op = true ∧ Shut (pickP o.op) ops (growC ops i ops.size listed) i listed))
    split at h
    · rename_i hf
      have hf := freeQ_ok hf
      split at h
      · rename_i o ho
        split at h
        · cases h
          refine ⟨List.mem_cons_self .., hf, ?_, ?_⟩
          · intro i e; cases e
          · intro i e; cases e
        · split at h
          · rename_i hk
            cases h
            simp only [Bool.and_eq_true] at hk
            refine ⟨List.mem_cons_self .., hf, ?_, ?_⟩
            · intro i e; cases e
            · intro i e; cases e; exact ⟨o, ho, hk.1, shutC_ok hk.2⟩
          · exact later h
      · cases h
    · exact later h
theorem runPlan_ok {F : Slots × EM} : ∀ (n : Nat) {listed : Array Bool} {l : List Pick} {ts : Slots} {E : EM}, planB P ops n listed = some l → runPlan call P ng ops l ts E = some F → AllO call P ng ops F n listed ts E
  | 0, listed, l, ts, E, hp, h => by
    simp only [planB, readyQ_eq] at hp
    split at hp
    · rename_i hr
      cases hp
      exact ⟨hr, by cases h; rfl⟩
    · cases hp
  | n + 1, listed, l, ts, E, hp, h => by
    simp only [planB, readyQ_eq] at hp
    split at hp
    · cases hp
    · rename_i i hr
      split at hp
      · rename_i l1 h1
        cases hp
        refine ⟨by rw [hr]; simp, fun k hk => ?_⟩
        rw [hr] at hk
        have hk := List.mem_singleton.1 hk
        subst hk
        have h : (match opStep call P ng ops ts E k with
          | some (ts1, E1) => runPlan call P ng ops l1 ts1 E1
          | none => none) = some F := h
        split at h
        · rename_i ts1 E1 hs
          exact ⟨ts1, E1, hs, runPlan_ok n h1 h⟩
        · cases h
      · cases hp
    · rename_i i j r hr
      split at hp
      · rename_i k hk
        obtain ⟨hmem, hfree, hns, hkeep⟩ := pickB_ok hk
        rw [← hr] at hmem
        split at hp
        · rename_i l1 h1
          cases hp
          cases k with
          | sole i => exact absurd rfl (hns i)
          | first k =>
            have h : (match ops[k]? with
              | some o => match stepV P ng ops ts k with
                | some v => runPlan call P ng ops l1 (putL ts o.dst v) E
                | none => none
              | none => none) = some F := h
            split at h
            · rename_i o ho
              split at h
              · rename_i v hv
                exact AllO.first ho n hmem hfree hv (runPlan_ok n h1 h)
              · cases h
            · cases h
          | keep k =>
            have h : (match ops[k]? with
              | some o => match opVal call P ng ops ts E o with
                | some (v, _) => runPlan call P ng ops l1 (putL ts o.dst v) E
                | none => none
              | none => none) = some F := h
            obtain ⟨o, ho, hko, hsh⟩ := hkeep k rfl
            rw [ho] at h
            simp only at h
            split at h
            · rename_i v E2 hv
              have hE := opVal_keeps hko hv
              subst hE
              unfold pickP at hsh
              split at hsh
              · rename_i hlo
                exact AllO.firstL ho hlo n hsh hmem hfree hv (runPlan_ok n h1 h)
              · exact AllO.firstK ho n hsh hmem hfree hv (runPlan_ok n h1 h)
            · cases h
        · cases hp
      · cases hp
def drawE (call : CallF) (P : Program) (ng : Nat) (ops : Array Oper) (ts : Slots) (E : EM) : Option (Slots × EM) :=
  match planB P ops ops.size (Array.replicate ops.size false) with
  | some l => match runPlan call P ng ops l ts E with
    | some r => some r
    | none => drawE0 call P ng ops ts E
  | none => drawE0 call P ng ops ts E
theorem drawE_ok {ts ts1 : Slots} {E E1 : EM} (h : drawE call P ng ops ts E = some (ts1, E1)) (t : Nat) : runL call P ng ops (Region.linearise .any ops t) ts E = some (ts1, E1) := by
  unfold drawE at h
  split at h
  · rename_i l hl
    split at h
    · rename_i r hr
      cases h
      exact (runPlan_ok ops.size hl hr).run ops.size t
    · exact drawE0_ok h t
  · exact drawE0_ok h t

end
end
end Go.Eng
