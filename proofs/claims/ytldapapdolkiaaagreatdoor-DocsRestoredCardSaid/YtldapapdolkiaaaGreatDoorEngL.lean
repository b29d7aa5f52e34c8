/-
  A CLOSED RUN, HELD AGAINST THE MODEL (11): regions: in the order of the text, and in every order that the edges allow.
-/
import Derived.Test.YtldapapdolkiaaaGreatDoorEngU
import Derived.Test.YtldapapdolkiaaaGreatDoorEngS
namespace Go.Eng
noncomputable section
set_option linter.unusedVariables false
set_option linter.unusedSimpArgs false
abbrev jBG:=Value→List Value→EM→Option (Value × EM)
def jCn (ts:Slots)(dst:Option Tmp)(v:Value):Slots :=
 match dst with
 | some d=>ts.put d v
 | none=>ts
def jCZ (ops:Array Oper)(ts:Slots)(j:Nat):Option Bool :=
 match (ops[j]?).bind (·.dst) with
 | some d=>match ts.get d with
   | .bool b=>some b
   | _=>none
 | none=>none
def jCe:Op→Bool
 | .defer _=>true
 | _=>false
def jRo (call:jBG)(P:Program)(ng:Nat)(ts:Slots)(o:Oper)(E:EM):Option (Value × EM) :=
 if jCe o.op then none else
 match opE P ng ts o E with
 | some r=>some r
 | none=>match o.op with
   | .call ⟨.value f,args,_⟩=>if o.op.operands.toList.all (okX ng) then call (evT ts f) (args.toList.map (evT ts)) E else none
   | _=>none
def isGo (P:Program):Value→Bool
 | .func (.func g) _ _=>match P.funcs[g]? with
   | some fn=>fn.body.isSome
   | none=>false
 | .func (.yield _) _ _=>true
 | _=>false
def jOy (P:Program)(t:TypeId)(name:String):Option FuncId :=
 match P.info? t with
 | some i=>match i.methods.find? (·.name == name) with
   | some m=>if m.path.isEmpty then (match m.func with
     | some (f,pr)=>match P.underlying t with
       | some (.pointer _)=>if pr then some f else none
       | some _=>if pr then none else some f
       | none=>none
     | none=>none) else none
   | none=>none
 | none=>none
def invX (call:jBG)(P:Program)(ng:Nat)(ts:Slots)(E:EM)(r:Operand)(m:String)(args:Array Operand):Option (Value × EM) :=
 if okX ng r && okL ng args.toList then
  match evT ts r with
  | .iface t v=>match jOy P t m with
    | some f=>call (.func (.func f) #[] #[]) (v :: args.toList.map (evT ts)) E
    | none=>none
  | _=>none
 else none
def opX (call:jBG)(P:Program)(ng:Nat)(ts:Slots)(o:Oper)(E:EM):Option (Value × EM) :=
 match o.op with
 | .call ⟨.invoke r m,args,_⟩=>invX call P ng ts E r m args
 | .call ⟨.value f,args,_⟩=>if isGo P (evT ts f) && okX ng f && okL ng args.toList then call (evT ts f) (args.toList.map (evT ts)) E else jRo call P ng ts o E
 | _=>jRo call P ng ts o E
theorem jQq {call:jBG}{P:Program}{ng:Nat}{ts us:Slots}{E:EM}{o:Oper}(h:∀x ∈ o.op.operands,evT ts x=evT us x):jRo call P ng ts o E=jRo call P ng us o E:=by
 obtain⟨dst,op,type,pos,after,guard⟩:=o
 unfold jRo
 rw[jTM h]
 simp only at h ⊢
 cases op with
 | call c =>
   obtain⟨callee,args,tys⟩:=c
   cases callee with
   | value f =>
     simp only
     have ha:args.toList.map (evT ts)=args.toList.map (evT us):=List.map_congr_left fun x hx=>h x (by simp[Op.operands,Call.operands];exact .inr (by simpa using hx))
     rw[ha,h f (by simp[Op.operands,Call.operands])]
   | _=>rfl
 | _=>rfl
theorem jIB {call:jBG}{P:Program}{ng:Nat}{ts us:Slots}{E:EM}{o:Oper}(h:∀x ∈ o.op.operands,evT ts x=evT us x):opX call P ng ts o E=opX call P ng us o E:=by
 unfold opX
 rw[jQq h]
 split
 ·rename_i r m args tys hop
  rw[hop]at h
  have ha:args.toList.map (evT ts)=args.toList.map (evT us):=List.map_congr_left fun x hx=>h x (by simp[Op.operands,Call.operands];exact .inr (by simpa using hx))
  unfold invX
  rw[ha,h r (by simp[Op.operands,Call.operands])]
 ·rename_i f args tys hop
  rw[hop]at h
  have ha:args.toList.map (evT ts)=args.toList.map (evT us):=List.map_congr_left fun x hx=>h x (by simp[Op.operands,Call.operands];exact .inr (by simpa using hx))
  rw[ha,h f (by simp[Op.operands,Call.operands])]
 ·rfl
def NotX (op:Op):Prop:=(∀f args tys,op≠.call ⟨.value f,args,tys⟩)∧∀r m args tys,op≠.call ⟨.invoke r m,args,tys⟩
theorem jIU {call:jBG}{P:Program}{ng:Nat}{ts:Slots}{o:Oper}{E:EM}(h:NotX o.op):opX call P ng ts o E=jRo call P ng ts o E:=by
 unfold opX
 split
 ·rename_i r m args tys hop
  exact absurd hop (h.2 r m args tys)
 ·rename_i f args tys hop
  exact absurd hop (h.1 f args tys)
 ·rfl
theorem jGL {op:Op}(h:jBw op=true):NotX op:=by
 constructor
 ·intro f args tys e
  rw[e]at h
  simp[jBw]at h
 ·intro r m args tys e
  rw[e]at h
  simp[jBw]at h
def jCE (call:jBG)(P:Program)(ng:Nat)(ops:Array Oper)(ts:Slots)(E:EM)(i:Nat):Option (Slots × EM) :=
 match ops[i]? with
 | none=>none
 | some o =>
   if Region.wanted o (jCZ ops ts) then
    match opX call P ng ts o E with
    | some (v,E1)=>some (jCn ts o.dst v,E1)
    | none=>none
   else some (jCn ts o.dst undef,E)
def jPI (call:jBG)(P:Program)(ng:Nat)(ops:Array Oper):List Nat→Slots→EM→Option (Slots × EM)
 | [],ts,E=>some (ts,E)
 | i :: r,ts,E=>match jCE call P ng ops ts E i with
   | some (ts1,E1)=>jPI call P ng ops r ts1 E1
   | none=>none
def jJl (call:jBG)(P:Program)(ng:Nat)(ops:Array Oper)(ts:Slots)(E:EM)(o:Oper):Option (Slots × EM) :=
 if Region.wanted o (jCZ ops ts) then
  match opX call P ng ts o E with
  | some (v,E1)=>some (jCn ts o.dst v,E1)
  | none=>none
 else some (jCn ts o.dst undef,E)
def jZv (call:jBG)(P:Program)(ng:Nat)(ops:Array Oper)(l:List Oper):Slots→EM→Option (Slots × EM) :=
 List.rec (motive:=fun _=>Slots→EM→Option (Slots × EM)) (fun ts E=>some (ts,E)) (fun o _ ih ts E=>match jJl call P ng ops ts E o with
  | some (ts1,E1)=>ih ts1 E1
  | none=>none) l
theorem jRU {call:jBG}{P:Program}{ng:Nat}{ops:Array Oper}:∀ (l:List Oper) (k:Nat) (ts:Slots) (E:EM),ops.toList.drop k=l→jZv call P ng ops l ts E=jPI call P ng ops (List.range' k l.length) ts E
 | [],_,_,_,_=>rfl
 | o :: r,k,ts,E,h=>by
   have ho:ops[k]? = some o:=by
    have:=congrArg List.head? h
    rw[List.head?_drop]at this
    simpa using this
   have hr:ops.toList.drop (k+1)=r:=by
    have:=congrArg List.tail h
    simpa using this
   have hs:jCE call P ng ops ts E k=jJl call P ng ops ts E o:=by
    unfold jCE
    rw[ho]
    rfl
   show (match jJl call P ng ops ts E o with
    | some (ts1,E1)=>jZv call P ng ops r ts1 E1
    | none=>none)=(match jCE call P ng ops ts E k with
    | some (ts1,E1)=>jPI call P ng ops (List.range' (k+1) r.length) ts1 E1
    | none=>none)
   rw[hs]
   cases jJl call P ng ops ts E o with
   | none=>rfl
   | some q=>exact jRU r (k+1) q.1 q.2 hr
theorem jQ9 {call:jBG}{P:Program}{ng:Nat}{ops:Array Oper}(ts:Slots)(E:EM):jZv call P ng ops ops.toList ts E=jPI call P ng ops (List.range ops.size) ts E:=by
 rw[jRU ops.toList 0 ts E rfl,List.range_eq_range']
 rfl
/-! ### Every order -/
structure Rec where
 i:Nat
 ts:Slots
 v:Value
 E:EM
def canon (call:jBG)(P:Program)(ng:Nat)(ops:Array Oper):List Nat→Slots→EM→Option (List Rec)
 | [],_,_=>some []
 | i :: r,ts,E =>
   match ops[i]? with
   | none=>none
   | some o =>
     if Region.wanted o (jCZ ops ts) then
      match opX call P ng ts o E with
      | some (v,E1) =>
        if jBw o.op then canon call P ng ops r (jCn ts o.dst v) E
        else match canon call P ng ops r (jCn ts o.dst v) E1 with
         | some l=>some (⟨i,ts,v,E1⟩ :: l)
         | none=>none
      | none=>none
     else canon call P ng ops r (jCn ts o.dst undef) E
def Chain (call:jBG)(P:Program)(ng:Nat)(ops:Array Oper):EM→List Rec→Prop
 | _,[]=>True
 | E,r :: l=>(∃o,ops[r.i]? = some o∧opX call P ng r.ts o E=some (r.v,r.E))∧Chain call P ng ops r.E l
section
variable {call:jBG} {P:Program} {ng:Nat} {ops:Array Oper}
theorem jEA:∀ (l:List Nat) {ts:Slots} {E:EM} {rs:List Rec},canon call P ng ops l ts E=some rs→Chain call P ng ops E rs
 | [],ts,E,rs,h=>by simp[canon]at h;subst h;trivial
 | i :: r,ts,E,rs,h=>by
   simp only[canon]at h
   split at h
   ·cases h
   ·rename_i o ho
    split at h
    ·split at h
     ·rename_i v E1 hx
      split at h
      ·exact jEA r h
      ·split at h
       ·rename_i l hl
        cases h
        exact⟨⟨o,ho,hx⟩,jEA r hl⟩
       ·cases h
     ·cases h
    ·exact jEA r h
def eAt (E:EM):List Rec→Nat→EM
 | _,0=>E
 | [],_+1=>E
 | r :: l,j+1=>eAt r.E l j
theorem jO0:∀ {l:List Rec} {E:EM} {j:Nat} {r:Rec},Chain call P ng ops E l→l[j]? = some r →
  (∃o,ops[r.i]? = some o∧opX call P ng r.ts o (eAt E l j)=some (r.v,r.E))∧eAt E l (j+1)=r.E
 | [],_,_,_,_,h=>by simp at h
 | a :: l,E,0,r,hc,h=>by
   simp at h;subst h
   exact⟨hc.1,by simp[eAt]⟩
 | a :: l,E,j+1,r,hc,h=>by
   have:=jO0 (E:=a.E) (l:=l) (j:=j) hc.2 (by simpa using h)
   simpa [eAt] using this
structure St where
 listed:Array Bool
 ts:Slots
 j:Nat
def jKf (P:Program)(ng:Nat)(ops:Array Oper)(E:EM)(recs:List Rec)(s:St)(i:Nat):Option St :=
 match ops[i]? with
 | none=>none
 | some o =>
   if Region.wanted o (jCZ ops s.ts) then
    if jBw o.op then
     match opE P ng s.ts o (eAt E recs s.j) with
     | some (v,_)=>some ⟨s.listed.setIfInBounds i true,jCn s.ts o.dst v,s.j⟩
     | none=>none
    else match recs[s.j]? with
     | some r=>if r.i=i∧o.op.operands.toList.all (fun x=>eqV 64 (evT s.ts x) (evT r.ts x))=true then some ⟨s.listed.setIfInBounds i true,jCn s.ts o.dst r.v,s.j+1⟩ else none
     | none=>none
   else some ⟨s.listed.setIfInBounds i true,jCn s.ts o.dst undef,s.j⟩
theorem jFZ {op:Op}(h:jBw op=true):jCe op=false:=by cases op <;> simp[jBw,jCe]at h ⊢
theorem jL1 {E:EM}{recs:List Rec}(hc:Chain call P ng ops E recs){s s':St}{i:Nat}(h:jKf P ng ops E recs s i=some s') :
 jCE call P ng ops s.ts (eAt E recs s.j) i=some (s'.ts,eAt E recs s'.j)∧s'.listed=s.listed.setIfInBounds i true:=by
 unfold jKf at h
 unfold jCE
 split at h
 ·cases h
 ·rename_i o ho
  split at h
  ·rename_i hw
   simp only[hw,if_true]
   split at h
   ·rename_i hk
    split at h
    ·rename_i v E1 hx
     cases h
     have:=jMY hk hx
     subst this
     refine⟨?_,rfl⟩
     rw[jIU (jGL hk)]
     simp[jRo,jFZ hk,hx]
    ·cases h
   ·split at h
    ·rename_i r hr
     split at h
     ·rename_i jCz
      obtain⟨hi,heq⟩:=jCz
      cases h
      obtain⟨⟨o',ho',hx⟩,he⟩:=jO0 hc hr
      rw[hi,ho]at ho'
      cases ho'
      have hcg:opX call P ng s.ts o (eAt E recs s.j)=opX call P ng r.ts o (eAt E recs s.j):=jIB fun x hm=>jO6 64 _ _ (List.all_eq_true.1 heq x (by simpa using hm))
      rw[hcg,hx]
      exact⟨by rw[he],rfl⟩
     ·cases h
    ·cases h
  ·rename_i hw
   simp only[hw]
   cases h
   exact⟨rfl,rfl⟩
def ins (s:St):List St→Option (List St)
 | []=>some [s]
 | a :: r=>if a.listed=s.listed then (if a.j=s.j∧eqTs a.ts s.ts=true then some (a :: r) else none) else match ins s r with
   | some l=>some (a :: l)
   | none=>none
def expand1 (P:Program)(ng:Nat)(ops:Array Oper)(E:EM)(recs:List Rec)(s:St):List Nat→List St→Option (List St)
 | [],acc=>some acc
 | i :: r,acc=>match jKf P ng ops E recs s i with
   | none=>none
   | some s'=>match ins s' acc with
     | none=>none
     | some acc'=>expand1 P ng ops E recs s r acc'
/-! An operation that asks no memory, and that no other one waiting looks at or is looked at by, may be taken first. -/
def jE0:Op→Bool
 | .move _ | .assign _ | .pick .. | .build .. | .nilCheck _ | .binOp .. | .makeFunc .. | .makeInterface .. | .fieldAddr .. | .field .. | .indexAddr .. | .extract ..=>true
 | .call ⟨.builtin .len,_,_⟩=>true
 | _=>false
def jY0 (P:Program)(ng:Nat)(ts:Slots)(o:Oper):Option Value :=
 if o.op.operands.toList.all (okX ng) then
  match (if o.op.operands.toList.all (fun x=>jBl (evT ts x)) && jB4 o.op then jDN P ts o else none) with
  | some v=>some v
  | none=>if jE0 o.op && jMU P o.op then (match opS P ts ⟨0,.leaf⟩ o.op with | some (v,_)=>some v | none=>none) else none
 else none
def opV (P:Program)(ng:Nat)(ts:Slots)(o:Oper):Option Value :=
 match jC6 P ng ts o.op with
 | some v=>some v
 | none=>match (if jE0 o.op then jGp P ng ts ⟨0,.leaf⟩ o.op else none) with
   | some (v,_)=>some v
   | none=>match jGp P ng ts ⟨0,.leaf⟩ o.op with
     | some _=>none
     | none=>if jDb P ng o.op then none else jY0 P ng ts o
def jFq (P:Program)(ts:Slots):Op→Bool
 | .call ⟨.value f,_,_⟩=>isGo P (evT ts f)
 | .call ⟨.invoke _ _,_,_⟩=>true
 | _=>false
def jEx (P:Program)(ng:Nat)(ops:Array Oper)(ts:Slots)(i:Nat):Option Value :=
 match ops[i]? with
 | none=>none
 | some o=>if Region.wanted o (jCZ ops ts) then (if jCe o.op then none else if jFq P ts o.op then none else opV P ng ts o) else some undef
def pick1 (P:Program)(ng:Nat)(ops:Array Oper)(s:St):List Nat→Option Nat
 | []=>none
 | i :: r=>if jVP ops s.listed i && (jEx P ng ops s.ts i).isSome then some i else pick1 P ng ops s r
def jEO (P:Program)(ng:Nat)(ops:Array Oper)(E:EM)(recs:List Rec):List St→List St→Option (List St)
 | [],acc=>some acc
 | s :: r,acc=>match jHv ops s.listed with
   | []=>none
   | i :: is=>match expand1 P ng ops E recs s (match pick1 P ng ops s (i :: is) with | some k=>[k] | none=>i :: is) acc with
     | none=>none
     | some acc'=>jEO P ng ops E recs r acc'
def layers (P:Program)(ng:Nat)(ops:Array Oper)(E:EM)(recs:List Rec):Nat→List St→Option St
 | 0,[s]=>match jHv ops s.listed with
   | []=>some s
   | _=>none
 | 0,_=>none
 | n+1,l=>match jEO P ng ops E recs l [] with
   | none=>none
   | some l'=>layers P ng ops E recs n l'
theorem jWJ {s:St}:∀ {acc acc':List St},ins s acc=some acc'→s ∈ acc'∧∀a ∈ acc,a ∈ acc'
 | [],acc',h=>by simp[ins]at h;subst h;simp
 | a :: r,acc',h=>by
   simp only[ins]at h
   split at h
   ·rename_i hl
    split at h
    ·rename_i hc
     cases h
     have:a=s:=by
      obtain⟨l1,t1,j1⟩:=a
      obtain⟨l2,t2,j2⟩:=s
      simp only at hl hc
      rw[hl,hc.1,jXv hc.2]
     exact⟨by rw[←this];exact List.mem_cons_self ..,fun b hb=>hb⟩
    ·cases h
   ·split at h
    ·rename_i l hi
     cases h
     have:=jWJ hi
     refine⟨List.mem_cons_of_mem _ this.1,fun b hb=>?_⟩
     rcases List.mem_cons.1 hb with e | e
     ·rw[e];exact List.mem_cons_self ..
     ·exact List.mem_cons_of_mem _ (this.2 b e)
    ·cases h
theorem jJ9 {E:EM}{recs:List Rec}{s:St}:∀ {is:List Nat} {acc acc':List St},expand1 P ng ops E recs s is acc=some acc' →
  (∀i ∈ is,∃s',jKf P ng ops E recs s i=some s'∧s' ∈ acc')∧∀a ∈ acc,a ∈ acc'
 | [],acc,acc',h=>by simp[expand1]at h;subst h;simp
 | i :: r,acc,acc',h=>by
   simp only[expand1]at h
   split at h
   ·cases h
   ·rename_i s' hs
    split at h
    ·cases h
    ·rename_i acc1 hi
     have h1:=jWJ hi
     have h2:=jJ9 h
     refine⟨fun k hk=>?_,fun a ha=>h2.2 a (h1.2 a ha)⟩
     rcases List.mem_cons.1 hk with e | e
     ·rw[e];exact⟨s',hs,h2.2 _ h1.1⟩
     ·exact h2.1 k e
theorem jPi {s:St}:∀ {is:List Nat} {k:Nat},pick1 P ng ops s is=some k→k ∈ is∧Region.free .any ops s.listed k=true∧∃v,jEx P ng ops s.ts k=some v
 | [],k,h=>by simp[pick1]at h
 | i :: r,k,h=>by
   simp only[pick1]at h
   split at h
   ·rename_i hc
    cases h
    simp only[Bool.and_eq_true,Option.isSome_iff_exists]at hc
    exact⟨List.mem_cons_self ..,jPv hc.1,hc.2⟩
   ·have:=jPi h
    exact⟨List.mem_cons_of_mem _ this.1,this.2⟩
theorem jHu {E:EM}{recs:List Rec}:∀ {l:List St} {acc acc':List St},jEO P ng ops E recs l acc=some acc' →
  (∀s ∈ l,Region.ready .any ops s.listed≠[] ∧
    ((∀i ∈ Region.ready .any ops s.listed,∃s',jKf P ng ops E recs s i=some s'∧s' ∈ acc') ∨
     (∃i ∈ Region.ready .any ops s.listed,Region.free .any ops s.listed i=true∧(∃v,jEx P ng ops s.ts i=some v)∧∃s',jKf P ng ops E recs s i=some s'∧s' ∈ acc')))∧∀a ∈ acc,a ∈ acc'
 | [],acc,acc',h=>by simp[jEO]at h;subst h;simp
 | s :: r,acc,acc',h=>by
   simp only[jEO,jEd]at h
   split at h
   ·cases h
   ·rename_i i is hr
    split at h
    ·cases h
    ·rename_i acc1 h1
     have e1:=jJ9 h1
     have e2:=jHu h
     refine⟨fun u hu=>?_,fun a ha=>e2.2 a (e1.2 a ha)⟩
     rcases List.mem_cons.1 hu with e | e
     ·subst e
      rw[hr]
      refine⟨by simp,?_⟩
      cases hp:pick1 P ng ops u (i :: is) with
      | none =>
        rw[hp]at e1
        refine .inl fun k hk=>?_
        obtain⟨s',h3,h4⟩:=e1.1 k hk
        exact⟨s',h3,e2.2 _ h4⟩
      | some k =>
        rw[hp]at e1
        obtain⟨p1,p2,p3⟩:=jPi hp
        obtain⟨s',h3,h4⟩:=e1.1 k (List.mem_singleton.2 rfl)
        exact .inr ⟨k,p1,p2,p3,s',h3,e2.2 _ h4⟩
     ·exact e2.1 u e
/-! ### What an operation sees of the slots -/
def jBP (call:jBG)(P:Program)(ng:Nat)(ops:Array Oper)(ts:Slots)(E:EM)(o:Oper):Option (Value × EM) :=
 if Region.wanted o (jCZ ops ts) then opX call P ng ts o E else some (undef,E)
theorem jBg {ts:Slots}{E:EM}{i:Nat}{o:Oper}(ho:ops[i]? = some o):jCE call P ng ops ts E i=(jBP call P ng ops ts E o).map fun r=>(jCn ts o.dst r.1,r.2):=by
 unfold jCE jBP
 rw[ho]
 simp only
 split
 ·cases opX call P ng ts o E <;> rfl
 ·rfl
theorem jJh {ts:Slots}{dst:Option Tmp}{v:Value}{x:Operand}(h:∀d,dst=some d→x≠.tmp d):evT (jCn ts dst v) x=evT ts x:=by
 cases dst with
 | none=>rfl
 | some d =>
   cases x with
   | tmp t =>
     have hne:d≠t:=fun e=>h d rfl (e▸rfl)
     exact Slots.get_put_other _ hne _
   | _=>rfl
theorem jCw {o:Oper}{x:Operand}{d:Tmp}(hx:x ∈ o.op.operands)(hd:d ∉ o.looksAt ops):x≠.tmp d:=by
 intro e
 subst e
 refine hd ?_
 simp only[Oper.looksAt,List.mem_append,List.mem_filterMap]
 exact .inl ⟨.tmp d,by simpa using hx,rfl⟩
theorem jEm {ts:Slots}{dst:Option Tmp}{v:Value}{o:Oper}(h:∀d,dst=some d→d ∉ o.looksAt ops):Region.wanted o (jCZ ops (jCn ts dst v))=Region.wanted o (jCZ ops ts):=by
 unfold Region.wanted
 cases hg:o.guard with
 | none=>rfl
 | some p =>
   obtain⟨g,b⟩:=p
   simp only
   have:jCZ ops (jCn ts dst v) g=jCZ ops ts g:=by
    cases dst with
    | none=>rfl
    | some d =>
      unfold jCZ
      cases hq:(ops[g]?).bind (·.dst) with
      | none=>rfl
      | some t =>
        have hne:d≠t:=by
         intro e
         refine h d rfl ?_
         simp only[Oper.looksAt,hg,hq,List.mem_append]
         exact .inr (by simp[e])
        simp only[jCn,Slots.get_put_other _ hne]
   rw[this]
theorem jCo {ts:Slots}{E:EM}{dst:Option Tmp}{v:Value}{o:Oper}(h:∀d,dst=some d→d ∉ o.looksAt ops):jBP call P ng ops (jCn ts dst v) E o=jBP call P ng ops ts E o:=by
 unfold jBP
 rw[jEm h,jIB fun x hx=>jJh fun d hd=>jCw hx (h d hd)]
theorem jQH {ts us:Slots}{o:Oper}(h:∀x ∈ o.op.operands,evT ts x=evT us x):jY0 P ng ts o=jY0 P ng us o:=by
 unfold jY0
 have h1:o.op.operands.toList.all (fun x=>jBl (evT ts x))=o.op.operands.toList.all (fun x=>jBl (evT us x)):=by
  rw[Bool.eq_iff_iff]
  simp only[List.all_eq_true]
  exact⟨fun k x hx=>by rw[←h x (by simpa using hx)];exact k x hx,fun k x hx=>by rw[h x (by simpa using hx)];exact k x hx⟩
 have h2:jB4 o.op=true→jDN P ts o=jDN P us o:=by
  intro hn
  unfold jDN
  rw[execOp_congr o (fun cs b he=>by rw[he]at hn;simp[jB4]at hn) h]
 have h3:(if (o.op.operands.toList.all (fun x=>jBl (evT ts x)) && jB4 o.op)=true then jDN P ts o else none) =
  (if (o.op.operands.toList.all (fun x=>jBl (evT us x)) && jB4 o.op)=true then jDN P us o else none):=by
  rw[h1]
  split
  ·rename_i hc
   simp only[Bool.and_eq_true]at hc
   exact h2 hc.2
  ·rfl
 rw[h3,jIF h]
theorem jRN {ts us:Slots}{o:Oper}(h:∀x ∈ o.op.operands,evT ts x=evT us x):opV P ng ts o=opV P ng us o:=by
 unfold opV;rw[jJc h,jJA h,jQH h]
theorem jJG {ts us:Slots}{op:Op}(h:∀x ∈ op.operands,evT ts x=evT us x):jFq P ts op=jFq P us op:=by
 cases op with
 | call c =>
   obtain⟨callee,args,tys⟩:=c
   cases callee with
   | value f=>simp only[jFq];rw[h f (by simp[Op.operands,Call.operands])]
   | _=>rfl
 | _=>rfl
theorem jFb {ts:Slots}{dst:Option Tmp}{v:Value}{i:Nat}{o:Oper}(ho:ops[i]? = some o)(h:∀d,dst=some d→d ∉ o.looksAt ops):jEx P ng ops (jCn ts dst v) i=jEx P ng ops ts i:=by
 unfold jEx
 rw[ho]
 simp only
 rw[jEm h,jRN fun x hx=>jJh fun d hd=>jCw hx (h d hd),jJG (P:=P) fun x hx=>jJh fun d hd=>jCw hx (h d hd)]
theorem jKw {ts:Slots}{E E0 E1:EM}{op:Op}{v:Value}(hm:jE0 op=true)(h:opS P ts E0 op=some (v,E1)):opS P ts E op=some (v,E):=by
 have mp:∀ {α:Type} {x:Option Value} {E0 E1:EM},(x.map fun u=>(u,E0))=some (v,E1)→(x.map fun u=>(u,E))=some (v,E):=by
  intro α x E0 E1 h
  simp only[Option.map_eq_some_iff,Prod.mk.injEq]at h ⊢
  obtain⟨u,h1,h2,_⟩:=h
  exact⟨u,h1,h2,trivial⟩
 cases op with
 | move x=>simp only[opS,jAs,jAf,jAo,jAg,jA2,jA1,jAr,jAD,jAs,jAf,jAo,jAg,jA2,jA1,jAr,jAD]at h ⊢;cases h;rfl
 | assign x=>simp only[opS,jAs,jAf,jAo,jAg,jA2,jA1,jAr,jAD,jAs,jAf,jAo,jAg,jA2,jA1,jAr,jAD]at h ⊢;cases h;rfl
 | pick c a b=>simp only[opS,jAs,jAf,jAo,jAg,jA2,jA1,jAr,jAD,jAs,jAf,jAo,jAg,jA2,jA1,jAr,jAD]at h ⊢;split at h <;> cases h;rfl
 | build t ps=>simp only[opS,jAs,jAf,jAo,jAg,jA2,jA1,jAr,jAD,jAs,jAf,jAo,jAg,jA2,jA1,jAr,jAD]at h ⊢;exact mp (α:=Nat) h
 | nilCheck x=>simp only[opS,jAs,jAf,jAo,jAg,jA2,jA1,jAr,jAD,jAs,jAf,jAo,jAg,jA2,jA1,jAr,jAD]at h ⊢;split at h <;> cases h <;> rfl
 | binOp bop t x y yt =>
   simp only[opS,jAs,jAf,jAo,jAg,jA2,jA1,jAr,jAD,jAs,jAf,jAo,jAg,jA2,jA1,jAr,jAD]at h ⊢
   split at h
   ·split at h
    ·rename_i hc
     rw[if_pos hc]
     simp only[Option.map_eq_some_iff,Prod.mk.injEq]at h ⊢
     obtain⟨b,h1,h2,_⟩:=h
     exact⟨b,h1,h2,trivial⟩
    ·cases h
   ·split at h
    ·rename_i hc
     rw[if_pos hc]
     simp only[Option.map_eq_some_iff,Prod.mk.injEq]at h ⊢
     obtain⟨b,h1,h2,_⟩:=h
     exact⟨b,h1,h2,trivial⟩
    ·cases h
   ·cases h
 | makeFunc fn a b =>
   cases fn with
   | func f=>simp only[opS,jAs,jAf,jAo,jAg,jA2,jA1,jAr,jAD,jAs,jAf,jAo,jAg,jA2,jA1,jAr,jAD]at h ⊢;cases h;rfl
   | _=>simp[opS]at h
 | makeInterface t x =>
   simp only[opS,jMW]at h ⊢
   split at h <;> cases h <;> rfl
 | fieldAddr s x f=>simp only[opS,jAs,jAf,jAo,jAg,jA2,jA1,jAr,jAD,jAs,jAf,jAo,jAg,jA2,jA1,jAr,jAD]at h ⊢;exact mp (α:=Nat) h
 | field s x f=>simp only[opS,jAs,jAf,jAo,jAg,jA2,jA1,jAr,jAD,jAs,jAf,jAo,jAg,jA2,jA1,jAr,jAD]at h ⊢;exact mp (α:=Nat) h
 | indexAddr s x f=>simp only[opS,jAs,jAf,jAo,jAg,jA2,jA1,jAr,jAD,jAs,jAf,jAo,jAg,jA2,jA1,jAr,jAD]at h ⊢;exact mp (α:=Nat) h
 | extract x i=>simp only[opS,jAs,jAf,jAo,jAg,jA2,jA1,jAr,jAD,jAs,jAf,jAo,jAg,jA2,jA1,jAr,jAD]at h ⊢;exact mp (α:=Nat) h
 | call c =>
   obtain⟨callee,args,tys⟩:=c
   cases callee with
   | value f=>simp[jE0]at hm
   | invoke r m=>simp[jE0]at hm
   | builtin b =>
     cases b <;> try (simp[jE0]at hm;done)
     simp only[opS,jAs,jAf,jAo,jAg,jA2,jA1,jAr,jAD,jAs,jAf,jAo,jAg,jA2,jA1,jAr,jAD]at h ⊢
     split at h
     ·split at h <;> cases h;rfl
     ·cases h
 | _=>simp[jE0]at hm
theorem jXK {ts:Slots}{v:Value}{o:Oper}(h:jY0 P ng ts o=some v)(E:EM):jO8 P ng ts o E=some (v,E):=by
 unfold jY0 at h
 unfold jO8
 split at h
 ·rename_i hok
  rw[if_pos hok]
  split at h
  ·rename_i u hu
   cases h
   rw[hu]
  ·rename_i hu
   rw[hu]
   simp only
   split at h
   ·rename_i hc
    simp only[Bool.and_eq_true]at hc
    rw[if_pos hc.2]
    split at h
    ·rename_i u E2 hs
     cases h
     exact jKw hc.1 hs
    ·cases h
   ·cases h
 ·cases h
theorem jZD {ts:Slots}{v:Value}{o:Oper}(h:opV P ng ts o=some v)(E:EM):opE P ng ts o E=some (v,E):=by
 refine jKs ?_
 unfold opV at h
 unfold opA
 split at h
 ·rename_i u hu
  cases h
  rw[hu]
 ·rename_i hu
  rw[hu]
  simp only
  split at h
  ·rename_i u E2 hs
   cases h
   split at hs
   ·rename_i hm
    unfold jGp at hs ⊢
    split at hs
    ·rename_i hf
     rw[if_pos hf,jKw hm hs]
    ·cases hs
   ·cases hs
  ·split at h
   ·cases h
   ·split at h
    ·cases h
    ·rename_i hf
     have:jGp P ng ts E o.op=none:=by unfold jGp;rw[if_neg hf]
     rw[this]
     exact jXK h E
theorem jDc {ts:Slots}{i:Nat}{v:Value}{o:Oper}(ho:ops[i]? = some o)(h:jEx P ng ops ts i=some v)(E:EM):jBP call P ng ops ts E o=some (v,E):=by
 unfold jEx at h
 rw[ho]at h
 simp only at h
 unfold jBP
 split at h
 ·rename_i hw
  rw[if_pos hw]
  split at h
  ·cases h
  ·rename_i hd
   split at h
   ·rename_i hgo
    cases h
   ·rename_i hgo
    have hx:jRo call P ng ts o E=some (v,E):=by
     unfold jRo
     rw[if_neg hd,jZD h E]
    unfold opX
    split
    ·rename_i r m args tys hop
     rw[hop]at hgo
     exact absurd rfl hgo
    ·rename_i f args tys hop
     have:jFq P ts o.op=false:=by simpa using hgo
     rw[hop]at this
     simp only[jFq]at this
     rw[this]
     simpa using hx
    ·exact hx
 ·rename_i hw
  rw[if_neg hw]
  cases h;rfl
/-! ### Every order comes to the same -/
def jIL (call:jBG)(P:Program)(ng:Nat)(ops:Array Oper)(F:Slots × EM):Nat→Array Bool→Slots→EM→Prop
 | 0,listed,ts,E=>Region.ready .any ops listed=[]∧(ts,E)=F
 | n+1,listed,ts,E=>Region.ready .any ops listed≠[]∧∀i ∈ Region.ready .any ops listed,∃ts1 E1,jCE call P ng ops ts E i=some (ts1,E1)∧jIL call P ng ops F n (listed.setIfInBounds i true) ts1 E1
theorem jIL.run {F:Slots × EM}:∀ (n:Nat) {listed:Array Bool} {ts:Slots} {E:EM},jIL call P ng ops F n listed ts E→∀t,jPI call P ng ops (Region.linearise.go .any ops n t listed []) ts E=some F
 | 0,listed,ts,E,h,t=>by
   obtain⟨_,h⟩:=h
   simp[Region.linearise.go,jPI,h]
 | n+1,listed,ts,E,h,t=>by
   obtain⟨hne,jDY⟩:=h
   simp only[Region.linearise.go]
   change jPI call P ng ops (match (Region.ready .any ops listed)[t % (Region.ready .any ops listed).length]? with
    | some i=>Region.linearise.go .any ops n (t / (Region.ready .any ops listed).length) (listed.setIfInBounds i true) [i]
    | none=>[].reverse) ts E=_
   have qCw:0<(Region.ready .any ops listed).length:=List.length_pos_iff.2 hne
   have hlt:=Nat.mod_lt t qCw
   rw[List.getElem?_eq_getElem hlt]
   simp only
   rw[linearise_go_acc,List.reverse_singleton,List.singleton_append]
   obtain⟨ts1,E1,h1,h2⟩:=jDY _ (List.getElem_mem hlt)
   simp only[jPI,h1]
   exact jIL.run n h2 _
theorem jG9 {listed:Array Bool}{i j:Nat}(h:Region.free .any ops listed i=true):Region.free .any ops (listed.setIfInBounds j true) i=true:=by
 unfold Region.free at h ⊢
 cases hi:ops[i]? with
 | none=>simp[hi]at h
 | some oi =>
   simp only[hi,List.all_eq_true,Bool.or_eq_true]at h ⊢
   intro k hk
   rcases h k hk with (h1 | h1) | h1
   ·exact .inl (.inl h1)
   ·refine .inl (.inr ?_)
    by_cases hjk:j=k
    ·subst hjk
     by_cases hlt:j<listed.size
     ·simp[hlt]
     ·simp only[Array.getD_eq_getD_getElem?]at h1 ⊢
      rw[Array.getElem?_eq_none (by simpa using hlt)]
      rfl
    ·rw[getD_set_ne true hjk];exact h1
   ·exact .inr h1
theorem jOw (a:Array Bool)(i j:Nat):(a.setIfInBounds i true).setIfInBounds j true=(a.setIfInBounds j true).setIfInBounds i true:=by
 by_cases h:i=j
 ·subst h;rfl
 ·exact Array.setIfInBounds_comm _ _ h
theorem jFa {ts:Slots}{x y:Option Tmp}(v u:Value)(h:∀d,x=some d→y≠some d):jCn (jCn ts x v) y u=jCn (jCn ts y u) x v:=by
 cases x with
 | none=>rfl
 | some d =>
   cases y with
   | none=>rfl
   | some e =>
     have hne:d≠e:=fun he=>h d rfl (he▸rfl)
     exact Slots.put_comm _ hne _ _
theorem jIL.first {F:Slots × EM}{i:Nat}{oi:Oper}{v:Value}(hi:ops[i]? = some oi):∀ (n:Nat) {listed:Array Bool} {ts:Slots} {E:EM},i ∈ Region.ready .any ops listed→Region.free .any ops listed i=true →
  jEx P ng ops ts i=some v→jIL call P ng ops F n (listed.setIfInBounds i true) (jCn ts oi.dst v) E→jIL call P ng ops F (n+1) listed ts E
 | n,listed,ts,E,hri,jCL,hv,h=>by
   refine⟨fun e=>(by rw[e]at hri;cases hri),fun j hj=>?_⟩
   by_cases hji:j=i
   ·subst hji
    refine⟨_,E,?_,h⟩
    rw[jBg hi,jDc hi hv E];rfl
   · -- another one first
    have hj':=(mem_ready (md:=.any) (ops:=ops)).1 hj
    have hri':=(mem_ready (md:=.any) (ops:=ops)).1 hri
    obtain⟨jRt,oj,hoj,jUk⟩:=hj'
    have qAe:listed.getD i false=false:=by
     have hlt:¬listed.getD i false=true:=by
      intro e
      have:listed.getD i true=true:=by
       simp only[Array.getD_eq_getD_getElem?]at e ⊢
       cases hq:listed[i]? with
       | none=>rfl
       | some b=>rw[hq]at e;simpa using e
      rw[this]at hri'
      exact absurd hri'.1 (by simp)
     simpa using hlt
    have hap:oi.apart ops oj=true:=Region.free_spec hi jCL j oj hoj hji jRt fun e he hb hon=>by
     have:=jUk e he hb
     rw[hon,qAe]at this
     cases this
    obtain⟨a1,a2,a3⟩:=Oper.apart_spec hap
    cases n with
    | zero =>
      -- i alone is left: j is none
      have:=ready_mono hj hji
      rw[h.1]at this
      cases this
    | succ n =>
      obtain⟨hne,jDY⟩:=h
      obtain⟨ts2,E2,hs,jUl⟩:=jDY j (ready_mono hj hji)
      rw[jBg hoj,jCo a1]at hs
      simp only[Option.map_eq_some_iff,Prod.mk.injEq]at hs
      obtain⟨⟨u,E3⟩,jDx,hts,hE⟩:=hs
      simp only at hts hE
      subst hts hE
      refine⟨jCn ts oj.dst u,E3,by rw[jBg hoj,jDx];rfl,?_⟩
      refine jIL.first hi n (ready_mono hri (fun e=>hji e.symm)) (jG9 jCL) (by rw[jFb hi a3];exact hv) ?_
      rw[jOw,←jFa v u a2]
      exact jUl
theorem jIk {E:EM}{recs:List Rec}(hc:Chain call P ng ops E recs):∀ (n:Nat) {l:List St} {f:St},layers P ng ops E recs n l=some f→∀s ∈ l,jIL call P ng ops (f.ts,eAt E recs f.j) n s.listed s.ts (eAt E recs s.j)
 | 0,l,f,h,s,hs=>by
   match l,h with
   | [a],h =>
     simp only[layers,jEd]at h
     split at h
     ·rename_i hr
      cases h
      simp only[List.mem_singleton]at hs
      subst hs
      exact⟨hr,rfl⟩
     ·cases h
 | n+1,l,f,h,s,hs=>by
   simp only[layers,jEd]at h
   split at h
   ·cases h
   ·rename_i l' he
    obtain⟨hne,jDY⟩:=(jHu he).1 s hs
    rcases jDY with jDY | ⟨i,hi,jCL,⟨v,hv⟩,s',h1,h2⟩
    ·refine⟨hne,fun i hi=>?_⟩
     obtain⟨s',h1,h2⟩:=jDY i hi
     obtain⟨h3,h4⟩:=jL1 hc h1
     refine⟨_,_,h3,?_⟩
     have:=jIk hc n h s' h2
     rwa [h4]at this
    ·obtain⟨h3,h4⟩:=jL1 hc h1
     obtain⟨_,oi,ho,_⟩:=(mem_ready (md:=.any) (ops:=ops)).1 hi
     have:=jIk hc n h s' h2
     rw[h4]at this
     rw[jBg ho,jDc ho hv]at h3
     simp only[Option.map_some,Option.some.injEq,Prod.mk.injEq]at h3
     rw[←h3.1,←h3.2]at this
     exact jIL.first ho n hi jCL hv this
def jQb (call:jBG)(P:Program)(ng:Nat)(ops:Array Oper)(ts:Slots)(E:EM):Option (Slots × EM) :=
 match canon call P ng ops (List.range ops.size) ts E with
 | none=>none
 | some recs=>match layers P ng ops E recs ops.size [⟨Array.replicate ops.size false,ts,0⟩] with
   | some f=>some (f.ts,eAt E recs f.j)
   | none=>none
theorem jMh {ts ts1:Slots}{E E1:EM}(h:jQb call P ng ops ts E=some (ts1,E1))(t:Nat):jPI call P ng ops (Region.linearise .any ops t) ts E=some (ts1,E1):=by
 unfold jQb at h
 split at h
 ·cases h
 ·rename_i recs hc
  split at h
  ·rename_i f hf
   cases h
   have:=(jIk (jEA _ hc) ops.size hf _ (List.mem_singleton.2 rfl)).run ops.size t
   cases recs <;> simpa [Region.linearise,eAt] using this
  ·cases h
/-! A plan of a region: which operation may be taken next, from the operations alone. -/
theorem jCJ {ts:Slots}{E E1:EM}{o:Oper}{v:Value}(hk:jBw o.op=true)(h:jBP call P ng ops ts E o=some (v,E1)):E1=E:=by
 unfold jBP at h
 split at h
 ·rw[jIU (jGL hk)]at h
  unfold jRo at h
  rw[jFZ hk]at h
  simp only[Bool.false_eq_true,if_false]at h
  split at h
  ·rename_i r hr
   cases h
   exact jMY hk hr
  ·split at h
   ·rename_i f args tys hop
    exact absurd hop ((jGL hk).1 f args tys)
   ·cases h
 ·cases h;rfl
structure Shut (ok:Op→Bool)(ops:Array Oper)(C:Array Bool)(i:Nat)(listed:Array Bool):Prop where
 size:C.size=listed.size
 stop:∀j ∈ Region.ready .any ops C,j=i
 sub:∀k,listed.getD k false=true→C.getD k false=true
 keep:∀j o,ops[j]? = some o→C.getD j false=true→listed.getD j true=false→ok o.op=true
theorem jOJ {a:Array Bool}{j:Nat}(h:a.getD j true=false):j<a.size:=by
 simp only[Array.getD_eq_getD_getElem?]at h
 cases hq:a[j]? with
 | none=>rw[hq]at h;cases h
 | some b=>exact (Array.getElem?_eq_some_iff.1 hq).1
theorem jIJ {a:Array Bool}{j:Nat}(h:j<a.size)(d e:Bool):a.getD j d=a.getD j e:=by
 simp only[Array.getD_eq_getD_getElem?,Array.getElem?_eq_getElem h,Option.getD_some]
theorem Shut.within {ok:Op→Bool}{C listed:Array Bool}{i j:Nat}(h:Shut ok ops C i listed)(hj:j ∈ Region.ready .any ops listed)(hji:j≠i):C.getD j false=true:=by
 cases hc:C.getD j false with
 | true=>rfl
 | false =>
   obtain⟨h0,o,ho,jDY⟩:=(mem_ready (md:=.any) (ops:=ops)).1 hj
   have hlt:j<C.size:=by rw[h.size];exact jOJ h0
   exact absurd (h.stop j ((mem_ready (md:=.any) (ops:=ops)).2 ⟨by rw[jIJ hlt true false];exact hc,o,ho,fun e he hb=>h.sub _ (jDY e he hb)⟩)) hji
theorem Shut.next {ok:Op→Bool}{C listed:Array Bool}{i j:Nat}(h:Shut ok ops C i listed)(hj:j ∈ Region.ready .any ops listed)(hji:j≠i):Shut ok ops C i (listed.setIfInBounds j true):=by
 refine⟨by simpa using h.size,h.stop,fun k hk=>?_,fun k o ho hc hl=>?_⟩
 ·by_cases hkj:k=j
  ·subst hkj;exact h.within hj hji
  ·rw[getD_set_ne false (fun e=>hkj e.symm)]at hk;exact h.sub k hk
 ·refine h.keep k o ho hc ?_
  by_cases hkj:k=j
  ·subst hkj;exact ((mem_ready (md:=.any) (ops:=ops)).1 hj).1
  ·rwa [getD_set_ne true (fun e=>hkj e.symm)]at hl
theorem jIL.firstK {F:Slots × EM}{i:Nat}{oi:Oper}{v:Value}{C:Array Bool}(hi:ops[i]? = some oi):∀ (n:Nat) {listed:Array Bool} {ts:Slots} {E:EM},Shut jBw ops C i listed→i ∈ Region.ready .any ops listed→Region.free .any ops listed i=true →
  jBP call P ng ops ts E oi=some (v,E)→jIL call P ng ops F n (listed.setIfInBounds i true) (jCn ts oi.dst v) E→jIL call P ng ops F (n+1) listed ts E
 | n,listed,ts,E,hsh,hri,jCL,hv,h=>by
   refine⟨fun e=>(by rw[e]at hri;cases hri),fun j hj=>?_⟩
   by_cases hji:j=i
   ·subst hji
    refine⟨_,E,?_,h⟩
    rw[jBg hi,hv];rfl
   ·have hj':=(mem_ready (md:=.any) (ops:=ops)).1 hj
    have hri':=(mem_ready (md:=.any) (ops:=ops)).1 hri
    obtain⟨jRt,oj,hoj,jUk⟩:=hj'
    have qAe:listed.getD i false=false:=by rw[jIJ (jOJ hri'.1) false true];exact hri'.1
    have hap:oi.apart ops oj=true:=Region.free_spec hi jCL j oj hoj hji jRt fun e he hb hon=>by
     have:=jUk e he hb
     rw[hon,qAe]at this
     cases this
    obtain⟨a1,a2,a3⟩:=Oper.apart_spec hap
    have hkj:=hsh.keep j oj hoj (hsh.within hj hji) jRt
    cases n with
    | zero =>
      have:=ready_mono hj hji
      rw[h.1]at this
      cases this
    | succ n =>
      obtain⟨hne,jDY⟩:=h
      obtain⟨ts2,E2,hs,jUl⟩:=jDY j (ready_mono hj hji)
      rw[jBg hoj,jCo a1]at hs
      simp only[Option.map_eq_some_iff,Prod.mk.injEq]at hs
      obtain⟨⟨u,E3⟩,jDx,hts,hE⟩:=hs
      simp only at hts hE
      subst hts hE
      have hE3:=jCJ hkj jDx
      subst hE3
      refine⟨jCn ts oj.dst u,E3,by rw[jBg hoj,jDx];rfl,?_⟩
      refine jIL.firstK hi n (hsh.next hj hji) (ready_mono hri (fun e=>hji e.symm)) (jG9 jCL) (by rw[jCo a3];exact hv) ?_
      rw[jOw,←jFa v u a2]
      exact jUl
def jGb:Op→Bool
 | .alloc _ | .box .. | .buildSlice ..=>true
 | _=>false
def jPx (op:Op):Bool:=jBw op || jGb op
def jPD:Op→Bool
 | .load ..=>true
 | .lookup ..=>true
 | _=>false
theorem jMJ {ts:Slots}{E E1:EM}{op:Op}{v:Value}(hk:jGb op=true)(h:opS P ts E op=some (v,E1)):∃b,E1=E.push b:=by
 cases op <;> simp[jGb]at hk
 ·simp only[opS,jAf]at h
  split at h
  ·cases h;exact⟨_,rfl⟩
  ·cases h
 ·simp only[opS]at h
  cases h;exact⟨_,rfl⟩
 ·simp only[opS,jEz]at h
  split at h
  ·split at h
   ·split at h
    ·cases h
    ·split at h
     ·cases h;exact⟨_,rfl⟩
     ·cases h
   ·cases h
  ·cases h
theorem jV0 {ts:Slots}{E:EM}{o:Oper}(hk:jGb o.op=true):opU P ng ts o E=none:=by
 obtain⟨dst,op,type,pos,after,guard⟩:=o
 unfold opU
 cases op <;> simp[jGb]at hk <;> simp
theorem jTx {ts:Slots}{E E1:EM}{o:Oper}{v:Value}(hk:jGb o.op=true)(h:opE P ng ts o E=some (v,E1)):E1=E∨∃b,E1=E.push b:=by
 have h:opA P ng ts o E=some (v,E1):=by
  unfold opE at h
  split at h
  ·rename_i r hr;cases h;exact hr
  ·rw[jV0 hk]at h;cases h
 unfold opA at h
 split at h
 ·cases h;exact .inl rfl
 ·split at h
  ·rename_i r hr
   cases h
   unfold jGp at hr
   split at hr
   ·exact .inr (jMJ hk hr)
   ·cases hr
  ·unfold jO8 at h
   split at h
   ·split at h
    ·cases h;exact .inl rfl
    ·split at h
     ·exact .inr (jMJ hk h)
     ·cases h
   ·cases h
theorem jFc {ts:Slots}{E E1:EM}{o:Oper}{v:Value}(hk:jCe o.op=false)(hc:NotX o.op):opX call P ng ts o E=some (v,E1)↔opE P ng ts o E=some (v,E1):=by
 rw[jIU hc]
 unfold jRo
 rw[hk]
 simp only[Bool.false_eq_true,if_false]
 constructor
 ·intro h
  split at h
  ·rename_i r hr;cases h;exact hr
  ·first
   | cases h
   | (split at h
      ·rename_i f args tys hop;exact absurd hop (hc.1 f args tys)
      ·cases h)
 ·intro h
  rw[h]
theorem jQM {ts:Slots}{E E1:EM}{o:Oper}{v:Value}(hk:jPx o.op=true)(h:jBP call P ng ops ts E o=some (v,E1)):E1=E∨∃b,E1=E.push b:=by
 unfold jPx at hk
 cases hkk:jBw o.op with
 | true=>exact .inl (jCJ hkk h)
 | false =>
   rw[hkk,Bool.false_or]at hk
   unfold jBP at h
   split at h
   ·exact jTx hk ((jFc (by revert hk;cases o.op <;> simp[jGb,jCe]) ⟨by intro f args tys e;rw[e]at hk;simp[jGb]at hk,by intro r m args tys e;rw[e]at hk;simp[jGb]at hk⟩).1 h)
   ·cases h;exact .inl rfl
theorem jHm {E:EM}{a:Addr}{n:Nat}{cs:List Value}(b:EB)(h:jCI E a n=some cs):jCI (E.push b) a n=some cs:=by
 rw[jEj]at h ⊢
 by_cases he:a.block=E.n
 ·have hd:E.get a.block=.dead:=by rw[EM.get_eq,if_neg (by omega)]
  rw[hd]at h;cases h
 ·rw[EM.get_push_old b he];exact h
theorem jRq {E:EM}{t:TypeId}{a:Addr}{v:Value}(b:EB)(h:jOd P E t a=some v):jOd P (E.push b) t a=some v:=by
 unfold jOd at h ⊢
 split
 ·rename_i i h1 h2
  rw[h1,h2]at h
  simp only[Option.map_eq_some_iff]at h ⊢
  obtain⟨cs,hc,rfl⟩:=h
  exact⟨cs,jHm b hc,rfl⟩
 ·rename_i h1
  rw[h1]at h
  simp only at h
  cases hc:jCI E a 1 with
  | none=>rw[hc]at h;cases h
  | some cs=>rw[hc]at h;rw[jHm b hc];exact h
 ·rename_i h1 h2
  split at h
  ·rename_i i h3 h4;exact absurd h4 (h2 i h3)
  ·rename_i h3;exact absurd h3 h1
  ·cases h
theorem jPy {ts:Slots}{E:EM}{t:TypeId}{x:Operand}{r:Value × EM}(b:EB)(h:opS P ts E (.load t x)=some r):opS P ts (E.push b) (.load t x)=some (r.1,E.push b):=by
 simp only[opS,jAo]at h ⊢
 split at h
 ·rename_i a ha
  simp only[Option.map_eq_some_iff]at h ⊢
  obtain⟨v,hv,rfl⟩:=h
  exact⟨v,jRq b hv,rfl⟩
 ·cases h
theorem jN3 {ts:Slots}{E:EM}{o:Oper}{v:Value}(b:EB)(hk:∃t x,o.op=.load t x)(h:jBP call P ng ops ts E o=some (v,E)):jBP call P ng ops ts (E.push b) o=some (v,E.push b):=by
 obtain⟨dst,op,type,pos,after,guard⟩:=o
 obtain⟨t,x,hk⟩:=hk
 simp only at hk
 subst hk
 unfold jBP at h ⊢
 split
 ·rename_i hw
  rw[if_pos hw]at h
  have h:=(jFc rfl ⟨(by intro f args tys e;cases e),(by intro r m args tys e;cases e)⟩).1 h
  refine (jFc rfl ⟨(by intro f args tys e;cases e),(by intro r m args tys e;cases e)⟩).2 (jKs ?_)
  have h:opA P ng ts ⟨dst,.load t x,type,pos,after,guard⟩ E=some (v,E):=by
   unfold opE at h
   split at h
   ·rename_i r hr;cases h;exact hr
   ·rw[jU6 rfl]at h;cases h
  unfold opA at h ⊢
  simp only[jC6]at h ⊢
  unfold jGp at h ⊢
  by_cases hf:jDb P ng (.load t x)=true
  ·simp only[hf,if_true]at h ⊢
   split at h
   ·rename_i r hr
    cases h
    rw[jPy b hr]
   ·rename_i hn
    unfold jO8 at h ⊢
    simp only at h ⊢
    split at h
    ·rename_i hok
     simp only[hok,if_true]
     cases hsn:opS P ts (E.push b) (.load t x) with
     | some r =>
       -- a pure value there would be no pointer
       split at h
       ·rename_i u hu
        cases h
        exfalso
        simp only[opS,jAo]at hsn
        split at hsn
        ·rename_i a ha
         split at hu
         ·rename_i hfl
          simp only[Bool.and_eq_true,List.all_eq_true]at hfl
          have:=hfl.1 x (by simp[Op.operands])
          rw[ha]at this
          simp[jBl,jAn]at this
         ·cases hu
        ·cases hsn
       ·split at h
        ·rw[hn]at h;cases h
        ·cases h
     | none =>
       simp only
       split at h
       ·rename_i u hu
        cases h
        first | rfl | rw[hu]
       ·split at h
        ·rw[hn]at h;cases h
        ·cases h
    ·cases h
  ·simp only[hf]at h ⊢
   unfold jO8 at h ⊢
   simp only[Bool.false_eq_true,if_false]at h ⊢
   split at h
   ·rename_i hok
    simp only[hok,if_true]
    split at h
    ·rename_i u hu
     cases h
     first | rfl | rw[hu]
    ·rename_i hu
     first | rw[hu] | skip
     try simp only
     split at h
     ·rename_i hl
      rw[if_pos hl]
      exact jPy b h
     ·cases h
   ·cases h
 ·rename_i hw
  rw[if_neg hw]at h
  cases h;rfl
theorem jM4 {ts:Slots}{E:EM}{dst:Option Tmp}{t:TypeId}{x i:Operand}{ok:Bool}{type:TypeId}{pos:String}{after:Array Edge}{guard:Option (Nat × Bool)}{v:Value}(b:EB)
 (h:jBP call P ng ops ts E ⟨dst,.lookup t x i ok,type,pos,after,guard⟩=some (v,E)):jBP call P ng ops ts (E.push b) ⟨dst,.lookup t x i ok,type,pos,after,guard⟩=some (v,E.push b):=by
 unfold jBP at h ⊢
 split
 ·rename_i hw
  rw[if_pos hw]at h
  have h:=(jFc rfl ⟨(by intro f args tys e;cases e),(by intro r m args tys e;cases e)⟩).1 h
  refine (jFc rfl ⟨(by intro f args tys e;cases e),(by intro r m args tys e;cases e)⟩).2 ?_
  have hA:∀F:EM,opA P ng ts ⟨dst,.lookup t x i ok,type,pos,after,guard⟩ F=(opA P ng ts ⟨dst,.lookup t x i ok,type,pos,after,guard⟩ E).map fun r=>(r.1,F):=by
   intro F
   unfold opA jO8
   simp only[jC6,jGp,jDb,Bool.false_eq_true,if_false,opS]
   split
   ·split
    ·rfl
    ·split <;> rfl
   ·rfl
  unfold opE at h ⊢
  rw[hA (E.push b)]
  split at h
  ·rename_i r hr
   cases h
   rw[hr]
   rfl
  ·rename_i hr
   rw[hr]
   simp only[Option.map_none]
   unfold opU at h ⊢
   split at h
   ·rename_i hok
    rw[if_pos hok]
    simp only at h ⊢
    split at h
    ·rename_i r hl
     cases h
     rw[jHx b (jKU hl),hl]
     rfl
    ·rename_i hl
     rw[jHx b (jFv h),hl,jLB b (jFv h),h]
     rfl
   ·cases h
 ·rename_i hw
  rw[if_neg hw]at h
  cases h;rfl
theorem jQ1 {ts:Slots}{E:EM}{o:Oper}{v:Value}(b:EB)(hk:jPD o.op=true)(h:jBP call P ng ops ts E o=some (v,E)):jBP call P ng ops ts (E.push b) o=some (v,E.push b):=by
 obtain⟨dst,op,type,pos,after,guard⟩:=o
 cases op <;> simp[jPD]at hk
 ·exact jN3 b ⟨_,_,rfl⟩ h
 ·exact jM4 b h
theorem jIL.firstL {F:Slots × EM}{i:Nat}{oi:Oper}{v:Value}{C:Array Bool}(hi:ops[i]? = some oi)(hload:jPD oi.op=true):∀ (n:Nat) {listed:Array Bool} {ts:Slots} {E:EM},Shut jPx ops C i listed→i ∈ Region.ready .any ops listed→Region.free .any ops listed i=true →
  jBP call P ng ops ts E oi=some (v,E)→jIL call P ng ops F n (listed.setIfInBounds i true) (jCn ts oi.dst v) E→jIL call P ng ops F (n+1) listed ts E
 | n,listed,ts,E,hsh,hri,jCL,hv,h=>by
   refine⟨fun e=>(by rw[e]at hri;cases hri),fun j hj=>?_⟩
   by_cases hji:j=i
   ·subst hji
    refine⟨_,E,?_,h⟩
    rw[jBg hi,hv];rfl
   ·have hj':=(mem_ready (md:=.any) (ops:=ops)).1 hj
    have hri':=(mem_ready (md:=.any) (ops:=ops)).1 hri
    obtain⟨jRt,oj,hoj,jUk⟩:=hj'
    have qAe:listed.getD i false=false:=by rw[jIJ (jOJ hri'.1) false true];exact hri'.1
    have hap:oi.apart ops oj=true:=Region.free_spec hi jCL j oj hoj hji jRt fun e he hb hon=>by
     have:=jUk e he hb
     rw[hon,qAe]at this
     cases this
    obtain⟨a1,a2,a3⟩:=Oper.apart_spec hap
    have hkj:=hsh.keep j oj hoj (hsh.within hj hji) jRt
    cases n with
    | zero =>
      have:=ready_mono hj hji
      rw[h.1]at this
      cases this
    | succ n =>
      obtain⟨hne,jDY⟩:=h
      obtain⟨ts2,E2,hs,jUl⟩:=jDY j (ready_mono hj hji)
      rw[jBg hoj,jCo a1]at hs
      simp only[Option.map_eq_some_iff,Prod.mk.injEq]at hs
      obtain⟨⟨u,E3⟩,jDx,hts,hE⟩:=hs
      simp only at hts hE
      subst hts hE
      refine⟨jCn ts oj.dst u,E3,by rw[jBg hoj,jDx];rfl,?_⟩
      have hv3:jBP call P ng ops (jCn ts oj.dst u) E3 oi=some (v,E3):=by
       rw[jCo a3]
       rcases jQM hkj jDx with hE3 | ⟨b,hE3⟩
       ·rw[hE3];exact hv
       ·rw[hE3];exact jQ1 b hload hv
      refine jIL.firstL hi hload n (hsh.next hj hji) (ready_mono hri (fun e=>hji e.symm)) (jG9 jCL) hv3 ?_
      rw[jOw,←jFa v u a2]
      exact jUl
def jVA (ops:Array Oper)(i:Nat):Nat→Array Bool→Array Bool
 | 0,C=>C
 | n+1,C=>match (jHv ops C).find? (fun j=>!(j == i)) with
   | some j=>jVA ops i n (C.setIfInBounds j true)
   | none=>C
def jXE (ok:Op→Bool)(ops:Array Oper)(C:Array Bool)(i:Nat)(listed:Array Bool):Bool :=
 C.size == listed.size && ((jHv ops C).all (fun j=>j == i) && ((List.range listed.size).all (fun k=>!(listed.getD k false) || C.getD k false) &&
  (List.range ops.size).all fun j=>match ops[j]? with
    | some o=>!(C.getD j false) || (listed.getD j true || ok o.op)
    | none=>true))
theorem jUZ {ok:Op→Bool}{C listed:Array Bool}{i:Nat}(h:jXE ok ops C i listed=true):Shut ok ops C i listed:=by
 simp only[jXE,jEd,Bool.and_eq_true,beq_iff_eq,List.all_eq_true,List.mem_range]at h
 obtain⟨h1,h2,h3,h4⟩:=h
 refine⟨h1,h2,fun k hk=>?_,fun j o ho hc hl=>?_⟩
 ·have hlt:k<listed.size:=by
   simp only[Array.getD_eq_getD_getElem?]at hk
   cases hq:listed[k]? with
   | none=>rw[hq]at hk;cases hk
   | some b=>exact (Array.getElem?_eq_some_iff.1 hq).1
  have:=h3 k hlt
  simpa [hk] using this
 ·have:=h4 j (Array.getElem?_eq_some_iff.1 ho).1
  rw[ho]at this
  simpa [hc,hl] using this
def jTT (P:Program)(op:Op):Bool:=jE0 op || (match op with
 | .binOp .. | .index .. | .unOp ..=>true
 | .slice t _ _ _ none=>match P.underlying t with
   | some .string=>true
   | _=>false
 | _=>false)
def jUA (op:Op):Op→Bool:=if jPD op then jPx else jBw
inductive Pick where
 | sole (i:Nat)
 | first (i:Nat)
 | keep (i:Nat)
def jN5 (P:Program)(ops:Array Oper)(listed:Array Bool):List Nat→Option Pick
 | []=>none
 | i :: r=>if jVP ops listed i then
    (match ops[i]? with
    | some o=>if jTT P o.op then some (.first i) else if jBw o.op && jXE (jUA o.op) ops (jVA ops i ops.size listed) i listed then some (.keep i) else jN5 P ops listed r
    | none=>none)
   else jN5 P ops listed r
def Pick.at:Pick→Nat
 | .sole i | .first i | .keep i=>i
def jQG (P:Program)(ops:Array Oper):Nat→Array Bool→Option (List Pick)
 | 0,listed=>if jHv ops listed=[] then some [] else none
 | n+1,listed=>match jHv ops listed with
   | []=>none
   | [i]=>match jQG P ops n (listed.setIfInBounds i true) with
     | some l=>some (.sole i :: l)
     | none=>none
   | i :: j :: r=>match jN5 P ops listed (i :: j :: r) with
     | some k=>match jQG P ops n (listed.setIfInBounds k.at true) with
       | some l=>some (k :: l)
       | none=>none
     | none=>none
def jIu (call:jBG)(P:Program)(ng:Nat)(ops:Array Oper)(l:List Pick):Slots→EM→Option (Slots × EM) :=
 List.rec (motive:=fun _=>Slots→EM→Option (Slots × EM)) (fun ts E=>some (ts,E)) (fun p _ ih ts E=>match p with
  | .first i=>match ops[i]? with
    | some o=>match jEx P ng ops ts i with
      | some v=>ih (jCn ts o.dst v) E
      | none=>none
    | none=>none
  | .keep i=>match ops[i]? with
    | some o=>match jBP call P ng ops ts E o with
      | some (v,_)=>ih (jCn ts o.dst v) E
      | none=>none
    | none=>none
  | .sole i=>match jCE call P ng ops ts E i with
    | some (ts1,E1)=>ih ts1 E1
    | none=>none) l
theorem jP3 {listed:Array Bool}{k:Pick}:∀ {l:List Nat},jN5 P ops listed l=some k→k.at ∈ l∧Region.free .any ops listed k.at=true∧(∀i,k≠.sole i) ∧
  (∀i,k=.keep i→∃o,ops[i]? = some o∧jBw o.op=true∧Shut (jUA o.op) ops (jVA ops i ops.size listed) i listed)
 | [],h=>by simp[jN5]at h
 | i :: r,h=>by
   simp only[jN5]at h
   have later:jN5 P ops listed r=some k→_:=fun h=>by
    obtain⟨h1,h2,h3,h4⟩:=jP3 h
    exact (⟨List.mem_cons_of_mem _ h1,h2,h3,h4⟩:k.at ∈ i :: r∧Region.free .any ops listed k.at=true∧(∀i,k≠.sole i) ∧
     (∀i,k=.keep i→∃o,ops[i]? = some o∧jBw o.op=true∧Shut (jUA o.op) ops (jVA ops i ops.size listed) i listed))
   split at h
   ·rename_i hf
    have hf:=jPv hf
    split at h
    ·rename_i o ho
     split at h
     ·cases h
      refine⟨List.mem_cons_self ..,hf,?_,?_⟩
      ·intro i e;cases e
      ·intro i e;cases e
     ·split at h
      ·rename_i hk
       cases h
       simp only[Bool.and_eq_true]at hk
       refine⟨List.mem_cons_self ..,hf,?_,?_⟩
       ·intro i e;cases e
       ·intro i e;cases e;exact⟨o,ho,hk.1,jUZ hk.2⟩
      ·exact later h
    ·cases h
   ·exact later h
theorem jD6 {F:Slots × EM}:∀ (n:Nat) {listed:Array Bool} {l:List Pick} {ts:Slots} {E:EM},jQG P ops n listed=some l→jIu call P ng ops l ts E=some F→jIL call P ng ops F n listed ts E
 | 0,listed,l,ts,E,hp,h=>by
   simp only[jQG,jEd]at hp
   split at hp
   ·rename_i hr
    cases hp
    exact⟨hr,by cases h;rfl⟩
   ·cases hp
 | n+1,listed,l,ts,E,hp,h=>by
   simp only[jQG,jEd]at hp
   split at hp
   ·cases hp
   ·rename_i i hr
    split at hp
    ·rename_i l1 h1
     cases hp
     refine⟨by rw[hr];simp,fun k hk=>?_⟩
     rw[hr]at hk
     have hk:=List.mem_singleton.1 hk
     subst hk
     have h:(match jCE call P ng ops ts E k with
      | some (ts1,E1)=>jIu call P ng ops l1 ts1 E1
      | none=>none)=some F:=h
     split at h
     ·rename_i ts1 E1 hs
      exact⟨ts1,E1,hs,jD6 n h1 h⟩
     ·cases h
    ·cases hp
   ·rename_i i j r hr
    split at hp
    ·rename_i k hk
     obtain⟨jFu,jCL,hns,jFR⟩:=jP3 hk
     rw[←hr]at jFu
     split at hp
     ·rename_i l1 h1
      cases hp
      cases k with
      | sole i=>exact absurd rfl (hns i)
      | first k =>
        have h:(match ops[k]? with
         | some o=>match jEx P ng ops ts k with
           | some v=>jIu call P ng ops l1 (jCn ts o.dst v) E
           | none=>none
         | none=>none)=some F:=h
        split at h
        ·rename_i o ho
         split at h
         ·rename_i v hv
          exact jIL.first ho n jFu jCL hv (jD6 n h1 h)
         ·cases h
        ·cases h
      | keep k =>
        have h:(match ops[k]? with
         | some o=>match jBP call P ng ops ts E o with
           | some (v,_)=>jIu call P ng ops l1 (jCn ts o.dst v) E
           | none=>none
         | none=>none)=some F:=h
        obtain⟨o,ho,hko,hsh⟩:=jFR k rfl
        rw[ho]at h
        simp only at h
        split at h
        ·rename_i v E2 hv
         have hE:=jCJ hko hv
         subst hE
         unfold jUA at hsh
         split at hsh
         ·rename_i hlo
          exact jIL.firstL ho hlo n hsh jFu jCL hv (jD6 n h1 h)
         ·exact jIL.firstK ho n hsh jFu jCL hv (jD6 n h1 h)
        ·cases h
     ·cases hp
    ·cases hp
def jUE (call:jBG)(P:Program)(ng:Nat)(ops:Array Oper)(ts:Slots)(E:EM):Option (Slots × EM) :=
 match jQG P ops ops.size (Array.replicate ops.size false) with
 | some l=>match jIu call P ng ops l ts E with
   | some r=>some r
   | none=>jQb call P ng ops ts E
 | none=>jQb call P ng ops ts E
theorem jPc {ts ts1:Slots}{E E1:EM}(h:jUE call P ng ops ts E=some (ts1,E1))(t:Nat):jPI call P ng ops (Region.linearise .any ops t) ts E=some (ts1,E1):=by
 unfold jUE at h
 split at h
 ·rename_i l hl
  split at h
  ·rename_i r hr
   cases h
   exact (jD6 ops.size hl hr).run ops.size t
  ·exact jMh h t
 ·exact jMh h t
end
end
end Go.Eng
