/-
  A CLOSED RUN, HELD AGAINST THE MODEL (10): values that are equal, operations that keep memory, and that an operation sees its operands alone.
-/
import Derived.Test.YtldapapdolkiaaaGreatDoorEngJ
namespace Go.Eng
noncomputable section
set_option linter.unusedVariables false
set_option linter.unusedSimpArgs false
def eqL (f:Value→Value→Bool):List Value→List Value→Bool
 | [],[]=>true
 | a :: r,b :: s=>f a b && eqL f r s
 | _,_=>false
theorem jO2 {f:Value→Value→Bool}(h:∀a b,f a b=true→a=b):∀ {r s:List Value},eqL f r s=true→r=s
 | [],[],_=>rfl
 | [],_ :: _,e=>by simp[eqL]at e
 | _ :: _,[],e=>by simp[eqL]at e
 | a :: r,b :: s,e=>by
   simp only[eqL,Bool.and_eq_true]at e
   rw[h _ _ e.1,jO2 h e.2]
def eqV:Nat→Value→Value→Bool
 | n+1,.bool a,.bool b=>a == b
 | n+1,.int k a,.int k' b=>decide (k=k') && decide (a=b)
 | n+1,.float k a,.float k' b=>decide (k=k') && decide (a=b)
 | n+1,.string a,.string b=>decide (a=b)
 | n+1,.pointer a,.pointer b=>decide (a=b)
 | n+1,.slice a l c,.slice b l' c'=>decide (a=b) && decide (l=l') && decide (c=c')
 | n+1,.map a,.map b=>decide (a=b)
 | n+1,.func f a c,.func f' a' c'=>decide (f=f') && eqL (eqV n) a.toList a'.toList && eqL (eqV n) c.toList c'.toList
 | n+1,.nilFunc,.nilFunc=>true
 | n+1,.nilIface,.nilIface=>true
 | n+1,.iface t v,.iface t' v'=>decide (t=t') && eqV n v v'
 | n+1,.agg a,.agg b=>eqL (eqV n) a.toList b.toList
 | n+1,.tuple a,.tuple b=>eqL (eqV n) a.toList b.toList
 | _,_,_=>false
theorem jO6:∀ (n:Nat) (a b:Value),eqV n a b=true→a=b
 | 0,a,b,h=>by cases a <;> cases b <;> simp[eqV]at h
 | n+1,a,b,h=>by
   have ih:=jO6 n
   cases a <;> cases b <;> simp only[eqV,Bool.and_eq_true,decide_eq_true_eq,beq_iff_eq]at h <;> first
    | (cases h;done)
    | (subst h;rfl)
    | rfl
    | (obtain⟨rfl,rfl⟩:=h;rfl)
    | (obtain⟨⟨rfl,rfl⟩,rfl⟩:=h;rfl)
    | (obtain⟨⟨rfl,h1⟩,h2⟩:=h;rw[Array.toList_inj.1 (jO2 ih h1),Array.toList_inj.1 (jO2 ih h2)])
    | (obtain⟨rfl,h1⟩:=h;rw[ih _ _ h1])
    | (rw[Array.toList_inj.1 (jO2 ih h)])
def eqTs (r s:Slots):Bool:=decide (r.n=s.n) && r.t.eqT (eqV 64) s.t
theorem jXv {r s:Slots}(h:eqTs r s=true):r=s:=by
 cases r;cases s
 simp only[eqTs,Bool.and_eq_true,decide_eq_true_eq]at h
 rw[h.1,Tr.eqT_ok (jO6 64) h.2]
/-! ### Operations that keep memory -/
def jBw:Op→Bool
 | .move _ | .assign _ | .pick .. | .build .. | .load .. | .nilCheck _ | .binOp .. | .unOp .. | .convert .. | .makeFunc .. | .slice .. | .fieldAddr .. | .field .. | .indexAddr .. | .index .. | .extract .. | .makeInterface .. | .typeAssert .. | .lookup ..=>true
 | .call ⟨.builtin .len,_,_⟩ | .call ⟨.builtin .min,_,_⟩ | .call ⟨.builtin .max,_,_⟩=>true
 | _=>false
theorem jEq {α:Type}{x:Option α}{E E1:EM}{v:α}(h:x.map (fun u=>(u,E))=some (v,E1)):E1=E:=by
 simp only[Option.map_eq_some_iff,Prod.mk.injEq]at h
 obtain⟨_,_,_,h⟩:=h
 exact h.symm
theorem jL7 {P:Program}{ts:Slots}{E E1:EM}{op:Op}{v:Value}(hk:jBw op=true)(h:opS P ts E op=some (v,E1)):E1=E:=by
 cases op with
 | move x=>simp only[opS,jAs,jAf,jAo,jAg,jA2,jA1,jAr,jAD,jAs,jAf,jAo,jAg,jA2,jA1,jAr,jAD]at h;cases h;rfl
 | assign x=>simp only[opS,jAs,jAf,jAo,jAg,jA2,jA1,jAr,jAD,jAs,jAf,jAo,jAg,jA2,jA1,jAr,jAD]at h;cases h;rfl
 | pick c a b=>simp only[opS,jAs,jAf,jAo,jAg,jA2,jA1,jAr,jAD,jAs,jAf,jAo,jAg,jA2,jA1,jAr,jAD]at h;split at h <;> cases h;rfl
 | build t ps=>simp only[opS,jAs,jAf,jAo,jAg,jA2,jA1,jAr,jAD,jAs,jAf,jAo,jAg,jA2,jA1,jAr,jAD]at h;exact jEq h
 | load t x=>simp only[opS,jAs,jAf,jAo,jAg,jA2,jA1,jAr,jAD,jAs,jAf,jAo,jAg,jA2,jA1,jAr,jAD]at h;split at h;exact jEq h;cases h
 | nilCheck x=>simp only[opS,jAs,jAf,jAo,jAg,jA2,jA1,jAr,jAD,jAs,jAf,jAo,jAg,jA2,jA1,jAr,jAD]at h;split at h <;> cases h <;> rfl
 | binOp bop t x y yt =>
   simp only[opS,jAs,jAf,jAo,jAg,jA2,jA1,jAr,jAD,jAs,jAf,jAo,jAg,jA2,jA1,jAr,jAD]at h
   split at h
   ·split at h
    ·simp only[Option.map_eq_some_iff,Prod.mk.injEq]at h;obtain⟨_,_,_,h⟩:=h;exact h.symm
    ·cases h
   ·split at h
    ·simp only[Option.map_eq_some_iff,Prod.mk.injEq]at h;obtain⟨_,_,_,h⟩:=h;exact h.symm
    ·cases h
   ·cases h
 | unOp a b c=>simp[opS]at h
 | convert src dst x =>
   simp only[opS,jAs,jAf,jAo,jAg,jA2,jA1,jAr,jAD,jAs,jAf,jAo,jAg,jA2,jA1,jAr,jAD]at h
   split at h
   ·split at h
    ·split at h
     ·split at h
      ·split at h
       ·cases h;rfl
       ·cases h
      ·cases h
     ·cases h
    ·cases h
   ·cases h
 | makeFunc fn a b =>
   cases fn with
   | func f=>simp only[opS,jAs,jAf,jAo,jAg,jA2,jA1,jAr,jAD,jAs,jAf,jAo,jAg,jA2,jA1,jAr,jAD]at h;cases h;rfl
   | _=>simp[opS]at h
 | slice t x lo hi mx =>
   cases mx with
   | some m=>simp[opS]at h
   | none=>simp only[opS,jAs,jAf,jAo,jAg,jA2,jA1,jAr,jAD,jAs,jAf,jAo,jAg,jA2,jA1,jAr,jAD]at h;exact jEq h
 | fieldAddr s x f=>simp only[opS,jAs,jAf,jAo,jAg,jA2,jA1,jAr,jAD,jAs,jAf,jAo,jAg,jA2,jA1,jAr,jAD]at h;exact jEq h
 | field s x f=>simp only[opS,jAs,jAf,jAo,jAg,jA2,jA1,jAr,jAD,jAs,jAf,jAo,jAg,jA2,jA1,jAr,jAD]at h;exact jEq h
 | indexAddr s x f=>simp only[opS,jAs,jAf,jAo,jAg,jA2,jA1,jAr,jAD,jAs,jAf,jAo,jAg,jA2,jA1,jAr,jAD]at h;exact jEq h
 | index s x f=>simp[opS]at h
 | extract x i=>simp only[opS,jAs,jAf,jAo,jAg,jA2,jA1,jAr,jAD,jAs,jAf,jAo,jAg,jA2,jA1,jAr,jAD]at h;exact jEq h
 | makeInterface t x =>
   simp only[opS,jMW]at h
   split at h <;> cases h <;> rfl
 | typeAssert _ _ _ _=>simp[opS]at h
 | lookup _ _ _ _=>simp[opS]at h
 | call c =>
   obtain⟨callee,args,tys⟩:=c
   cases callee with
   | value f=>simp[jBw]at hk
   | invoke r m=>simp[jBw]at hk
   | builtin b =>
     cases b <;> try (simp[jBw]at hk;done)
     case len =>
      simp only[opS,jAs,jAf,jAo,jAg,jA2,jA1,jAr,jAD,jAs,jAf,jAo,jAg,jA2,jA1,jAr,jAD]at h
      split at h
      ·split at h <;> cases h;rfl
      ·cases h
     all_goals simp[opS]at h
 | _=>simp[jBw]at hk
theorem jQD {P:Program}{ng:Nat}{ts:Slots}{E E1:EM}{o:Oper}{v:Value}(hk:jBw o.op=true)(h:jO8 P ng ts o E=some (v,E1)):E1=E:=by
 unfold jO8 at h
 split at h
 ·split at h
  ·cases h;rfl
  ·split at h
   ·exact jL7 hk h
   ·cases h
 ·cases h
theorem jT4 {P:Program}{ng:Nat}{ts:Slots}{E E1:EM}{o:Oper}{v:Value}(hk:jBw o.op=true)(h:opA P ng ts o E=some (v,E1)):E1=E:=by
 unfold opA at h
 split at h
 ·cases h;rfl
 ·split at h
  ·rename_i r hr
   cases h
   unfold jGp at hr
   split at hr
   ·exact jL7 hk hr
   ·cases hr
  ·exact jQD hk h
/-! ### An operation sees its operands alone -/
theorem jIF {P:Program}{ts us:Slots}{E:EM}{op:Op}(h:∀x ∈ op.operands,evT ts x=evT us x):opS P ts E op=opS P us E op:=by
 have hp:∀ps:Array (Nat × Operand),(∀x ∈ (ps.toList.map (·.2)).toArray,evT ts x=evT us x)→jIr ts ps=jIr us ps:=by
  intro ps hh
  unfold jIr
  refine List.map_congr_left fun p hm=>?_
  rw[hh p.2 (by simp only[List.mem_toArray,List.mem_map];exact⟨p,hm,rfl⟩)]
 have hm:∀xs:Array Operand,(∀x ∈ xs,evT ts x=evT us x)→xs.map (evT ts)=xs.map (evT us):=fun xs hh=>Array.map_congr_left hh
 have ho:∀x:Option Operand,(∀y ∈ x.toArray,evT ts y=evT us y)→x.map (evT ts)=x.map (evT us):=by
  intro x hh
  cases x with
  | none=>rfl
  | some y=>simp only[Option.map_some];rw[hh y (by simp)]
 cases op with
 | move x=>simp only[opS,jAs,jAf,jAo,jAg,jA2,jA1,jAr,jAD,jAs,jAf,jAo,jAg,jA2,jA1,jAr,jAD];rw[h x (by simp[Op.operands])]
 | assign x=>simp only[opS,jAs,jAf,jAo,jAg,jA2,jA1,jAr,jAD,jAs,jAf,jAo,jAg,jA2,jA1,jAr,jAD];rw[h x (by simp[Op.operands])]
 | pick c a b=>simp only[opS,jAs,jAf,jAo,jAg,jA2,jA1,jAr,jAD,jAs,jAf,jAo,jAg,jA2,jA1,jAr,jAD];rw[h c (by simp[Op.operands]),h a (by simp[Op.operands]),h b (by simp[Op.operands])]
 | alloc t=>rfl
 | box t x=>simp only[opS,jAs,jAf,jAo,jAg,jA2,jA1,jAr,jAD,jAs,jAf,jAo,jAg,jA2,jA1,jAr,jAD];rw[h x (by simp[Op.operands])]
 | build t ps=>simp only[opS,jAs,jAf,jAo,jAg,jA2,jA1,jAr,jAD,jAs,jAf,jAo,jAg,jA2,jA1,jAr,jAD];rw[hp ps h]
 | buildSlice t n ps=>simp only[opS,jAs,jAf,jAo,jAg,jA2,jA1,jAr,jAD,jAs,jAf,jAo,jAg,jA2,jA1,jAr,jAD];rw[hp ps h]
 | load t x=>simp only[opS,jAs,jAf,jAo,jAg,jA2,jA1,jAr,jAD,jAs,jAf,jAo,jAg,jA2,jA1,jAr,jAD];rw[h x (by simp[Op.operands])]
 | store t x y=>simp only[opS,jAs,jAf,jAo,jAg,jA2,jA1,jAr,jAD,jAs,jAf,jAo,jAg,jA2,jA1,jAr,jAD];rw[h x (by simp[Op.operands]),h y (by simp[Op.operands])]
 | nilCheck x=>simp only[opS,jAs,jAf,jAo,jAg,jA2,jA1,jAr,jAD,jAs,jAf,jAo,jAg,jA2,jA1,jAr,jAD];rw[h x (by simp[Op.operands])]
 | binOp bop t x y yt=>simp only[opS,jAs,jAf,jAo,jAg,jA2,jA1,jAr,jAD,jAs,jAf,jAo,jAg,jA2,jA1,jAr,jAD];rw[h x (by simp[Op.operands]),h y (by simp[Op.operands])]
 | convert src dst x=>simp only[opS,jAs,jAf,jAo,jAg,jA2,jA1,jAr,jAD,jAs,jAf,jAo,jAg,jA2,jA1,jAr,jAD];rw[h x (by simp[Op.operands])]
 | makeFunc fn a b =>
   cases fn <;> simp only[opS,jAs,jAf,jAo,jAg,jA2,jA1,jAr,jAD,jAs,jAf,jAo,jAg,jA2,jA1,jAr,jAD]
   rw[hm a fun x hx=>h x (by simp[Op.operands];exact .inl (by simpa using hx)),hm b fun x hx=>h x (by simp[Op.operands];exact .inr (by simpa using hx))]
 | slice t x lo hi mx =>
   cases mx with
   | some m=>rfl
   | none =>
     simp only[opS,jAs,jAf,jAo,jAg,jA2,jA1,jAr,jAD,jAs,jAf,jAo,jAg,jA2,jA1,jAr,jAD]
     rw[h x (by simp[Op.operands]),ho lo fun y hy=>h y (by simp[Op.operands];exact .inr (.inl (by simpa using hy))),ho hi fun y hy=>h y (by simp[Op.operands];exact .inr (.inr (by simpa using hy)))]
 | makeInterface t x=>simp only[opS,jMW];rw[h x (by simp[Op.operands])]
 | fieldAddr s x f=>simp only[opS,jAs,jAf,jAo,jAg,jA2,jA1,jAr,jAD,jAs,jAf,jAo,jAg,jA2,jA1,jAr,jAD];rw[h x (by simp[Op.operands])]
 | field s x f=>simp only[opS,jAs,jAf,jAo,jAg,jA2,jA1,jAr,jAD,jAs,jAf,jAo,jAg,jA2,jA1,jAr,jAD];rw[h x (by simp[Op.operands])]
 | indexAddr s x i=>simp only[opS,jAs,jAf,jAo,jAg,jA2,jA1,jAr,jAD,jAs,jAf,jAo,jAg,jA2,jA1,jAr,jAD];rw[h x (by simp[Op.operands]),h i (by simp[Op.operands])]
 | range t x=>simp only[opS,jAs,jAf,jAo,jAg,jA2,jA1,jAr,jAD,jAs,jAf,jAo,jAg,jA2,jA1,jAr,jAD];rw[h x (by simp[Op.operands])]
 | next x s =>
   cases s
   ·rfl
   ·simp only[opS,jAs,jAf,jAo,jAg,jA2,jA1,jAr,jAD,jAs,jAf,jAo,jAg,jA2,jA1,jAr,jAD];rw[h x (by simp[Op.operands])]
 | extract x i=>simp only[opS,jAs,jAf,jAo,jAg,jA2,jA1,jAr,jAD,jAs,jAf,jAo,jAg,jA2,jA1,jAr,jAD];rw[h x (by simp[Op.operands])]
 | call c =>
   obtain⟨callee,args,tys⟩:=c
   cases callee with
   | value f=>rfl
   | invoke r m=>rfl
   | builtin b =>
     have ha:args.toList.map (evT ts)=args.toList.map (evT us):=List.map_congr_left fun x hx=>h x (by simp[Op.operands,Call.operands];simpa using hx)
     cases b <;> try rfl
     case len =>
      simp only[opS,jAs,jAf,jAo,jAg,jA2,jA1,jAr,jAD,jAs,jAf,jAo,jAg,jA2,jA1,jAr,jAD]
      split
      ·rename_i x hx
       rw[h x (by
        have:x ∈ args.toList:=by rw[hx];simp
        simp[Op.operands,Call.operands];simpa using this)]
      ·rfl
     case append=>simp only[opS,jAs,jAf,jAo,jAg,jA2,jA1,jAr,jAD,jAs,jAf,jAo,jAg,jA2,jA1,jAr,jAD];rw[ha]
 | _=>rfl
theorem jQ2 {P:Program}{ng:Nat}{ts us:Slots}{E:EM}{o:Oper}(h:∀x ∈ o.op.operands,evT ts x=evT us x):jO8 P ng ts o E=jO8 P ng us o E:=by
 unfold jO8
 have h1:o.op.operands.toList.all (fun x=>jBl (evT ts x))=o.op.operands.toList.all (fun x=>jBl (evT us x)):=by
  rw[Bool.eq_iff_iff]
  simp only[List.all_eq_true]
  exact⟨fun k x hx=>by rw[←h x (by simpa using hx)];exact k x hx,fun k x hx=>by rw[h x (by simpa using hx)];exact k x hx⟩
 have h2:jB4 o.op=true→jDN P ts o=jDN P us o:=by
  intro hn
  unfold jDN
  rw[execOp_congr o (fun cs b he=>by rw[he]at hn;simp[jB4]at hn) h]
 have h3:(if (o.op.operands.toList.all (fun x=>jBl (evT ts x)) && jB4 o.op)=true then jDN P ts o else none) =
  (if (o.op.operands.toList.all (fun x=>jBl (evT us x)) && jB4 o.op)=true then jDN P us o else none):=by
  rw[h1]
  split
  ·rename_i hc
   simp only[Bool.and_eq_true]at hc
   exact h2 hc.2
  ·rfl
 rw[h3,jIF h]
theorem jJc {P:Program}{ng:Nat}{ts us:Slots}{op:Op}(h:∀x ∈ op.operands,evT ts x=evT us x):jC6 P ng ts op=jC6 P ng us op:=by
 cases op with
 | binOp bop t x y yt=>simp only[jC6];rw[h x (by simp[Op.operands]),h y (by simp[Op.operands])]
 | index t x y=>simp only[jC6];rw[h x (by simp[Op.operands]),h y (by simp[Op.operands])]
 | unOp uop t x =>
   cases uop with
   | not=>simp only[jC6];rw[h x (by simp[Op.operands])]
   | _=>rfl
 | slice t x lo hi mx =>
   cases mx with
   | some m=>rfl
   | none =>
     have ho:∀z:Option Operand,(∀y ∈ z.toArray,evT ts y=evT us y)→z.map (evT ts)=z.map (evT us):=by
      intro z hz
      cases z with
      | none=>rfl
      | some y=>simp[hz y (by simp)]
     simp only[jC6]
     rw[h x (by simp[Op.operands]),ho lo fun y hy=>h y (by simp[Op.operands];exact .inr (.inl (by simpa using hy))),ho hi fun y hy=>h y (by simp[Op.operands];exact .inr (.inr (by simpa using hy)))]
 | call c =>
   obtain⟨callee,args,tys⟩:=c
   cases callee with
   | builtin b =>
     cases b with
     | len =>
       simp only[jC6]
       unfold fLen
       split
       ·rename_i x hx
        rw[h x (by
         have:x ∈ args.toList:=by rw[hx];simp
         simp[Op.operands,Call.operands];simpa using this)]
       ·rfl
     | _=>rfl
   | value f =>
     cases f with
     | func g =>
       simp only[jC6]
       unfold fExt
       split
       ·rfl
       ·split
        ·rename_i x y hxy
         have hm:∀z ∈ args.toList,evT ts z=evT us z:=fun z hz=>h z (by simp[Op.operands,Call.operands];exact .inr (by simpa using hz))
         rw[hm x (by rw[hxy];simp),hm y (by rw[hxy];simp)]
        ·rfl
     | _=>rfl
   | _=>rfl
 | _=>rfl
theorem jJA {P:Program}{ng:Nat}{ts us:Slots}{E:EM}{op:Op}(h:∀x ∈ op.operands,evT ts x=evT us x):jGp P ng ts E op=jGp P ng us E op:=by
 unfold jGp;rw[jIF h]
theorem jS7 {P:Program}{ng:Nat}{ts us:Slots}{E:EM}{o:Oper}(h:∀x ∈ o.op.operands,evT ts x=evT us x):opA P ng ts o E=opA P ng us o E:=by
 unfold opA;rw[jJc h,jJA h,jQ2 h]
end
end Go.Eng
