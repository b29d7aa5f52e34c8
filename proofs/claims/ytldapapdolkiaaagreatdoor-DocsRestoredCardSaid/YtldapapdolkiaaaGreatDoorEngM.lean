/-
  A CLOSED RUN, HELD AGAINST THE MODEL (12): frames, and the abstract run of a function.
-/
import Derived.Test.YtldapapdolkiaaaGreatDoorEngP
namespace Go.Eng
noncomputable section
set_option linter.unusedVariables false
set_option linter.unusedSimpArgs false
inductive DE where
 | col (k:Nat)
 | call (v:Value) (args:List Value)
structure EF where
 fn:FuncId
 ts:Slots
 todo:List Item
 defers:List DE
 ret:Bool
 roundOf:Option Nat
inductive SR where
 | next (f:EF) (E:EM)
 | done (v:Value) (E:EM)
 | fail
def jDF (P:Program)(E:EM)(ts:Slots):List ResultVar→Option (List Value)
 | []=>some []
 | .tmp t :: r=>match jDF P E ts r with
   | some l=>some (ts.get t :: l)
   | none=>none
 | .cell a t :: r=>match ts.get a with
   | .pointer (some p)=>match jOd P E t p,jDF P E ts r with
     | some v,some l=>some (v :: l)
     | _,_=>none
   | _=>none
def outE (vs:List Value):Value :=
 match vs with
 | [v]=>v
 | vs=>.tuple vs.toArray
def jET (f:EF)(E:EM)(jump:Option Code):SR :=
 match f.roundOf with
 | none=>match jump with
   | none | some .ret=>.next { f with ret:=true } E
   | _=>.fail
 | some l=>match E.get l with
   | .obj (.loop r)=>.done (.bool jump.isNone) (E.set l (.obj (.loop { r with state:=if jump.isNone then .ready else .done,pending:=jump })))
   | _=>.fail
def jZw (call:jBG)(v:Value)(args:List Value)(E:EM):Option EM :=
 match v with
 | .func (.func _) _ _=>match call v args E with
   | some (_,E1)=>some E1
   | none=>none
 | _=>none
def jAH (call:jBG)(P:Program)(f:EF)(E:EM):SR :=
 match f.roundOf with
 | some _=>.fail
 | none =>
   match f.defers with
   | .col k :: ds=>match E.get k with
     | .obj (.deferred (some []))=>.next { f with defers:=ds } (E.set k (.obj (.deferred none)))
     | _=>.fail
   | .call v args :: ds=>match jZw call v args E with
     | some E1=>.next { f with defers:=ds } E1
     | none=>.fail
   | []=>match P.funcs[f.fn]? with
     | some fn=>match jDF P E f.ts fn.results.toList with
       | some vs=>.done (outE vs) E
       | none=>.fail
     | none=>.fail
def jAB (ng:Nat)(f:EF)(E:EM)(c:Operand)(x y:Code)(k:List Item):SR :=
 if okX ng c then
  match evT f.ts c with
  | .bool b=>.next ⟨f.fn,f.ts,.code (if b then x else y) :: k,f.defers,false,f.roundOf⟩ E
  | _=>.fail
 else .fail
def jAy (f:EF)(E:EM)(id:Nat)(k:List Item):SR :=
 match exitTo id k with
 | some k'=>.next ⟨f.fn,f.ts,k',f.defers,false,f.roundOf⟩ E
 | none=>jET f E (some (.exit id))
def jAx (f:EF)(E:EM)(l:Nat)(k:List Item):SR :=
 match gotoIn l k with
 | some k'=>.next ⟨f.fn,f.ts,k',f.defers,false,f.roundOf⟩ E
 | none=>jET f E (some (.goto l))
def jMn (P:Program):Op→Bool
 | .defer _=>true
 | .call ⟨.builtin .recover,_,_⟩=>true
 | .convert src dst _=>match P.underlying src,P.underlying dst with
   | some .string,some (.slice _)=>true
   | _,_=>false
 | _=>false
def jOG (P:Program)(ng:Nat)(ts:Slots)(E:EM):Op→Option (Value × EM)
 | .convert src dst x=>if okX ng x then jSA P E src dst (evT ts x) else none
 | _=>none
def jM9:Op→Bool
 | .call ⟨.builtin .recover,_,_⟩=>true
 | _=>false
def jMD (ng:Nat)(ts:Slots):Op→Option (Value × List Value)
 | .defer ⟨.value f,args,_⟩=>if okX ng f && okL ng args.toList then some (evT ts f,args.toList.map (evT ts)) else none
 | _=>none
def jKW:Value→Bool
 | .func (.func _) _ _=>true
 | _=>false
def jWD (call:jBG)(P:Program)(ng:Nat)(ops:Array Oper)(ro:Option Nat):List Oper→Slots→EM→List DE→Option (Slots × EM × List DE)
 | [],ts,E,ds=>some (ts,E,ds)
 | o :: r,ts,E,ds =>
   if jMn P o.op then
    if o.guard.isSome then none else
    match jOG P ng ts E o.op with
    | some (v,E1)=>jWD call P ng ops ro r (jCn ts o.dst v) E1 ds
    | none =>
    match jMD ng ts o.op with
    | some (v,args)=>if ro.isNone && jKW v then jWD call P ng ops ro r (jCn ts o.dst undef) E (.call v args :: ds) else none
    | none=>if jM9 o.op then jWD call P ng ops ro r (jCn ts o.dst .nilIface) E ds else none
   else match jJl call P ng ops ts E o with
    | some (ts1,E1)=>jWD call P ng ops ro r ts1 E1 ds
    | none=>none
def jAk (call:jBG)(P:Program)(ng:Nat)(f:EF)(E:EM)(ops:Array Oper)(draw:Bool)(k:List Item):SR :=
 if !draw && ops.toList.any (fun o=>jMn P o.op) then
  match jWD call P ng ops f.roundOf ops.toList f.ts E f.defers with
  | some (ts1,E1,ds)=>.next ⟨f.fn,ts1,k,ds,false,f.roundOf⟩ E1
  | none=>.fail
 else
 match (if draw then jVi call P ng ops f.ts E else jZv call P ng ops ops.toList f.ts E) with
 | some (ts1,E1)=>.next ⟨f.fn,ts1,k,f.defers,false,f.roundOf⟩ E1
 | none=>.fail
def jAp (call:jBG)(ng:Nat)(f:EF)(E:EM)(g:Operand)(ps:Array Tmp)(as bd:Code)(k:List Item):SR :=
 if okX ng g then
  match f.roundOf with
  | none =>
    match call (evT f.ts g) [.func (.yield (E.n+1)) #[] #[]] ((E.push (.obj (.deferred (some [])))).push (.obj (.loop ⟨.ready,none,f.fn,f.ts.toL.toArray,ps,as,bd,E.n⟩))) with
    | some (_,E1)=>.next { f with todo:=.endRangeFunc (E.n+1) :: k,defers:=.col E.n :: f.defers } E1
    | none=>.fail
  | some l=>match E.get l with
    | .obj (.loop r) =>
      match call (evT f.ts g) [.func (.yield E.n) #[] #[]] (E.push (.obj (.loop ⟨.ready,none,f.fn,f.ts.toL.toArray,ps,as,bd,r.defers⟩))) with
      | some (_,E1)=>.next { f with todo:=.endRangeFunc E.n :: k } E1
      | none=>.fail
    | _=>.fail
 else .fail
def jAd (f:EF)(E:EM)(l:Nat)(k:List Item):SR :=
 match E.get l with
 | .obj (.loop r)=>if r.state=.busy then .fail else .next { f with todo:=(r.pending.map Item.code).toList++k } (E.set l (.obj (.loop { r with state:=.exhausted })))
 | _=>.fail
def jAq (f:EF)(E:EM)(k:List Item):SR :=
 match f.roundOf with
 | some l=>match E.get l with
   | .obj (.loop r)=>if r.state=.ready then .next { f with todo:=k } (E.set l (.obj (.loop { r with state:=.busy }))) else .fail
   | _=>.fail
 | none=>.fail
def jAz (call:jBG)(P:Program)(ng:Nat)(f:EF)(E:EM)(k:List Item):Code→SR
 | .ret=>jET f E (some .ret)
 | .skip=>.next ⟨f.fn,f.ts,k,f.defers,false,f.roundOf⟩ E
 | .label _=>.next ⟨f.fn,f.ts,k,f.defers,false,f.roundOf⟩ E
 | .seq a b=>.next ⟨f.fn,f.ts,.code a :: .code b :: k,f.defers,false,f.roundOf⟩ E
 | .cond c x y=>jAB ng f E c x y k
 | .block id b=>.next ⟨f.fn,f.ts,.code b :: .inBlock id :: k,f.defers,false,f.roundOf⟩ E
 | .loop b=>.next ⟨f.fn,f.ts,.code b :: .inLoop b :: k,f.defers,false,f.roundOf⟩ E
 | .scope b=>.next ⟨f.fn,f.ts,.code b :: .inScope b :: k,f.defers,false,f.roundOf⟩ E
 | .exit id=>jAy f E id k
 | .goto l=>jAx f E l k
 | .region _ ops draw=>jAk call P ng f E ops draw k
 | .rangeFunc g ps as bd=>jAp call ng f E g ps as bd k
 | .refuse _=>.fail
def jAA (call:jBG)(P:Program)(ng:Nat)(f:EF)(E:EM)(k:List Item):Item→SR
 | .code c=>jAz call P ng f E k c
 | .inBlock _=>.next ⟨f.fn,f.ts,k,f.defers,false,f.roundOf⟩ E
 | .inScope _=>.next ⟨f.fn,f.ts,k,f.defers,false,f.roundOf⟩ E
 | .inLoop b=>.next ⟨f.fn,f.ts,.code b :: .inLoop b :: k,f.defers,false,f.roundOf⟩ E
 | .endRangeFunc l=>jAd f E l k
 | .beginRound=>jAq f E k
 | _=>.fail
def jBo (call:jBG)(P:Program)(ng:Nat)(f:EF)(E:EM):SR :=
 match f with
 | ⟨fn,ts,todo,defers,ret,ro⟩ =>
   match ret with
   | true=>jAH call P ⟨fn,ts,todo,defers,true,ro⟩ E
   | false=>match todo with
     | []=>jET ⟨fn,ts,[],defers,false,ro⟩ E none
     | it :: k=>jAA call P ng ⟨fn,ts,it :: k,defers,false,ro⟩ E k it
def jDQ (ps:List Tmp)(args:List Value)(ts:List Value):List Value:=(ps.zip args).foldl (fun ts (p:Tmp × Value)=>ts.set p.1 p.2) ts
mutual
def runF (P:Program)(ng:Nat):Nat→EF→EM→Option (Value × EM)
 | 0,_,_=>none
 | n+1,f,E=>match jBo (callE P ng n) P ng f E with
   | .next f1 E1=>runF P ng n f1 E1
   | .done v E1=>some (v,E1)
   | .fail=>none
def callE (P:Program)(ng:Nat):Nat→Value→List Value→EM→Option (Value × EM)
 | 0,_,_,_=>none
 | n+1,.func (.func g) first captured,args,E=>match P.funcs[g]? with
   | some fn=>match fn.body with
     | some b=>runF P ng n ⟨g,Slots.ofL (first.toList++args++captured.toList) (fn.ntmps-(first.toList++args++captured.toList).length),[.code b],[],false,none⟩ E
     | none=>none
   | none=>none
 | n+1,.func (.yield l) first captured,args,E=>match E.get l with
   | .obj (.loop r)=>if (first.toList++args).length=r.params.size then runF P ng n ⟨r.fn,Slots.ofL (jDQ r.params.toList (first.toList++args) r.tmps.toList) 0,[.code r.assign,.beginRound,.code r.body],[],false,some l⟩ E else none
   | _=>none
 | _,_,_,_=>none
end
/-! ### Frames of the model -/
inductive IR (β:Map):Item→Item→Prop
 | code (c:Code):IR β (.code c) (.code c)
 | inBlock (i:Nat):IR β (.inBlock i) (.inBlock i)
 | inLoop (c:Code):IR β (.inLoop c) (.inLoop c)
 | inScope (c:Code):IR β (.inScope c) (.inScope c)
 | beginRound:IR β .beginRound .beginRound
 | endRangeFunc {k:Nat} {l:Loc} (h:β k=some l):IR β (.endRangeFunc k) (.endRangeFunc l.blk)
inductive TR (β:Map):List Item→List Item→Prop
 | nil:TR β [] []
 | cons {i i':Item} {r r':List Item} (h:IR β i i') (t:TR β r r'):TR β (i :: r) (i' :: r')
inductive DR (β:Map):List DE→List Deferred→Prop
 | nil:DR β [] []
 | cons {k:Nat} {l:Loc} {r:List DE} {r':List Deferred} (h:β k=some l) (t:DR β r r'):DR β (.col k :: r) ({ target:=.collected l.blk,args:=#[] } :: r')
 | call {v v':Value} {args args':List Value} {d:Deferred} {r:List DE} {r':List Deferred} (hv:VR β v v') (ha:VRs β args args') (hd:Deferred.ofValue v' args'.toArray=pure d) (t:DR β r r') :
    DR β (.call v args :: r) (d :: r')
inductive RR (β:Map):Option Nat→Option Nat→Prop
 | none:RR β none none
 | some {k:Nat} {l:Loc} (h:β k=some l):RR β (some k) (some l.blk)
theorem IR.ext {β β':Map}(h:Ext β β'){i i':Item}(k:IR β i i'):IR β' i i':=by
 cases k with
 | code c=>exact .code c
 | inBlock i=>exact .inBlock i
 | inLoop c=>exact .inLoop c
 | inScope c=>exact .inScope c
 | beginRound=>exact .beginRound
 | endRangeFunc e=>exact .endRangeFunc (h _ _ e)
theorem TR.ext {β β':Map}(h:Ext β β'):∀ {r r':List Item},TR β r r'→TR β' r r'
 | _,_,.nil=>.nil
 | _,_,.cons e t=>.cons (e.ext h) (TR.ext h t)
theorem DR.ext {β β':Map}(h:Ext β β'):∀ {r:List DE} {r':List Deferred},DR β r r'→DR β' r r'
 | _,_,.nil=>.nil
 | _,_,.cons e t=>.cons (h _ _ e) (DR.ext h t)
 | _,_,.call hv ha hd t=>.call (hv.ext h) (VRs.ext h ha) hd (DR.ext h t)
theorem RR.ext {β β':Map}(h:Ext β β'){r r':Option Nat}(k:RR β r r'):RR β' r r':=by
 cases k with
 | none=>exact .none
 | some e=>exact .some (h _ _ e)
structure FR (β:Map)(f:EF)(fr:Frame):Prop where
 fn:fr.fn=f.fn
 ts:VRs β f.ts.toL fr.tmps.toList
 todo:TR β f.todo fr.todo
 defers:DR β f.defers fr.defers
 mode:fr.mode=if f.ret then .returning else .run
 kind:fr.kind=.normal∨(fr.kind=.deferred∧f.roundOf=none)
 round:RR β f.roundOf fr.roundOf
theorem FR.ext {β β':Map}(h:Ext β β'){f:EF}{fr:Frame}(k:FR β f fr):FR β' f fr:=⟨k.fn,k.ts.ext h,k.todo.ext h,k.defers.ext h,k.mode,k.kind,k.round.ext h⟩
theorem jM6 {β:Map}{id:Nat}:∀ {k k':List Item},TR β k k'→(∀r,exitTo id k=some r→∃r',exitTo id k'=some r'∧TR β r r')∧(exitTo id k=none→exitTo id k'=none)
 | _,_,.nil=>⟨fun r h=>by simp[exitTo]at h,fun _=>rfl⟩
 | _,_,.cons e t=>by
   have ih:=jM6 (id:=id) t
   cases e <;> simp only[exitTo] <;> try exact ih
   split
   ·exact⟨fun r h=>by cases h;exact⟨_,rfl,t⟩,fun h=>by cases h⟩
   ·exact ih
theorem jME {β:Map}{l:Nat}:∀ {k k':List Item},TR β k k'→(∀r,gotoIn l k=some r→∃r',gotoIn l k'=some r'∧TR β r r')∧(gotoIn l k=none→gotoIn l k'=none)
 | _,_,.nil=>⟨fun r h=>by simp[gotoIn]at h,fun _=>rfl⟩
 | _,_,.cons e t=>by
   have ih:=jME (l:=l) t
   cases e <;> simp only[gotoIn] <;> try exact ih
   split
   ·rename_i c _ rest _
    exact⟨fun r h=>by cases h;exact⟨_,rfl,.cons (.code rest) (.cons (.inScope c) t)⟩,fun h=>by cases h⟩
   ·exact ih
theorem jPL {β:Map}{ops:Array Oper}{ts:Slots}{tmps:Array Value}(h:VRs β ts.toL tmps.toList)(j:Nat):yielded ops tmps j=jCZ ops ts j:=by
 unfold yielded jCZ
 cases hd:(ops[j]?).bind (·.dst) with
 | none=>rfl
 | some d =>
   simp only[Option.bind_some]
   have hg:=Slots.toL_get ts d
   cases ht:ts.toL[d]? with
   | none =>
     have:=h.getNone ht
     have:tmps[d]? = none:=by simpa using this
     rw[List.getD_eq_getElem?_getD,ht]at hg
     rw[this,←hg]
     rfl
   | some v =>
     obtain⟨v',h1,h2⟩:=h.get ht
     have:tmps[d]? = some v':=by simpa using h1
     rw[List.getD_eq_getElem?_getD,ht]at hg
     rw[this,←hg]
     simp only[Option.getD_some]
     cases h2 with
     | scalar hs=>cases v <;> rfl
     | _=>rfl
theorem jIS {β:Map}{ts:Slots}{tmps:Array Value}(h:VRs β ts.toL tmps.toList)(dst:Option Tmp){v v':Value}(hv:VR β v v') :
 VRs β (jCn ts dst v).toL (match dst with | some d=>tmps.setIfInBounds d v' | none=>tmps).toList:=by
 cases dst with
 | none=>exact h
 | some d =>
   show VRs β (ts.put d v).toL _
   rw[Slots.toL_put]
   simpa using h.set d hv
end
end Go.Eng
