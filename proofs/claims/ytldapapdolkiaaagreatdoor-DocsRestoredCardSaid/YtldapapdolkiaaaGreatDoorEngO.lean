/-
  A CLOSED RUN, HELD AGAINST THE MODEL (14): what the abstract run gives, the model's machine comes to.
-/
import Derived.Test.YtldapapdolkiaaaGreatDoorEngN
import Derived.Test.YtldapapdolkiaaaGreatDoorEngV
namespace Go.Eng
noncomputable section
set_option linter.unusedVariables false
set_option linter.unusedSimpArgs false
def Ret (P:Program)(fr:Frame)(w:World)(v:Value)(w1:World):Prop:=∀c cs,Under fr (c :: cs)→Steps P (lone fr (c :: cs) w) (lone (back fr.kind c v) cs w1)
theorem Ret.normal {P:Program}{fr:Frame}{w w1:World}{v:Value}(h:Ret P fr w v w1)(hk:fr.kind=.normal)(c:Frame)(cs:List Frame):Steps P (lone fr (c :: cs) w) (lone (c.finish v) cs w1):=by
 have:=h c cs (Under.normal hk)
 rw[hk]at this
 exact this
inductive EntersK (P:Program):CallKind→Next→Frame→Prop
 | normal {nx:Next} {f0:Frame} (h:Enters P nx f0) (hk:f0.kind=.normal):EntersK P .normal nx f0
 | deferred (g:FuncId) (as:Array Value):EntersK P .deferred (.enter g as) (Frame.enter P g as .deferred)
def jIc (P:Program)(base:Nat)(w0:World)(ng:Nat)(call:jBG):Prop :=
 ∀ (β:Map) (E:EM) (w:World) (fv fv':Value) (args args':List Value) (v:Value) (E1:EM),Good P base w0 β E w→Glob ng β→VR β fv fv'→VRs β args args'→call fv args E=some (v,E1) →
  ∀kind,(kind=.normal∨kind=.deferred∧jKW fv=true)→∃β1 v' w1 nx f0,Ext β β1∧VR β1 v v'∧Good P base w0 β1 E1 w1∧(do let d ←Deferred.ofValue fv' args'.toArray;invoke d.target d.args:Sem Next).run P w=.ok nx w ∧
   EntersK P kind nx f0∧Ret P f0 w v' w1
section
variable {P:Program} {base:Nat} {w0:World} {ng:Nat} {call:jBG}
theorem jQP {t:TypeId}{name:String}{f:FuncId}(h:jOy P t name=some f)(v:Value)(w:World):(method (P.types.size+Made.depth) t v name).run P w=.ok (f,v) w:=by
 unfold jOy at h
 split at h
 case h_2=>cases h
 rename_i i hi
 split at h
 case h_2=>cases h
 rename_i m hm
 split at h
 case isFalse=>cases h
 rename_i hp
 split at h
 case h_2=>cases h
 rename_i f0 pr hf
 have hti:(typeInfo t).run P w=.ok i w:=by simp[typeInfo,hi]
 have hpl:m.path.toList=[]:=by
  have:m.path=#[]:=by simpa using hp
  rw[this]
 have hsz:P.types.size+Made.depth=(P.types.size+99)+1:=rfl
 rw[hsz,method,Sem.run_bind,hti,Result.andThen_ok]
 simp only[hm,hpl,follow,hf,Sem.run_bind,Sem.run_pure,Result.andThen_ok]
 split at h
 ·rename_i e hu
  split at h
  ·rename_i hpr
   cases h
   subst hpr
   simp[receiverAt,run_underlying hu,Place.get]
  ·cases h
 ·rename_i d hn hu
  split at h
  ·cases h
  ·rename_i hpr
   cases h
   have:pr=false:=by simpa using hpr
   subst this
   cases d <;> first | exact absurd rfl (hn _) | simp[receiverAt,run_underlying hu,Place.get]
 ·cases h
theorem jZq (jDE:jIc P base w0 ng call){β:Map}{E E1:EM}{w:World}(g:Good P base w0 β E w)(hg:Glob ng β){ts:Slots}{fr:Frame}(ht:VRs β ts.toL fr.tmps.toList)
 {ops:Array Oper} {i:Nat} {rest:List Nat} {k:List Item} {o:Oper} (hm:fr.mode=.run) (htd:fr.todo=.inRegion ops (i :: rest) :: k) (ho:ops[i]? = some o) (hw:Region.wanted o (yielded ops fr.tmps)=true)
 {v:Value} (h:opX call P ng ts o E=some (v,E1)) :
 ∃β1 v' w1,Ext β β1∧VR β1 v v'∧Good P base w0 β1 E1 w1∧∀cs,Steps P (lone fr cs w) (lone (fr.finish v') cs w1):=by
 have hgo:∀f args tys,o.op=.call ⟨.value f,args,tys⟩→(∀x ∈ (Op.call ⟨.value f,args,tys⟩).operands,okX ng x=true)→call (evT ts f) (args.toList.map (evT ts)) E=some (v,E1) →
  ∃β1 v' w1,Ext β β1∧VR β1 v v'∧Good P base w0 β1 E1 w1∧∀cs,Steps P (lone fr cs w) (lone (fr.finish v') cs w1):=by
  intro f args tys hop hx h
  have hd:jCe o.op=false:=by rw[hop];rfl
  have hf:=jDU ht hg (hx f (by simp[Op.operands,Call.operands]))
  have ha:VRs β (args.toList.map (evT ts)) (args.toList.map (evA fr.tmps)):=jYg hg ht fun x hm=>hx x (by simp[Op.operands,Call.operands];exact .inr (by simpa using hm))
  obtain⟨β1,v',w1,nx,f0,hxx,hv,g1,jA9,hek,jHR⟩:=jDE _ _ _ _ _ _ _ _ _ g hg hf ha h .normal (.inl rfl)
  obtain⟨he,hk0⟩:Enters P nx f0∧f0.kind=.normal:=by cases hek with | normal a b=>exact⟨a,b⟩
  refine⟨β1,v',w1,hxx,hv,g1,fun cs=>?_⟩
  have hex:(execOp (evA fr.tmps) o).run P w=.ok nx w:=by
   rw[←jA9]
   unfold execOp
   rw[hop]
   simp only[resolve]
   congr 2
   congr 1
   apply Array.ext'
   simp
  exact .head (jLI hm htd ho hw hd hex he) (jHR.normal hk0 fr cs)
 by_cases hin:∃r m args tys,o.op=.call ⟨.invoke r m,args,tys⟩
 ·obtain⟨r,m,args,tys,hop⟩:=hin
  unfold opX at h
  rw[hop]at h
  simp only[invX]at h
  split at h
  case isFalse=>cases h
  rename_i hok
  simp only[Bool.and_eq_true]at hok
  split at h
  case h_2=>cases h
  rename_i t u hr
  split at h
  case h_2=>cases h
  rename_i f hf
  have hd:jCe o.op=false:=by rw[hop];rfl
  have e:=jDU ht hg hok.1
  rw[hr]at e
  obtain⟨u',e1,hu⟩:=e.ifaceInv
  have ha:VRs β (args.toList.map (evT ts)) (args.toList.map (evA fr.tmps)):=jYg hg ht fun x hm=>jGz hok.2 x hm
  obtain⟨β1,v',w1,nx,f0,hxx,hv,g1,jA9,hek,jHR⟩:=jDE _ _ _ _ _ _ _ _ _ g hg (VR.func (.func f) .nil .nil:VR β (.func (.func f) #[] #[]) (.func (.func f) #[] #[])) (VRs.cons hu ha) h .normal (.inl rfl)
  obtain⟨he,hk0⟩:Enters P nx f0∧f0.kind=.normal:=by cases hek with | normal a b=>exact⟨a,b⟩
  refine⟨β1,v',w1,hxx,hv,g1,fun cs=>?_⟩
  have hex:(execOp (evA fr.tmps) o).run P w=.ok nx w:=by
   rw[←jA9]
   unfold execOp
   rw[hop]
   simp only[resolve,e1,Deferred.ofValue,Sem.run_bind,Sem.run_pure,Result.andThen_ok,invoke]
   have h9:(#[Value.iface t u']++args.map (evA fr.tmps))[0]? = some (.iface t u'):=by rw[Array.getElem?_append_left (by simp)];rfl
   have h8:(#[Value.iface t u']++args.map (evA fr.tmps)).extract 1 (#[Value.iface t u']++args.map (evA fr.tmps)).size=args.map (evA fr.tmps):=by
    apply Array.ext'
    rw[Array.toList_extract,Array.toList_append]
    simp[List.take_of_length_le]
   simp only[h9,h8,callMethod,Sem.run_bind,run_program,Result.andThen_ok,jQP hf u' w]
   congr 2
   apply Array.ext'
   simp
  exact .head (jLI hm htd ho hw hd hex he) (jHR.normal hk0 fr cs)
 have h0:(∃f args tys,o.op=.call ⟨.value f,args,tys⟩∧(∀x ∈ (Op.call ⟨.value f,args,tys⟩).operands,okX ng x=true)∧call (evT ts f) (args.toList.map (evT ts)) E=some (v,E1))∨jRo call P ng ts o E=some (v,E1):=by
  unfold opX at h
  split at h
  ·rename_i r m args tys hop
   exact absurd ⟨r,m,args,tys,hop⟩ hin
  ·rename_i f args tys hop
   split at h
   ·rename_i hc
    simp only[Bool.and_eq_true]at hc
    refine .inl ⟨f,args,tys,hop,fun x hm=>?_,h⟩
    simp only[Op.operands,Call.operands]at hm
    rcases Array.mem_append.1 hm with e | e
    ·simp at e;rw[e];exact hc.1.2
    ·exact jGz hc.2 x (by simpa using e)
   ·exact .inr h
  ·exact .inr h
 rcases h0 with ⟨f,args,tys,hop,hx,h⟩ | h
 ·exact hgo f args tys hop hx h
 unfold jRo at h
 split at h
 ·cases h
 ·rename_i hd
  have hd:jCe o.op=false:=by simpa using hd
  split at h
  ·rename_i r hr
   cases h
   obtain⟨β1,v',w1,hx,hv,g1,hdo⟩:=jZf g hg ht hr
   exact⟨β1,v',w1,hx,hv,g1,fun cs=>.one (jZI hm htd ho hw hd hdo)⟩
  ·split at h
   ·rename_i f args tys hop
    split at h
    ·rename_i hok
     rw[hop]at hok
     exact hgo f args tys hop (fun x hm=>List.all_eq_true.1 hok x (by simpa using hm)) h
    ·cases h
   ·cases h
theorem jMR (jDE:jIc P base w0 ng call){β:Map}{E E1:EM}{w:World}(g:Good P base w0 β E w)(hg:Glob ng β){ts ts1:Slots}{fr:Frame}(ht:VRs β ts.toL fr.tmps.toList)
 {ops:Array Oper} {i:Nat} {rest:List Nat} {k:List Item} (hm:fr.mode=.run) (htd:fr.todo=.inRegion ops (i :: rest) :: k) (h:jCE call P ng ops ts E i=some (ts1,E1)) :
 ∃β1 tmps1 w1,Ext β β1∧VRs β1 ts1.toL tmps1.toList∧Good P base w0 β1 E1 w1∧∀cs,Steps P (lone fr cs w) (lone { fr with tmps:=tmps1,todo:=.inRegion ops rest :: k } cs w1):=by
 unfold jCE at h
 split at h
 ·cases h
 ·rename_i o ho
  have jNx:∀v,fr.finish v={ fr with tmps:=(match o.dst with | some d=>fr.tmps.setIfInBounds d v | none=>fr.tmps),todo:=.inRegion ops rest :: k }:=by
   intro v
   unfold Frame.finish
   rw[htd]
   simp only[ho,Option.bind_some]
   cases o.dst <;> rfl
  have hy:yielded ops fr.tmps=jCZ ops ts:=funext fun j=>jPL ht j
  split at h
  ·rename_i hw
   split at h
   ·rename_i v E2 hx
    cases h
    obtain⟨β1,v',w1,hxx,hv,g1,hs⟩:=jZq jDE g hg ht hm htd ho (by rw[hy];exact hw) hx
    refine⟨β1,_,w1,hxx,jIS (ht.ext hxx) o.dst hv,g1,fun cs=>?_⟩
    have h9:=hs cs
    rw[jNx]at h9
    exact h9
   ·cases h
  ·rename_i hw
   cases h
   refine⟨β,_,w,Ext.refl β,jIS ht o.dst (jGi β),g,fun cs=>?_⟩
   have h9:Steps P (lone fr cs w) (lone (fr.finish undef) cs w):=.one (jT6 hm htd ho (by rw[hy];simpa using hw))
   rw[jNx]at h9
   exact h9
theorem jOl (jDE:jIc P base w0 ng call){ops:Array Oper}{k:List Item}:∀ (l:List Nat) {β:Map} {E E1:EM} {w:World} {ts ts1:Slots} {fr:Frame},Good P base w0 β E w→Glob ng β→VRs β ts.toL fr.tmps.toList →
  fr.mode=.run→fr.todo=.inRegion ops l :: k→jPI call P ng ops l ts E=some (ts1,E1) →
  ∃β1 tmps1 w1,Ext β β1∧VRs β1 ts1.toL tmps1.toList∧Good P base w0 β1 E1 w1∧∀cs,Steps P (lone fr cs w) (lone { fr with tmps:=tmps1,todo:=k } cs w1)
 | [],β,E,E1,w,ts,ts1,fr,g,hg,ht,hm,htd,h=>by
   simp only[jPI]at h
   cases h
   exact⟨β,fr.tmps,w,Ext.refl β,ht,g,fun cs=>.one (jHq hm htd)⟩
 | i :: r,β,E,E1,w,ts,ts1,fr,g,hg,ht,hm,htd,h=>by
   simp only[jPI]at h
   split at h
   ·rename_i ts2 E2 hs
    obtain⟨β1,tmps1,w1,hx,ht1,g1,h1⟩:=jMR jDE g hg ht hm htd hs
    obtain⟨β2,tmps2,w2,hx2,ht2,g2,h2⟩:=jOl jDE r (fr:={ fr with tmps:=tmps1,todo:=.inRegion ops r :: k }) g1 (hg.ext hx) ht1 hm rfl h
    exact⟨β2,tmps2,w2,hx.trans hx2,ht2,g2,fun cs=>(h1 cs).trans (h2 cs)⟩
   ·cases h
theorem jIb (jDE:jIc P base w0 ng call)(jNy:P.follows .rangeFuncRecover=true){ops:Array Oper}{ro:Option Nat}{k:List Item}:∀ (l:List Oper) (n:Nat) {β:Map} {E E1:EM} {w:World} {ts ts1:Slots} {ds ds1:List DE} {fr:Frame},
  ops.toList.drop n=l→Good P base w0 β E w→Glob ng β→VRs β ts.toL fr.tmps.toList→DR β ds fr.defers→RR β ro fr.roundOf→(fr.kind=.normal∨fr.kind=.deferred) →
  fr.mode=.run→fr.todo=.inRegion ops (List.range' n l.length) :: k→jWD call P ng ops ro l ts E ds=some (ts1,E1,ds1) →
  ∃β1 tmps1 defers1 w1,Ext β β1∧VRs β1 ts1.toL tmps1.toList∧DR β1 ds1 defers1∧Good P base w0 β1 E1 w1∧∀cs,Under fr cs→Steps P (lone fr cs w) (lone { fr with tmps:=tmps1,todo:=k,defers:=defers1 } cs w1)
 | [],n,β,E,E1,w,ts,ts1,ds,ds1,fr,hl,g,hg,ht,hds,hro,hk,hm,htd,h=>by
   simp only[jWD]at h
   cases h
   exact⟨β,fr.tmps,fr.defers,w,Ext.refl β,ht,hds,g,fun cs _=>.one (jHq hm htd)⟩
 | o :: r,n,β,E,E1,w,ts,ts1,ds,ds1,fr,hl,g,hg,ht,hds,hro,hk,hm,htd,h=>by
   have ho:ops[n]? = some o:=by
    have:=congrArg List.head? hl
    rw[List.head?_drop]at this
    simpa using this
   have hr:ops.toList.drop (n+1)=r:=by
    have:=congrArg List.tail hl
    simpa using this
   have htd':fr.todo=.inRegion ops (n :: List.range' (n+1) r.length) :: k:=htd
   have hy:yielded ops fr.tmps=jCZ ops ts:=funext fun j=>jPL ht j
   have jNx:∀ (fr:Frame) (v:Value),fr.todo=.inRegion ops (n :: List.range' (n+1) r.length) :: k→fr.finish v={ fr with tmps:=(match o.dst with | some d=>fr.tmps.setIfInBounds d v | none=>fr.tmps),todo:=.inRegion ops (List.range' (n+1) r.length) :: k }:=by
    intro fr v ht
    unfold Frame.finish
    rw[ht]
    simp only[ho,Option.bind_some]
    cases o.dst <;> rfl
   simp only[jWD]at h
   split at h
   ·rename_i hfo
    split at h
    ·cases h
    ·rename_i hgd
     have hw:Region.wanted o (yielded ops fr.tmps)=true:=by
      unfold Region.wanted
      cases hgu:o.guard with
      | none=>rfl
      | some q=>rw[hgu]at hgd;simp at hgd
     split at h
     ·rename_i u E2 hby
      have qA0:∃src dst x,o.op=.convert src dst x:=by
       cases hop:o.op <;> rw[hop]at hby <;> first | (simp[jOG]at hby;done) | exact⟨_,_,_,rfl⟩
      obtain⟨src,dst,x,hop⟩:=qA0
      rw[hop]at hby
      simp only[jOG]at hby
      split at hby
      case isFalse=>cases hby
      rename_i hokx
      obtain⟨β1,u',w1,hx1,hu,g1,jA9⟩:=jS1 g (jDU ht hg hokx) hby
      have hdo:Does P (execOp (evA fr.tmps) o) w u' w1:=.inl (by unfold execOp;rw[hop];simp[jA9])
      let fr1:Frame:={ fr with tmps:=(match o.dst with | some t=>fr.tmps.setIfInBounds t u' | none=>fr.tmps),todo:=.inRegion ops (List.range' (n+1) r.length) :: k }
      have jW5:fr.finish u'=fr1:=jNx _ _ htd'
      obtain⟨β2,tmps1,df1,w2,hx,ht1,hd3,g2,hs⟩:=jIb jDE jNy r (n+1) (fr:=fr1) hr g1 (hg.ext hx1) (jIS (ht.ext hx1) o.dst hu) (hds.ext hx1) (hro.ext hx1) hk hm rfl h
      refine⟨β2,tmps1,df1,w2,hx1.trans hx,ht1,hd3,g2,fun cs hu=>?_⟩
      have h9:=hs cs (hu.same rfl)
      refine .head (jZI hm htd' ho hw (by rw[hop];rfl) hdo) ?_
      rw[jW5]
      exact h9
     split at h
     ·rename_i v args hde
      split at h
      ·rename_i hc
       simp only[Bool.and_eq_true]at hc
       have hron:fr.roundOf=none:=by
        cases hq:fr.roundOf with
        | none=>rfl
        | some q =>
          rw[hq]at hro
          cases hro with
          | some e=>simp at hc
       obtain⟨c,hop⟩:∃c,o.op=.defer c:=by
        cases hop:o.op <;> rw[hop]at hde <;> first | (simp[jMD]at hde;done) | exact⟨_,rfl⟩
       obtain⟨callee,cargs,tys⟩:=c
       rw[hop]at hde
       cases callee with
       | builtin b=>simp[jMD]at hde
       | invoke rv m=>simp[jMD]at hde
       | value f =>
         simp only[jMD]at hde
         split at hde
         ·rename_i hok
          cases hde
          simp only[Bool.and_eq_true]at hok
          have hf:=jDU ht hg hok.1
          have ha:VRs β (cargs.toList.map (evT ts)) (cargs.toList.map (evA fr.tmps)):=jYg hg ht fun x hx=>jGz hok.2 x hx
          obtain⟨d,hd1,hd2⟩:∃d,Deferred.ofValue (evA fr.tmps f) (cargs.toList.map (evA fr.tmps)).toArray=pure d∧(execOp (evA fr.tmps) o).run P w=.ok (.defer d) w:=by
           have hfv:∃g a c,evA fr.tmps f=.func (.func g) a c:=by
            have h2:=hc.2
            unfold jKW at h2
            split at h2
            ·rename_i g0 a0 c0 he
             rw[he]at hf
             obtain⟨f',a',c',e1,e2,_,_⟩:=hf.funcInv
             cases e2
             exact⟨_,_,_,e1⟩
            ·cases h2
           obtain⟨g0,a0,c0,he⟩:=hfv
           refine⟨{ target:=.fn (.func g0) c0,args:=a0++(cargs.toList.map (evA fr.tmps)).toArray },by rw[he];rfl,?_⟩
           unfold execOp
           rw[hop]
           simp only[resolve,he,Deferred.ofValue,Sem.run_bind,Sem.run_pure,Result.andThen_ok]
           congr 3
           congr 1
           apply Array.ext'
           simp
          have jWy:∀cs,step P (lone fr cs w)=.next (lone ({ fr with defers:=d :: fr.defers }.finish undef) cs w):=fun cs=>jVa hm htd' ho hw hron hd2
          let fr1:Frame:={ fr with defers:=d :: fr.defers,tmps:=(match o.dst with | some t=>fr.tmps.setIfInBounds t undef | none=>fr.tmps),todo:=.inRegion ops (List.range' (n+1) r.length) :: k }
          have jW5:({ fr with defers:=d :: fr.defers }:Frame).finish undef=fr1:=jNx _ _ htd'
          obtain⟨β1,tmps1,df1,w1,hx,ht1,hd3,g1,hs⟩:=jIb jDE jNy r (n+1) (fr:=fr1) hr g hg (jIS ht o.dst (jGi β)) (.call hf ha hd1 hds) hro hk hm rfl h
          refine⟨β1,tmps1,df1,w1,hx,ht1,hd3,g1,fun cs hu=>?_⟩
          have h9:=hs cs (hu.same rfl)
          refine .head (jWy cs) ?_
          rw[jW5]
          exact h9
         ·cases hde
      ·cases h
     ·rename_i hde
      split at h
      case isFalse=>cases h
      ·rename_i hrc
       obtain⟨args,tys,hop⟩:∃args tys,o.op=.call ⟨.builtin .recover,args,tys⟩:=by
        unfold jM9 at hrc
        split at hrc
        ·rename_i args tys he;exact⟨args,tys,he⟩
        ·cases hrc
       have hdf:jCe o.op=false:=by rw[hop];rfl
       have hex:(execOp (evA fr.tmps) o).run P w=.ok .recover w:=by
        unfold execOp
        rw[hop]
        simp[resolve,invoke,builtin]
       let fr1:Frame:={ fr with tmps:=(match o.dst with | some t=>fr.tmps.setIfInBounds t .nilIface | none=>fr.tmps),todo:=.inRegion ops (List.range' (n+1) r.length) :: k }
       have jW5:fr.finish .nilIface=fr1:=jNx _ _ htd'
       obtain⟨β1,tmps1,df1,w1,hx,ht1,hd3,g1,hs⟩:=jIb jDE jNy r (n+1) (fr:=fr1) hr g hg (jIS ht o.dst (.scalar rfl)) hds hro hk hm rfl h
       refine⟨β1,tmps1,df1,w1,hx,ht1,hd3,g1,fun cs hu=>?_⟩
       have h9:=hs cs (hu.same rfl)
       refine .head (jQr jNy hm htd' ho hw hdf hk hu hex) ?_
       rw[jW5]
       exact h9
   ·split at h
    ·rename_i ts2 E2 hso
     have hs:jCE call P ng ops ts E n=some (ts2,E2):=by
      unfold jCE
      rw[ho]
      exact hso
     obtain⟨β1,tmps1,w1,hx,ht1,g1,h1⟩:=jMR jDE g hg ht hm htd' hs
     obtain⟨β2,tmps2,df2,w2,hx2,ht2,hd2,g2,h2⟩:=jIb jDE jNy r (n+1) (fr:={ fr with tmps:=tmps1,todo:=.inRegion ops (List.range' (n+1) r.length) :: k }) hr g1 (hg.ext hx) ht1 (hds.ext hx) (hro.ext hx) hk hm rfl h
     exact⟨β2,tmps2,df2,w2,hx.trans hx2,ht2,hd2,g2,fun cs hu=>(h1 cs).trans (h2 cs (hu.same rfl))⟩
    ·cases h
theorem jTB (jDE:jIc P base w0 ng call)(jW6:P.follows .mixedOrders=true){β:Map}{E E1:EM}{w:World}(g:Good P base w0 β E w)(hg:Glob ng β){ts ts1:Slots}{fr:Frame}(ht:VRs β ts.toL fr.tmps.toList)
 {id:Nat} {ops:Array Oper} {draw:Bool} {k:List Item} (hm:fr.mode=.run) (htd:fr.todo=.code (.region id ops draw) :: k)
 (h:(if draw then jVi call P ng ops ts E else jZv call P ng ops ops.toList ts E)=some (ts1,E1)) :
 ∃β1 tmps1 w1,Ext β β1∧VRs β1 ts1.toL tmps1.toList∧Good P base w0 β1 E1 w1∧∀cs,Steps P (lone fr cs w) (lone { fr with tmps:=tmps1,todo:=k } cs w1):=by
 cases draw with
 | false =>
   simp only[Bool.false_eq_true,if_false]at h
   rw[jQ9]at h
   obtain⟨β1,tmps1,w1,hx,ht1,g1,h1⟩:=jOl jDE _ (fr:={ fr with todo:=.inRegion ops (List.range ops.size) :: k }) g hg ht hm rfl h
   exact⟨β1,tmps1,w1,hx,ht1,g1,fun cs=>.head (jL5 hm htd) (h1 cs)⟩
 | true =>
   simp only[if_true]at h
   have hl:=jUB h (w.tape w.drawn (.order fr.fn id))
   obtain⟨β1,tmps1,w1,hx,ht1,g1,h1⟩:=jOl jDE _ (fr:={ fr with todo:=.inRegion ops (Region.linearise .any ops (w.tape w.drawn (.order fr.fn id))) :: k }) (g.sameHeap (w':={ w with drawn:=w.drawn+1 }) rfl) hg ht hm rfl hl
   refine⟨β1,tmps1,w1,hx,ht1,g1,fun cs=>.head (jXp hm htd) ?_⟩
   simp only[Region.schedule,jW6,Bool.true_or,if_true]
   exact h1 cs
theorem jPS (tmps:Array Value)(t:Nat):tmps.getD t undef=tmps.toList.getD t undef:=by
 simp[Array.getD_eq_getD_getElem?,List.getD_eq_getElem?_getD]
theorem jGD {β:Map}{E:EM}{w:World}(g:Good P base w0 β E w){ts:Slots}{tmps:Array Value}(ht:VRs β ts.toL tmps.toList):∀ {rs:List ResultVar} {vs:List Value},jDF P E ts rs=some vs →
  ∃vs',VRs β vs vs'∧(rs.mapM fun
   | .tmp t=>pure (tmps.getD t undef)
   | .cell a t=>do loadVar t (←asAddr (tmps.getD a undef)):Sem (List Value)).run P w=.ok vs' w
 | [],vs,h=>by simp only[jDF]at h;cases h;exact⟨[],.nil,by simp⟩
 | .tmp t :: r,vs,h=>by
   simp only[jDF]at h
   split at h
   ·rename_i l hl
    cases h
    obtain⟨l',hr,jA9⟩:=jGD g ht hl
    have hv:VR β (ts.get t) (tmps.getD t undef):=by rw[jPS,←Slots.toL_get];exact ht.getD t
    refine⟨_,.cons hv hr,?_⟩
    simp only[List.mapM_cons,Sem.run_bind,Sem.run_pure,Result.andThen_ok,jA9]
   ·cases h
 | .cell a t :: r,vs,h=>by
   simp only[jDF]at h
   split at h
   ·rename_i p hp
    split at h
    ·rename_i v l hv hl
     cases h
     obtain⟨l',hr,jA9⟩:=jGD g ht hl
     have e:VR β (ts.get a) (tmps.getD a undef):=by rw[jPS,←Slots.toL_get];exact ht.getD a
     rw[hp]at e
     obtain⟨p',e1,hpa⟩:=e.ptrInv
     obtain⟨v',h1,h2⟩:=jPu g hpa hv
     refine⟨_,.cons h1 hr,?_⟩
     have hA:(asAddr (tmps.getD a undef)).run P w=.ok p' w:=by rw[e1];rfl
     simp only[List.mapM_cons,Sem.run_bind,Sem.run_pure,Result.andThen_ok,hA,h2,jA9]
    ·cases h
   ·cases h
theorem jZa {β:Map}{E:EM}{w:World}(g:Good P base w0 β E w){ts:Slots}{tmps:Array Value}(ht:VRs β ts.toL tmps.toList){fn:Func}{vs:List Value}(h:jDF P E ts fn.results.toList=some vs) :
 ∃v',VR β (outE vs) v'∧(results fn tmps).run P w=.ok v' w:=by
 obtain⟨vs',hr,jA9⟩:=jGD g ht h
 have hm:∃v',(results fn tmps).run P w=.ok v' w∧v'=(if h:vs'.toArray.size=1 then vs'.toArray[0] else .tuple vs'.toArray):=by
  refine⟨_,?_,rfl⟩
  unfold results
  rw[Array.mapM_eq_mapM_toList]
  simp only[Sem.run_bind,Sem.run_map]
  erw [jA9]
  simp only[Result.andThen_ok,Sem.run_pure]
 obtain⟨v',h1,h2⟩:=hm
 refine⟨v',?_,h1⟩
 subst h2
 match vs,vs',hr with
 | [],_,.nil=>exact .tuple .nil
 | [v],_,.cons hv .nil=>exact hv
 | v :: u :: r,_,.cons hv (.cons hu t) =>
   split
   ·rename_i jBi;simp at jBi
   ·exact .tuple (.cons hv (.cons hu t))
end
end
end Go.Eng
