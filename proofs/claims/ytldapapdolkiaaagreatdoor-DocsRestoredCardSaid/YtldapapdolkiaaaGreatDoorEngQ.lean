/-
  A CLOSED RUN, HELD AGAINST THE MODEL (15): a step of a frame, and a whole run.
-/
import Derived.Test.YtldapapdolkiaaaGreatDoorEngO
namespace Go.Eng
noncomputable section
set_option linter.unusedVariables false
set_option linter.unusedSimpArgs false
section
variable {P:Program} {base:Nat} {w0:World} {ng:Nat} {call:jBG}
theorem jJz {β:Map}{E:EM}{w:World}(g:Good P base w0 β E w){k:Nat}{l:Loc}(hk:β k=some l){r:Loop}(he:E.get k=.obj (.loop r)) :
 ∃r',w.heap[l.blk]? = some (.loop r')∧r'.state=r.state∧r'.pending=r.pending∧r'.fn=r.fn∧r'.params=r.params∧r'.assign=r.assign∧r'.body=r.body∧VRs β r.tmps.toList r'.tmps.toList ∧
  (∃ld,β r.defers=some ld∧r'.defers=ld.blk) ∧
  (∀st pd,Good P base w0 β (E.set k (.obj (.loop { r with state:=st,pending:=pd }))) (w.putObj l.blk (.loop { r' with state:=st,pending:=pd }))) ∧
  (∀st,Good P base w0 β (E.set k (.obj (.loop { r with state:=st }))) (w.putObj l.blk (.loop { r' with state:=st }))):=by
 have jEJ:=g.rep _ _ hk
 rw[he]at jEJ
 obtain⟨_,_,o',hb,ho⟩:=jEJ
 cases ho with
 | loop hts hd =>
   rename_i s pd fn ts' ps as bd d ts ld
   exact⟨_,hb,rfl,rfl,rfl,rfl,rfl,rfl,hts,⟨ld,hd,rfl⟩,fun st pd'=>(g.setObj hk he (OR.loop hts hd)).2,fun st=>(g.setObj hk he (OR.loop hts hd)).2⟩
theorem jVc {β:Map}{E:EM}{w:World}(g:Good P base w0 β E w){f:EF}{fr:Frame}(hf:FR β f fr)(jHR:f.ret=false){jump:Option Code}
 (hj:(fr.todo=[]∧jump=none)∨(∃k,fr.todo=.code .ret :: k∧jump=some .ret)∨(∃i k,fr.todo=.code (.exit i) :: k∧exitTo i k=none∧jump=some (.exit i)) ∨
   (∃i k,fr.todo=.code (.goto i) :: k∧gotoIn i k=none∧jump=some (.goto i))) :
 (∀f1 E1,jET f E jump=.next f1 E1→∃fr1,FR β f1 fr1∧f1.fn=f.fn∧f1.roundOf=f.roundOf∧E1=E∧fr1.kind=fr.kind∧∀cs,Steps P (lone fr cs w) (lone fr1 cs w)) ∧
 (∀v E1,jET f E jump=.done v E1→∃v' w1,VR β v v'∧Good P base w0 β E1 w1∧Ret P fr w v' w1∧f.roundOf≠none):=by
 obtain⟨fn0,ts0,todo0,defers0,ret0,r0⟩:=f
 simp only at jHR
 subst jHR
 have hm:fr.mode=.run:=hf.mode
 cases r0 with
 | none =>
   have jQh:fr.roundOf=none:=by
    have:=hf.round
    simp only at this
    cases hx:fr.roundOf with
    | none=>rfl
    | some q=>rw[hx]at this;cases this
   have jW5:FR β (⟨fn0,ts0,todo0,defers0,true,none⟩:EF) { fr with mode:=.returning }:=⟨hf.fn,hf.ts,hf.todo,hf.defers,rfl,hf.kind,hf.round⟩
   refine⟨fun f1 E1 h=>?_,fun v E1 h=>?_⟩
   ·unfold jET at h
    rcases hj with ⟨ht,rfl⟩ | ⟨k,ht,rfl⟩ | ⟨i,k,ht,hx,rfl⟩ | ⟨i,k,ht,hx,rfl⟩
    ·simp only at h;cases h
     exact⟨_,jW5,rfl,rfl,rfl,rfl,fun cs=>.one (jS3 hm ht jQh)⟩
    ·simp only at h;cases h
     exact⟨_,jW5,rfl,rfl,rfl,rfl,fun cs=>.one (jTw hm ht jQh)⟩
    ·simp at h
    ·simp at h
   ·unfold jET at h
    simp only at h
    split at h <;> cases h
 | some l =>
   refine⟨fun f1 E1 h=>?_,fun v E1 h=>?_⟩
   ·unfold jET at h
    simp only at h
    split at h <;> cases h
   ·unfold jET at h
    simp only at h
    split at h
    ·rename_i r he
     cases h
     have hrr:=hf.round
     simp only at hrr
     obtain⟨ll,hl,hfl⟩:∃ll,β l=some ll∧fr.roundOf=some ll.blk:=by
      cases hx:fr.roundOf with
      | none=>rw[hx]at hrr;cases hrr
      | some q=>rw[hx]at hrr;cases hrr with | some e=>exact⟨_,e,rfl⟩
     obtain⟨r',hb,_,_,_,_,_,_,_,_,jUw,_⟩:=jJz g hl he
     have hkn:fr.kind=.normal:=by
      rcases hf.kind with hk | hk
      ·exact hk
      ·exact absurd hk.2 (by simp)
     refine⟨.bool jump.isNone,_,.scalar rfl,jUw _ _,fun c cs _=>?_,by simp⟩
     rw[hkn]
     exact .one (jKV hm hkn hfl hj (run_endRound jump hb))
    ·cases h
theorem jWc (jDE:jIc P base w0 ng call)(jW6:P.follows .mixedOrders=true)(jNy:P.follows .rangeFuncRecover=true){β:Map}{E:EM}{w:World}(g:Good P base w0 β E w)(hg:Glob ng β){f:EF}{fr:Frame}(hf:FR β f fr) :
 (∀f1 E1,jBo call P ng f E=.next f1 E1→∃β1 fr1 w1,Ext β β1∧FR β1 f1 fr1∧Good P base w0 β1 E1 w1∧f1.fn=f.fn∧f1.roundOf=f.roundOf∧fr1.kind=fr.kind∧∀cs,Under fr cs→Steps P (lone fr cs w) (lone fr1 cs w1)) ∧
 (∀v E1,jBo call P ng f E=.done v E1→∃v' w1,VR β v v'∧Good P base w0 β E1 w1∧Ret P fr w v' w1∧(f.roundOf=none→fr.kind=.normal→fr.leaving P w (.returned v')∧w1=w)):=by
 obtain⟨fn,ts,todo,defers,ret,roundOf⟩:=f
 cases ret with
 | true =>
   have hm:fr.mode=.returning:=hf.mode
   cases roundOf with
   | some l=>exact⟨fun f1 E1 h=>by simp[jBo,jAA,jAz,jAB,jAk,jAp,jAd,jAq,jAy,jAx,jAH]at h,fun v E1 h=>by simp[jBo,jAA,jAz,jAB,jAk,jAp,jAd,jAq,jAy,jAx,jAH]at h⟩
   | none =>
     cases defers with
     | cons k0 ds =>
       cases k0 with
       | call fv args =>
         refine⟨fun f1 E1 h=>?_,fun v E1 h=>?_⟩
         ·simp only[jBo,jAH,if_true]at h
          split at h
          ·rename_i E2 hcd
           cases h
           unfold jZw at hcd
           split at hcd
           case h_2=>cases hcd
           rename_i fv0 gid a0 c0
           split at hcd
           case h_2=>cases hcd
           rename_i v0 E3 hc
           cases hcd
           have hd:=hf.defers
           cases hd':fr.defers with
           | nil=>rw[hd']at hd;cases hd
           | cons d0 ds0 =>
             rw[hd']at hd
             cases hd with
             | call hv ha hdd htl =>
               obtain⟨β1,v',w1,nx,f0,hx,_,g1,jA9,hek,jHR⟩:=jDE _ _ _ _ _ _ _ _ _ g hg hv ha hc .deferred (.inr ⟨rfl,rfl⟩)
               cases hek with
               | deferred g0 as =>
               rw[hdd]at jA9
               simp only[Sem.run_bind,Sem.run_pure,Result.andThen_ok]at jA9
               have hnc:∀b,d0.target≠.collected b:=by
                intro b hb
                obtain⟨f',a',c',rfl,hfn,_,_⟩:=hv.funcInv
                simp only[Deferred.ofValue]at hdd
                have:d0.target=.fn f' c':=by injection hdd with hdd;rw[←hdd]
                rw[hb]at this;cases this
               refine⟨β1,{ fr with defers:=ds0 },w1,hx,⟨hf.fn,hf.ts.ext hx,hf.todo.ext hx,htl.ext hx,hf.mode,hf.kind,hf.round.ext hx⟩,g1,rfl,rfl,rfl,fun cs _=>.head (jID hm hd' hnc jA9) ?_⟩
               have h9:=jHR { fr with defers:=ds0 } cs (fun _=>⟨_,_,rfl,hm⟩)
               exact h9
          ·cases h
         ·simp only[jBo,jAH,if_true]at h
          split at h <;> cases h
       | col k =>
       refine⟨fun f1 E1 h=>?_,fun v E1 h=>?_⟩
       ·simp only[jBo,jAA,jAz,jAB,jAk,jAp,jAd,jAq,jAy,jAx,jAH,if_true]at h
        split at h
        ·rename_i he
         cases h
         have hd:=hf.defers
         cases hd':fr.defers with
         | nil=>rw[hd']at hd;cases hd
         | cons d0 ds0 =>
           rw[hd']at hd
           cases hd with
           | cons hk htl =>
             obtain⟨⟨o',hb,ho⟩,g1⟩:=g.setObj hk he OR.taken
             cases ho
             refine⟨β,{ fr with defers:=[]++ds0 },_,Ext.refl β,⟨hf.fn,hf.ts,hf.todo,htl,hf.mode,hf.kind,hf.round⟩,g1,rfl,rfl,rfl,fun cs _=>.one (jVB hm hd' (run_takeDeferred hb))⟩
        ·cases h
       ·simp only[jBo,jAA,jAz,jAB,jAk,jAp,jAd,jAq,jAy,jAx,jAH,if_true]at h
        split at h <;> cases h
     | nil =>
       refine⟨fun f1 E1 h=>?_,fun v E1 h=>?_⟩
       ·simp only[jBo,jAA,jAz,jAB,jAk,jAp,jAd,jAq,jAy,jAx,jAH,if_true]at h
        split at h
        ·split at h <;> cases h
        ·cases h
       ·simp only[jBo,jAA,jAz,jAB,jAk,jAp,jAd,jAq,jAy,jAx,jAH,if_true]at h
        split at h
        ·rename_i fn' hfn
         split at h
         ·rename_i vs hvs
          cases h
          obtain⟨v',hv,jA9⟩:=jZa g hf.ts hvs
          have hd:fr.defers=[]:=by
           have:=hf.defers
           cases hx:fr.defers with
           | nil=>rfl
           | cons a b=>rw[hx]at this;cases this
          have jW7:fr.kind=.normal→fr.leaving P w (.returned v'):=fun hk=>⟨hm,hd,hk,fn',by rw[hf.fn];exact hfn,jA9⟩
          refine⟨v',w,hv,g,fun c cs hu=>?_,fun _ hk=>⟨jW7 hk,rfl⟩⟩
          rcases hf.kind with hk | hk
          ·rw[hk];exact .one (step_leave_returned (jW7 hk))
          ·obtain⟨c1,r1,e1,e2⟩:=hu hk.1
           cases e1
           rw[hk.1]
           exact .one (jHY hm hd hk.1 (by rw[hf.fn];exact hfn) jA9 e2)
         ·cases h
        ·cases h
 | false =>
   have hm:fr.mode=.run:=hf.mode
   have htd:=hf.todo
   -- a step that only turns what is to be done
   have turn:∀ {k:List Item} {k':List Item},TR β k k'→(∀cs,Steps P (lone fr cs w) (lone { fr with todo:=k' } cs w)) →
    ∃β1 fr1 w1,Ext β β1∧FR β1 (⟨fn,ts,k,defers,false,roundOf⟩:EF) fr1∧Good P base w0 β1 E w1∧fn=fn∧roundOf=roundOf∧fr1.kind=fr.kind∧∀cs,Under fr cs→Steps P (lone fr cs w) (lone fr1 cs w1) :=
    fun {k k'} hk hs=>⟨β,{ fr with todo:=k' },w,Ext.refl β,⟨hf.fn,hf.ts,hk,hf.defers,hf.mode,hf.kind,hf.round⟩,g,rfl,rfl,rfl,fun cs _=>hs cs⟩
   have leave:∀ {jump:Option Code},((fr.todo=[]∧jump=none)∨(∃k,fr.todo=.code .ret :: k∧jump=some .ret)∨(∃i k,fr.todo=.code (.exit i) :: k∧exitTo i k=none∧jump=some (.exit i)) ∨
    (∃i k,fr.todo=.code (.goto i) :: k∧gotoIn i k=none∧jump=some (.goto i)))→∀r,jET (⟨fn,ts,todo,defers,false,roundOf⟩:EF) E jump=r →
    (∀f1 E1,r=.next f1 E1→∃β1 fr1 w1,Ext β β1∧FR β1 f1 fr1∧Good P base w0 β1 E1 w1∧f1.fn=fn∧f1.roundOf=roundOf∧fr1.kind=fr.kind∧∀cs,Under fr cs→Steps P (lone fr cs w) (lone fr1 cs w1)) ∧
    (∀v E1,r=.done v E1→∃v' w1,VR β v v'∧Good P base w0 β E1 w1∧Ret P fr w v' w1∧(roundOf=none→fr.kind=.normal→fr.leaving P w (.returned v')∧w1=w)):=by
    intro jump hj r hr
    have hl:=jVc (P:=P) g hf rfl hj
    refine⟨fun f1 E1 h=>?_,fun v E1 h=>?_⟩
    ·obtain⟨fr1,h1,h2,h3,h4,h6,h5⟩:=hl.1 f1 E1 (by rw[hr,h])
     subst h4
     exact⟨β,fr1,w,Ext.refl β,h1,g,h2,h3,h6,fun cs _=>h5 cs⟩
    ·obtain⟨v',w1,h1,h2,h3,h4⟩:=hl.2 v E1 (by rw[hr,h])
     exact⟨v',w1,h1,h2,h3,fun h5 _=>absurd h5 h4⟩
   cases htd':fr.todo with
   | nil =>
     rw[htd']at htd
     cases htd
     exact leave (.inl ⟨htd',rfl⟩) _ (by simp[jBo,jAA,jAz,jAB,jAk,jAp,jAd,jAq,jAy,jAx,jAH])
   | cons it' k' =>
     rw[htd']at htd
     cases htd with
     | cons hit hk =>
       rename_i it k
       cases hit with
       | inBlock i=>exact⟨fun f1 E1 h=>by simp[jBo,jAA,jAz,jAB,jAk,jAp,jAd,jAq,jAy,jAx,jAH]at h;obtain⟨rfl,rfl⟩:=h;exact turn hk fun cs=>.one (jQy hm htd'),fun v E1 h=>by simp[jBo,jAA,jAz,jAB,jAk,jAp,jAd,jAq,jAy,jAx,jAH]at h⟩
       | inScope i=>exact⟨fun f1 E1 h=>by simp[jBo,jAA,jAz,jAB,jAk,jAp,jAd,jAq,jAy,jAx,jAH]at h;obtain⟨rfl,rfl⟩:=h;exact turn hk fun cs=>.one (jRg hm htd'),fun v E1 h=>by simp[jBo,jAA,jAz,jAB,jAk,jAp,jAd,jAq,jAy,jAx,jAH]at h⟩
       | inLoop c=>exact⟨fun f1 E1 h=>by simp[jBo,jAA,jAz,jAB,jAk,jAp,jAd,jAq,jAy,jAx,jAH]at h;obtain⟨rfl,rfl⟩:=h;exact turn (.cons (.code c) (.cons (.inLoop c) hk)) fun cs=>.one (jSI hm htd'),fun v E1 h=>by simp[jBo,jAA,jAz,jAB,jAk,jAp,jAd,jAq,jAy,jAx,jAH]at h⟩
       | beginRound =>
         refine⟨fun f1 E1 h=>?_,fun v E1 h=>?_⟩
         ·simp only[jBo,jAA,jAz,jAB,jAk,jAp,jAd,jAq,jAy,jAx,jAH,Bool.false_eq_true,if_false]at h
          split at h
          ·rename_i l
           split at h
           ·rename_i r he
            split at h
            ·rename_i hst
             cases h
             have hrr:=hf.round
             simp only at hrr
             obtain⟨ll,hl,hfl⟩:∃ll,β l=some ll∧fr.roundOf=some ll.blk:=by
              cases hx:fr.roundOf with
              | none=>rw[hx]at hrr;cases hrr
              | some q=>rw[hx]at hrr;cases hrr with | some e=>exact⟨_,e,rfl⟩
             obtain⟨r',hb,h1,h2,_,_,_,_,_,_,_,jUw⟩:=jJz g hl he
             have g1:=jUw .busy
             have jA9:=run_beginRound (P:=P) hb (by rw[h1,hst])
             refine⟨β,{ fr with todo:=k' },_,Ext.refl β,⟨hf.fn,hf.ts,hk,hf.defers,hf.mode,hf.kind,hf.round⟩,g1,rfl,rfl,rfl,fun cs _=>.one (jLm hm htd' hfl jA9)⟩
            ·cases h
           ·cases h
          ·cases h
         ·simp only[jBo,jAA,jAz,jAB,jAk,jAp,jAd,jAq,jAy,jAx,jAH,Bool.false_eq_true,if_false]at h
          split at h
          ·split at h
           ·split at h <;> cases h
           ·cases h
          ·cases h
       | endRangeFunc hl =>
         rename_i l ll
         refine⟨fun f1 E1 h=>?_,fun v E1 h=>?_⟩
         ·simp only[jBo,jAA,jAz,jAB,jAk,jAp,jAd,jAq,jAy,jAx,jAH,Bool.false_eq_true,if_false]at h
          split at h
          ·rename_i r he
           split at h
           ·cases h
           ·rename_i hst
            cases h
            obtain⟨r',hb,h1,h2,_,_,_,_,_,_,_,jUw⟩:=jJz g hl he
            have g1:=jUw .exhausted
            have jA9:(Instr.endLoop ll.blk).run P w=.ok r.pending (w.putObj ll.blk (.loop { r' with state:=.exhausted })):=(run_endLoop (P:=P) hb (by rw[h1];exact hst)).trans (by rw[←h2])
            refine⟨β,{ fr with todo:=(r.pending.map Item.code).toList++k' },_,Ext.refl β,⟨hf.fn,hf.ts,?_,hf.defers,hf.mode,hf.kind,hf.round⟩,?_,rfl,rfl,rfl,fun cs _=>.one (jIH hm htd' jA9)⟩
            ·cases r.pending with
             | none=>exact hk
             | some c=>exact .cons (.code c) hk
            ·exact g1
          ·cases h
         ·simp only[jBo,jAA,jAz,jAB,jAk,jAp,jAd,jAq,jAy,jAx,jAH,Bool.false_eq_true,if_false]at h
          split at h
          ·split at h <;> cases h
          ·cases h
       | code c =>
         cases c with
         | skip=>exact⟨fun f1 E1 h=>by simp[jBo,jAA,jAz,jAB,jAk,jAp,jAd,jAq,jAy,jAx,jAH]at h;obtain⟨rfl,rfl⟩:=h;exact turn hk fun cs=>.one (jYh hm htd'),fun v E1 h=>by simp[jBo,jAA,jAz,jAB,jAk,jAp,jAd,jAq,jAy,jAx,jAH]at h⟩
         | label l=>exact⟨fun f1 E1 h=>by simp[jBo,jAA,jAz,jAB,jAk,jAp,jAd,jAq,jAy,jAx,jAH]at h;obtain⟨rfl,rfl⟩:=h;exact turn hk fun cs=>.one (jVO hm htd'),fun v E1 h=>by simp[jBo,jAA,jAz,jAB,jAk,jAp,jAd,jAq,jAy,jAx,jAH]at h⟩
         | seq a b=>exact⟨fun f1 E1 h=>by simp[jBo,jAA,jAz,jAB,jAk,jAp,jAd,jAq,jAy,jAx,jAH]at h;obtain⟨rfl,rfl⟩:=h;exact turn (.cons (.code a) (.cons (.code b) hk)) fun cs=>.one (jZG hm htd'),fun v E1 h=>by simp[jBo,jAA,jAz,jAB,jAk,jAp,jAd,jAq,jAy,jAx,jAH]at h⟩
         | block i b=>exact⟨fun f1 E1 h=>by simp[jBo,jAA,jAz,jAB,jAk,jAp,jAd,jAq,jAy,jAx,jAH]at h;obtain⟨rfl,rfl⟩:=h;exact turn (.cons (.code b) (.cons (.inBlock i) hk)) fun cs=>.one (jVz hm htd'),fun v E1 h=>by simp[jBo,jAA,jAz,jAB,jAk,jAp,jAd,jAq,jAy,jAx,jAH]at h⟩
         | loop b=>exact⟨fun f1 E1 h=>by simp[jBo,jAA,jAz,jAB,jAk,jAp,jAd,jAq,jAy,jAx,jAH]at h;obtain⟨rfl,rfl⟩:=h;exact turn (.cons (.code b) (.cons (.inLoop b) hk)) fun cs=>.one (jYp hm htd'),fun v E1 h=>by simp[jBo,jAA,jAz,jAB,jAk,jAp,jAd,jAq,jAy,jAx,jAH]at h⟩
         | scope b=>exact⟨fun f1 E1 h=>by simp[jBo,jAA,jAz,jAB,jAk,jAp,jAd,jAq,jAy,jAx,jAH]at h;obtain⟨rfl,rfl⟩:=h;exact turn (.cons (.code b) (.cons (.inScope b) hk)) fun cs=>.one (jVS hm htd'),fun v E1 h=>by simp[jBo,jAA,jAz,jAB,jAk,jAp,jAd,jAq,jAy,jAx,jAH]at h⟩
         | refuse y=>exact⟨fun f1 E1 h=>by simp[jBo,jAA,jAz,jAB,jAk,jAp,jAd,jAq,jAy,jAx,jAH]at h,fun v E1 h=>by simp[jBo,jAA,jAz,jAB,jAk,jAp,jAd,jAq,jAy,jAx,jAH]at h⟩
         | ret=>exact leave (.inr (.inl ⟨k',htd',rfl⟩)) _ (by simp[jBo,jAA,jAz,jAB,jAk,jAp,jAd,jAq,jAy,jAx,jAH])
         | cond x a b =>
           refine⟨fun f1 E1 h=>?_,fun v E1 h=>?_⟩
           ·simp only[jBo,jAA,jAz,jAB,jAk,jAp,jAd,jAq,jAy,jAx,jAH,Bool.false_eq_true,if_false]at h
            split at h
            ·rename_i hok
             split at h
             ·rename_i t hx
              cases h
              have e:=jDU hf.ts hg hok
              simp only at e
              rw[hx]at e
              exact turn (.cons (.code _) hk) fun cs=>.one (jXb hm htd' e.boolInv)
             ·cases h
            ·cases h
           ·simp only[jBo,jAA,jAz,jAB,jAk,jAp,jAd,jAq,jAy,jAx,jAH,Bool.false_eq_true,if_false]at h
            split at h
            ·split at h <;> cases h
            ·cases h
         | exit i =>
           have hx:=jM6 (id:=i) hk
           cases he:exitTo i k with
           | some k1 =>
             obtain⟨k1',h1,h2⟩:=hx.1 _ he
             exact⟨fun f1 E1 h=>by simp[jBo,jAA,jAz,jAB,jAk,jAp,jAd,jAq,jAy,jAx,jAH,he]at h;obtain⟨rfl,rfl⟩:=h;exact turn h2 fun cs=>.one (jXI hm htd' h1),fun v E1 h=>by simp[jBo,jAA,jAz,jAB,jAk,jAp,jAd,jAq,jAy,jAx,jAH,he]at h⟩
           | none=>exact leave (.inr (.inr (.inl ⟨i,k',htd',hx.2 he,rfl⟩))) _ (by simp[jBo,jAA,jAz,jAB,jAk,jAp,jAd,jAq,jAy,jAx,jAH,he])
         | goto i =>
           have hx:=jME (l:=i) hk
           cases he:gotoIn i k with
           | some k1 =>
             obtain⟨k1',h1,h2⟩:=hx.1 _ he
             exact⟨fun f1 E1 h=>by simp[jBo,jAA,jAz,jAB,jAk,jAp,jAd,jAq,jAy,jAx,jAH,he]at h;obtain⟨rfl,rfl⟩:=h;exact turn h2 fun cs=>.one (jX6 hm htd' h1),fun v E1 h=>by simp[jBo,jAA,jAz,jAB,jAk,jAp,jAd,jAq,jAy,jAx,jAH,he]at h⟩
           | none=>exact leave (.inr (.inr (.inr ⟨i,k',htd',hx.2 he,rfl⟩))) _ (by simp[jBo,jAA,jAz,jAB,jAk,jAp,jAd,jAq,jAy,jAx,jAH,he])
         | region id ops draw =>
           refine⟨fun f1 E1 h=>?_,fun v E1 h=>?_⟩
           ·simp only[jBo,jAA,jAz,jAB,jAk,jAp,jAd,jAq,jAy,jAx,jAH,Bool.false_eq_true,if_false]at h
            split at h
            ·rename_i hfr
             simp only[Bool.and_eq_true,Bool.not_eq_true']at hfr
             obtain⟨rfl,_⟩:=hfr
             split at h
             ·rename_i ts1 E2 ds1 hr
              cases h
              have hk':fr.kind=.normal∨fr.kind=.deferred:=hf.kind.imp (fun h=>h) (·.1)
              obtain⟨β1,tmps1,df1,w1,hx,ht1,hd1,g1,hs⟩:=jIb jDE jNy (k:=k') ops.toList 0 (fr:={ fr with todo:=.inRegion ops (List.range' 0 ops.toList.length) :: k' }) rfl g hg hf.ts hf.defers hf.round hk' hm rfl hr
              refine⟨β1,{ fr with tmps:=tmps1,todo:=k',defers:=df1 },w1,hx,⟨hf.fn,ht1,hk.ext hx,hd1,hf.mode,hf.kind,hf.round.ext hx⟩,g1,rfl,rfl,rfl,fun cs hu=>?_⟩
              refine .head (jL5 hm htd') ?_
              rw[List.range_eq_range']
              have h9:=hs cs (hu.same rfl)
              exact h9
             ·cases h
            split at h
            ·rename_i ts1 E2 hr
             cases h
             obtain⟨β1,tmps1,w1,hx,ht1,g1,hs⟩:=jTB jDE jW6 g hg hf.ts hm htd' (by simpa using hr)
             exact⟨β1,{ fr with tmps:=tmps1,todo:=k' },w1,hx,⟨hf.fn,ht1,hk.ext hx,hf.defers.ext hx,hf.mode,hf.kind,hf.round.ext hx⟩,g1,rfl,rfl,rfl,fun cs _=>hs cs⟩
            ·cases h
           ·simp only[jBo,jAA,jAz,jAB,jAk,jAp,jAd,jAq,jAy,jAx,jAH,Bool.false_eq_true,if_false]at h
            split at h <;> split at h <;> cases h
         | rangeFunc gx ps as bd =>
           refine⟨fun f1 E1 h=>?_,fun v E1 h=>?_⟩
           ·simp only[jBo,jAA,jAz,jAB,jAk,jAp,jAd,jAq,jAy,jAx,jAH,Bool.false_eq_true,if_false]at h
            split at h
            ·rename_i hok
             have hgx:=jDU hf.ts hg hok
             simp only at hgx
             split at h
             · -- an outermost loop
              split at h
              ·rename_i v0 E2 hc
               cases h
               have jQh:fr.roundOf=none:=by
                have:=hf.round
                simp only at this
                cases hx:fr.roundOf with
                | none=>rfl
                | some q=>rw[hx]at this;cases this
               have g1:=g.newObj (OR.deferred) _ rfl
               have x1:=Ext.put g.fresh (⟨w.heap.size,0,0,0,0⟩:Loc)
               have hd0:(Map.put β E.n (⟨w.heap.size,0,0,0,0⟩:Loc)) E.n=some (⟨w.heap.size,0,0,0,0⟩:Loc):=Map.put_same _ _ _
               have hts:VRs (Map.put β E.n (⟨w.heap.size,0,0,0,0⟩:Loc)) ts.toL.toArray.toList fr.tmps.toList:=by simpa using hf.ts.ext x1
               have g2:=g1.newObj (OR.loop (s:=.ready) (pd:=none) (fn:=fn) (ps:=ps) (as:=as) (bd:=bd) hts hd0) _ rfl
               have x2:=Ext.put g1.fresh (⟨(w.heap.push (Obj.deferred (some []))).size,0,0,0,0⟩:Loc)
               have hyl:=Map.put_same (Map.put β E.n (⟨w.heap.size,0,0,0,0⟩:Loc)) (E.push (EB.obj (Obj.deferred (some [])))).n (⟨(w.heap.push (Obj.deferred (some []))).size,0,0,0,0⟩:Loc)
               obtain⟨β3,v',w3,nx,f0,x3,hv,g3,jA9,hek,jHR⟩:=jDE _ _ _ _ _ _ _ _ _ g2 (hg.ext (x1.trans x2)) (hgx.ext (x1.trans x2)) (.cons (.func (.yield hyl) .nil .nil) .nil) hc .normal (.inl rfl)
               obtain⟨he,hk0⟩:Enters P nx f0∧f0.kind=.normal:=by cases hek with | normal a b=>exact⟨a,b⟩
               have hen:=run_enterLoop_outer (P:=P) (w:=w) fr.fn fr.tmps ps as bd
               rw[←jQh]at hen
               have hw2:((w.alloc (.deferred (some []))).alloc (.loop { state:=.ready,pending:=none,fn:=fr.fn,tmps:=fr.tmps,params:=ps,assign:=as,body:=bd,defers:=w.heap.size })) =
                { ({ w with heap:=w.heap.push (Obj.deferred (some [])) }:World) with heap:=(w.heap.push (Obj.deferred (some []))).push (Obj.loop ⟨.ready,none,fn,fr.tmps,ps,as,bd,w.heap.size⟩) }:=by
                have:=hf.fn
                simp only at this
                rw[this];rfl
               rw[hw2]at hen
               have hsz:(w.heap.push (Obj.deferred (some []))).size=w.heap.size+1:=by simp
               simp only[hsz]at jA9
               refine⟨β3,{ fr with todo:=.endRangeFunc (w.heap.size+1) :: k',defers:={ target:=.collected w.heap.size,args:=#[] } :: fr.defers },w3,(x1.trans x2).trans x3,⟨hf.fn,hf.ts.ext ((x1.trans x2).trans x3),.cons (by have h9:=IR.endRangeFunc (x3 _ _ hyl);simpa [EM.push_eq] using h9) (hk.ext ((x1.trans x2).trans x3)),?_,hf.mode,hf.kind,hf.round.ext ((x1.trans x2).trans x3)⟩,g3,rfl,rfl,rfl,
                fun cs _=>.head (jHo hm htd' hen jA9 he) (jHR.normal hk0 _ cs)⟩
               exact .cons (x3 _ _ (x2 _ _ hd0)) (hf.defers.ext ((x1.trans x2).trans x3))
              ·cases h
             · -- a loop in a loop's body
              rename_i l
              split at h
              ·rename_i r hl
               split at h
               ·rename_i v0 E2 hc
                cases h
                have hrr:=hf.round
                simp only at hrr
                obtain⟨ll,hll,hfl⟩:∃ll,β l=some ll∧fr.roundOf=some ll.blk:=by
                 cases hx:fr.roundOf with
                 | none=>rw[hx]at hrr;cases hrr
                 | some q=>rw[hx]at hrr;cases hrr with | some e=>exact⟨_,e,rfl⟩
                obtain⟨r',hb,h1,h2,_,_,_,_,_,⟨ld,hld,hld'⟩,_,_⟩:=jJz g hll hl
                have hts:VRs β ts.toL.toArray.toList fr.tmps.toList:=by simpa using hf.ts
                have g1:=g.newObj (OR.loop (s:=.ready) (pd:=none) (fn:=fn) (ps:=ps) (as:=as) (bd:=bd) hts hld) _ rfl
                have x1:=Ext.put g.fresh (⟨w.heap.size,0,0,0,0⟩:Loc)
                have hyl:=Map.put_same β E.n (⟨w.heap.size,0,0,0,0⟩:Loc)
                obtain⟨β3,v',w3,nx,f0,x3,hv,g3,jA9,hek,jHR⟩:=jDE _ _ _ _ _ _ _ _ _ g1 (hg.ext x1) (hgx.ext x1) (.cons (.func (.yield hyl) .nil .nil) .nil) hc .normal (.inl rfl)
                obtain⟨he,hk0⟩:Enters P nx f0∧f0.kind=.normal:=by cases hek with | normal a b=>exact⟨a,b⟩
                have hen:(Instr.enterLoop fr.fn fr.tmps ps as bd fr.roundOf).run P w=.ok (w.heap.size,[]) { w with heap:=w.heap.push (Obj.loop ⟨.ready,none,fn,fr.tmps,ps,as,bd,ld.blk⟩) }:=by
                 have:=hf.fn
                 simp only at this
                 rw[hfl,this]
                 simp[Instr.enterLoop,run_getLoop hb,hld']
                refine⟨β3,{ fr with todo:=.endRangeFunc w.heap.size :: k' },w3,x1.trans x3,⟨hf.fn,hf.ts.ext (x1.trans x3),.cons (.endRangeFunc (x3 _ _ hyl)) (hk.ext (x1.trans x3)),hf.defers.ext (x1.trans x3),hf.mode,hf.kind,hf.round.ext (x1.trans x3)⟩,g3,rfl,rfl,rfl,
                 fun cs _=>.head (jHo hm htd' hen jA9 he) (jHR.normal hk0 _ cs)⟩
               ·cases h
              ·cases h
            ·cases h
           ·simp only[jBo,jAA,jAz,jAB,jAk,jAp,jAd,jAq,jAy,jAx,jAH,Bool.false_eq_true,if_false]at h
            split at h
            ·split at h
             ·split at h <;> cases h
             ·split at h
              ·split at h <;> cases h
              ·cases h
            ·cases h
end
end
end Go.Eng
