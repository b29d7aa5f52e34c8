/-
  A CLOSED RUN, HELD AGAINST THE MODEL (9): what the abstract memory gives for an operation, the model gives.
-/
import Derived.Test.YtldapapdolkiaaaGreatDoorEngI
import Derived.Laws.Strings
import Derived.Laws.Concat
namespace Go.Eng
noncomputable section
set_option linter.unusedVariables false
set_option linter.unusedSimpArgs false
section
variable {P:Program} {base:Nat} {w0:World} {β:Map} {E E1:EM} {w:World} {ng:Nat} {ts:Slots} {tmps:Array Value}
theorem optR {lo:Option Operand}(hg:Glob ng β)(ht:VRs β ts.toL tmps.toList)(h:∀x ∈ lo.toArray,okX ng x=true):OptR β (lo.map (evT ts)) (lo.map (evA tmps)):=by
 cases lo with
 | none=>exact .none
 | some x=>exact .some (jDU ht hg (h x (by simp)))
theorem jYg (hg:Glob ng β)(ht:VRs β ts.toL tmps.toList):∀ {xs:List Operand},(∀x ∈ xs,okX ng x=true)→VRs β (xs.map (evT ts)) (xs.map (evA tmps))
 | [],_=>.nil
 | x :: r,h=>.cons (jDU ht hg (h x (List.mem_cons_self ..))) (jYg hg ht fun y hy=>h y (List.mem_cons_of_mem _ hy))
theorem jWC (g:Good P base w0 β E w)(hg:Glob ng β)(ht:VRs β ts.toL tmps.toList){o:Oper}(hx:∀x ∈ o.op.operands,okX ng x=true)(hl:jMU P o.op=true){v:Value}(h:opS P ts E o.op=some (v,E1)) :
 OK P base w0 β E1 v (execOp (evA tmps) o) w:=by
 obtain⟨dst,op,type,pos,after,guard⟩:=o
 simp only at h hx hl
 have ev:∀x,x ∈ op.operands→VR β (evT ts x) (evA tmps x):=fun x hm=>jDU ht hg (hx x hm)
 cases op with
 | move x =>
   simp only[opS,jAs,jAf,jAo,jAg,jA2,jA1,jAr,jAD,jAs,jAf,jAo,jAg,jA2,jA1,jAr,jAD]at h;cases h
   exact OK.value g (ev x (by simp[Op.operands])) rfl
 | assign x =>
   simp only[opS,jAs,jAf,jAo,jAg,jA2,jA1,jAr,jAD,jAs,jAf,jAo,jAg,jA2,jA1,jAr,jAD]at h;cases h
   exact OK.value g (ev x (by simp[Op.operands])) rfl
 | pick c a b =>
   simp only[opS,jAs,jAf,jAo,jAg,jA2,jA1,jAr,jAD,jAs,jAf,jAo,jAg,jA2,jA1,jAr,jAD]at h
   split at h
   ·rename_i t hc
    cases h
    have e:=ev c (by simp[Op.operands])
    rw[hc]at e
    have e:=e.boolInv
    have hv:VR β (if t then evT ts a else evT ts b) (if t then evA tmps a else evA tmps b):=by
     cases t
     ·exact ev b (by simp[Op.operands])
     ·exact ev a (by simp[Op.operands])
    exact OK.value g hv (by simp[execOp,e,asBool])
   ·cases h
 | alloc t =>
   simp only[opS,jAs,jAf,jAo,jAg,jA2,jA1,jAr,jAD,jAs,jAf,jAo,jAg,jA2,jA1,jAr,jAD]at h
   split at h
   ·rename_i z hz
    cases h
    obtain⟨hf,hzr⟩:=jEp (w:=w) hz
    obtain⟨β1,a',hxx,ha,jA9,g1⟩:=jIf g (jDK (β:=β) hf) t
    refine OK.of rfl hxx (.ptr ha) g1 ?_
    simp only[Array.toArray_toList]at jA9
    simp[Instr.alloc,hzr,newVar,jA9]
   ·cases h
 | box t x =>
   simp only[opS,jAs,jAf,jAo,jAg,jA2,jA1,jAr,jAD,jAs,jAf,jAo,jAg,jA2,jA1,jAr,jAD]at h;cases h
   obtain⟨β1,a',hxx,ha,jA9,g1⟩:=jIf g (ev x (by simp[Op.operands])).cells t
   refine OK.of rfl hxx (.ptr ha) g1 ?_
   simp only[Array.toArray_toList]at jA9
   simp[Instr.box,newVar,jA9]
 | build t ps =>
   simp only[opS,jAs,jAf,jAo,jAg,jA2,jA1,jAr,jAD,Option.map_eq_some_iff,Prod.mk.injEq]at h
   obtain⟨u,hu,rfl,rfl⟩:=h
   have hp:Parts β (jIr ts ps) (ps.toList.map fun p=>(p.1,evA tmps p.2)):=jK5 hg ht (by
    refine List.all_eq_true.2 fun p hp=>hx p.2 ?_
    simp only[Op.operands,List.mem_toArray,List.mem_map]
    exact⟨p,by simpa using hp,rfl⟩)
   refine OK.same rfl g ?_
   obtain⟨v',h1,h2⟩:=jWq (w:=w) hp hu
   refine⟨v',h1,?_⟩
   rw[←h2]
   congr 2
   apply Array.ext'
   simp
 | buildSlice t n ps =>
   simp only[opS,jAs,jAf,jAo,jAg,jA2,jA1,jAr,jAD,jAs,jAf,jAo,jAg,jA2,jA1,jAr,jAD]at h
   have hp:Parts β (jIr ts ps) (ps.toList.map fun p=>(p.1,evA tmps p.2)):=jK5 hg ht (by
    refine List.all_eq_true.2 fun p hp=>hx p.2 ?_
    simp only[Op.operands,List.mem_toArray,List.mem_map]
    exact⟨p,by simpa using hp,rfl⟩)
   obtain⟨β1,v',w1,hxx,hv,g1,jA9⟩:=jLt g hp h
   refine OK.of rfl hxx hv g1 ?_
   rw[←jA9]
   congr 2
   apply Array.ext'
   simp
 | load t x =>
   simp only[opS,jAs,jAf,jAo,jAg,jA2,jA1,jAr,jAD,jAs,jAf,jAo,jAg,jA2,jA1,jAr,jAD]at h
   split at h
   ·rename_i a hc
    simp only[Option.map_eq_some_iff,Prod.mk.injEq]at h
    obtain⟨u,hu,rfl,rfl⟩:=h
    have e:=ev x (by simp[Op.operands])
    rw[hc]at e
    obtain⟨a',e1,ha⟩:=e.ptrInv
    obtain⟨v',h1,h2⟩:=jPu g ha hu
    exact OK.same rfl g ⟨v',h1,by simp[Instr.loadAt,e1,Instr.sureAddr,h2]⟩
   ·cases h
 | store t x y =>
   simp only[opS,jAs,jAf,jAo,jAg,jA2,jA1,jAr,jAD,jAs,jAf,jAo,jAg,jA2,jA1,jAr,jAD]at h
   split at h
   ·rename_i a hc
    simp only[Option.map_eq_some_iff,Prod.mk.injEq]at h
    obtain⟨u,hu,rfl,rfl⟩:=h
    have e:=ev x (by simp[Op.operands])
    rw[hc]at e
    obtain⟨a',e1,ha⟩:=e.ptrInv
    obtain⟨w1,h1,g1⟩:=jS2 g ha (ev y (by simp[Op.operands])) hu
    exact⟨β,undef,w1,Ext.refl β,jGi β,g1,.inr ⟨by simp[execOp,Instr.storeAt,e1,Instr.sureAddr,h1],rfl⟩⟩
   ·cases h
 | nilCheck x =>
   simp only[opS,jAs,jAf,jAo,jAg,jA2,jA1,jAr,jAD,jAs,jAf,jAo,jAg,jA2,jA1,jAr,jAD]at h
   have e:=ev x (by simp[Op.operands])
   split at h
   ·rename_i a hc
    cases h
    rw[hc]at e
    obtain⟨a',e1,ha⟩:=e.ptrInv
    exact OK.value g (.ptr ha) (by simp[execOp,e1])
   ·rename_i f a c hc
    cases h
    rw[hc]at e
    obtain⟨f',a',c',e1,hf,h1,h2⟩:=e.funcInv
    cases hf
    exact OK.value g (.func (.func f) h1 h2) (by simp[execOp,e1])
   ·rename_i f a c hc
    cases h
    rw[hc]at e
    obtain⟨f',a',c',e1,hf,h1,h2⟩:=e.funcInv
    have hf2:=hf
    cases hf
    exact OK.value g (.func hf2 h1 h2) (by simp[execOp,e1])
   ·rename_i t u hc
    cases h
    rw[hc]at e
    obtain⟨u',e1,hu⟩:=e.ifaceInv
    exact OK.value g (.iface hu) (by simp[execOp,e1])
   ·cases h
 | makeInterface t x =>
   simp only[opS,jMW]at h
   have e:=ev x (by simp[Op.operands])
   split at h
   ·cases h
   ·rename_i d hn hu
    cases h
    refine OK.value g (.iface e) ?_
    cases d <;> first | exact absurd rfl (hn _) | simp[execOp,Instr.makeInterface,run_underlying hu]
   ·cases h
 | binOp bop t x y yt =>
   simp only[opS,jAs,jAf,jAo,jAg,jA2,jA1,jAr,jAD,jAs,jAf,jAo,jAg,jA2,jA1,jAr,jAD]at h
   have e1:=ev x (by simp[Op.operands])
   have e2:=ev y (by simp[Op.operands])
   split at h
   ·rename_i d hu
    split at h
    ·rename_i hn
     simp only[Bool.and_eq_true]at hn
     simp only[Option.map_eq_some_iff,Prod.mk.injEq]at h
     obtain⟨b,hb,rfl,rfl⟩:=h
     obtain⟨hb',hd⟩:=jKy e1 e2 hb
     refine OK.value g (.scalar rfl) ?_
     simp[execOp,jMv hb',(jMk hb' t).1,jLU (w:=w) hu (by rw[(hd d).1];exact hn.1) (by rw[(hd d).2];exact hn.2) hb']
    ·cases h
   ·rename_i d hu
    split at h
    ·rename_i hn
     simp only[Bool.and_eq_true]at hn
     simp only[Option.map_eq_some_iff,Prod.mk.injEq]at h
     obtain⟨b,hb,rfl,rfl⟩:=h
     obtain⟨hb',hd⟩:=jKy e1 e2 hb
     refine OK.value g (.scalar rfl) ?_
     simp[execOp,jMv hb',(jMk hb' t).2,jLU (w:=w) hu (by rw[(hd d).1];exact hn.1) (by rw[(hd d).2];exact hn.2) hb']
    ·cases h
   ·cases h
 | convert src dst x =>
   simp only[opS,jAs,jAf,jAo,jAg,jA2,jA1,jAr,jAD,jAs,jAf,jAo,jAg,jA2,jA1,jAr,jAD]at h
   have e1:=ev x (by simp[Op.operands])
   split at h
   ·rename_i e a len cap h1 h2 hx1
    rw[hx1]at e1
    split at h
    ·rename_i cs he hcs
     split at h
     ·rename_i qAd
      simp only[Bool.and_eq_true,Option.isNone_iff_eq_none]at qAd
      obtain⟨hsp,jDY⟩:=qAd
      obtain⟨a',cap',e1,ha,_⟩:=e1.sliceInv hsp
      split at h
      ·rename_i u hu
       split at h
       ·rename_i hf
        cases h
        obtain⟨cs',hr,hn,jA9,_⟩:=g.loads ha hcs
        have:=hr.scalarEq jDY
        subst this
        refine OK.same rfl g ⟨v,VR.flat hf,?_⟩
        have hk:(Conv.bytesToString (.slice (some a') len cap')).run P w=.ok v w:=by
         rw[jWM.2,Sem.run_bind,jA9,Result.andThen_ok]
         exact jBh hu w
        simp[convert,e1,run_underlying h1,run_underlying h2,run_underlying he,hk]
       ·cases h
      ·cases h
     ·cases h
    ·cases h
   ·cases h
 | makeFunc fn first captured =>
   cases fn with
   | func f =>
     simp only[opS,jAs,jAf,jAo,jAg,jA2,jA1,jAr,jAD,jAs,jAf,jAo,jAg,jA2,jA1,jAr,jAD]at h;cases h
     refine OK.same rfl g ⟨.func (.func f) (first.map (evA tmps)) (captured.map (evA tmps)),.func (.func f) ?_ ?_,rfl⟩
     ·simp only[Array.toList_map];exact jYg hg ht fun y hy=>hx y (by simp[Op.operands];exact .inl (by simpa using hy))
     ·simp only[Array.toList_map];exact jYg hg ht fun y hy=>hx y (by simp[Op.operands];exact .inr (by simpa using hy))
   | _=>simp[opS]at h
 | slice t x lo hi mx =>
   cases mx with
   | some m=>simp[opS]at h
   | none =>
     simp only[opS,jAs,jAf,jAo,jAg,jA2,jA1,jAr,jAD,Option.map_eq_some_iff,Prod.mk.injEq]at h
     obtain⟨u,hu,rfl,rfl⟩:=h
     have hxo:VR β (evT ts x) (evA tmps x):=ev x (by simp[Op.operands])
     exact OK.same rfl g (jVX g hxo (optR hg ht fun y hy=>hx y (by simp[Op.operands];exact .inr (.inl (by simpa using hy)))) (optR hg ht fun y hy=>hx y (by simp[Op.operands];exact .inr (.inr (by simpa using hy)))) hu)
 | fieldAddr s x f =>
   simp only[opS,jAs,jAf,jAo,jAg,jA2,jA1,jAr,jAD,Option.map_eq_some_iff,Prod.mk.injEq]at h
   obtain⟨u,hu,rfl,rfl⟩:=h
   exact OK.same rfl g (jNm (ev x (by simp[Op.operands])) hu)
 | field s x f =>
   simp only[opS,jAs,jAf,jAo,jAg,jA2,jA1,jAr,jAD,Option.map_eq_some_iff,Prod.mk.injEq]at h
   obtain⟨u,hu,rfl,rfl⟩:=h
   exact OK.same rfl g (jVw (ev x (by simp[Op.operands])) hu)
 | indexAddr t x i =>
   simp only[opS,jAs,jAf,jAo,jAg,jA2,jA1,jAr,jAD,Option.map_eq_some_iff,Prod.mk.injEq]at h
   obtain⟨u,hu,rfl,rfl⟩:=h
   exact OK.same rfl g (jL9 (ev x (by simp[Op.operands])) (ev i (by simp[Op.operands])) hu)
 | range t x =>
   simp only[opS,jAs,jAf,jAo,jAg,jA2,jA1,jAr,jAD,jAs,jAf,jAo,jAg,jA2,jA1,jAr,jAD]at h
   obtain⟨β1,v',w1,hxx,hv,g1,jA9⟩:=jU9 g (ev x (by simp[Op.operands])) h
   exact OK.of rfl hxx hv g1 jA9
 | next x s =>
   cases s with
   | false=>simp[opS]at h
   | true =>
     simp only[opS,jAs,jAf,jAo,jAg,jA2,jA1,jAr,jAD,jAs,jAf,jAo,jAg,jA2,jA1,jAr,jAD]at h
     obtain⟨v',w1,hv,g1,jA9⟩:=jYs (ty:=type) g (ev x (by simp[Op.operands])) h
     exact OK.of rfl (Ext.refl β) hv g1 jA9
 | extract x i =>
   simp only[opS,jAs,jAf,jAo,jAg,jA2,jA1,jAr,jAD,Option.map_eq_some_iff,Prod.mk.injEq]at h
   obtain⟨u,hu,rfl,rfl⟩:=h
   exact OK.same rfl g (jRn (ev x (by simp[Op.operands])) hu)
 | call c =>
   obtain⟨callee,args,tys⟩:=c
   cases callee with
   | value f=>simp[opS]at h
   | invoke r m=>simp[opS]at h
   | builtin b =>
     cases b <;> try (simp[opS]at h;done)
     case len =>
      simp only[opS,jAs,jAf,jAo,jAg,jA2,jA1,jAr,jAD,jAs,jAf,jAo,jAg,jA2,jA1,jAr,jAD]at h
      split at h
      ·rename_i x jGv
       split at h
       ·rename_i a n cap hx1
        cases h
        have e1:=ev x (by
         have:x ∈ args.toList:=by rw[jGv];simp
         simp[Op.operands,Call.operands];simpa using this)
        rw[hx1]at e1
        obtain⟨a',cap',e1⟩:=e1.sliceAny
        simp only[jMU]at hl
        split at hl
        ·rename_i t r hty
         split at hl
         ·rename_i e hu
          have ha0:args=#[x]:=by apply Array.ext';simp[jGv]
          have ht0:tys[0]? = some t:=by
           have:tys.toList[0]? = some t:=by rw[hty];rfl
           simpa using this
          subst ha0
          refine OK.value g (.scalar rfl) ?_
          simp[execOp,resolve,invoke,builtin,Builtin.len_,ht0,e1,run_underlying hu]
         ·cases hl
        ·cases hl
       ·cases h
      ·cases h
     case append =>
      simp only[opS,jAs,jAf,jAo,jAg,jA2,jA1,jAr,jAD,jAs,jAf,jAo,jAg,jA2,jA1,jAr,jAD]at h
      simp only[jMU,Bool.and_eq_true,beq_iff_eq]at hl
      obtain⟨x,y,hxy⟩:∃x y,args=#[x,y]:=by
       obtain⟨l⟩:=args
       match l,hl.1 with
       | [x,y],_=>exact⟨x,y,rfl⟩
      obtain⟨t,u,htu⟩:∃t u,tys=#[t,u]:=by
       obtain⟨l⟩:=tys
       match l,hl.2 with
       | [x,y],_=>exact⟨x,y,rfl⟩
      subst hxy htu
      simp only[List.map_cons,List.map_nil]at h
      obtain⟨β1,v',w1,hxx,hv,g1,jA9⟩:=jSW (ty:=type) g (ev x (by simp[Op.operands,Call.operands])) (ev y (by simp[Op.operands,Call.operands])) h
      refine⟨β1,v',w1,hxx,hv,g1,.inl ?_⟩
      simp[execOp,resolve,invoke,builtin,jA9]
 | _=>simp[opS]at h
theorem jYx (g:Good P base w0 β E w)(hg:Glob ng β)(ht:VRs β ts.toL tmps.toList){o:Oper}{v:Value}(h:jO8 P ng ts o E=some (v,E1)) :
 OK P base w0 β E1 v (execOp (evA tmps) o) w:=by
 unfold jO8 at h
 split at h
 ·rename_i hok
  have hx:∀x ∈ o.op.operands,okX ng x=true:=fun x hm=>List.all_eq_true.1 hok x (by simpa using hm)
  split at h
  ·rename_i u hu
   cases h
   split at hu
   ·rename_i hf
    simp only[Bool.and_eq_true]at hf
    refine jSG g hg ht (ng:=ng) ?_ ?_ hu
    ·refine List.all_eq_true.2 fun x hm=>?_
     rw[Bool.and_eq_true]
     exact⟨List.all_eq_true.1 hok x hm,List.all_eq_true.1 hf.1 x hm⟩
    ·intro cs b he
     rw[he]at hf
     simp[jB4]at hf
   ·cases hu
  ·split at h
   ·rename_i hl
    exact jWC g hg ht hx hl h
   ·cases h
 ·cases h
theorem jX9 {op:BinOp}{k:IntKind}{a b:Int}{v:Value}(h:fInt op k a b=some v)(t:TypeId):binOp op t (.int k a) (.int k b)=pure v∧jAn v=true:=by
 unfold fInt at h
 split at h <;> cases h
 ·exact⟨by rw[binOp_add];rfl,rfl⟩
 ·exact⟨by rw[binOp_sub];rfl,rfl⟩
 ·exact⟨binOp_eql ..,rfl⟩
 ·exact⟨binOp_neq ..,rfl⟩
 ·exact⟨binOp_lss ..,rfl⟩
 ·exact⟨binOp_leq ..,rfl⟩
 ·exact⟨binOp_gtr ..,rfl⟩
 ·exact⟨binOp_geq ..,rfl⟩
theorem jYB {op:BinOp}{a b:ByteArray}{v:Value}(h:fStr op a b=some v)(t:TypeId):(binOp op t (.string a) (.string b)).run P w=.ok v w∧jAn v=true:=by
 unfold fStr at h
 split at h
 ·cases h;rw[jLf,←ByteArray.toList_eq,←ByteArray.toList_eq,binOp_string_eql];exact⟨rfl,rfl⟩
 ·cases h;rw[jLf,←ByteArray.toList_eq,←ByteArray.toList_eq,binOp_string_neq];exact⟨rfl,rfl⟩
 ·split at h
  ·rename_i hc
   cases h
   rw[jGT,jGT]at hc
   rw[binOp_string_add,jXT]
   exact⟨run_string_add_sum w a b (by simpa using hc),rfl⟩
  ·cases h
 ·cases h
theorem jSg (c:UInt8):∀ (l:List UInt8) (i:Nat),idxQ l c.toNat i=if Lib.indexByte l c=-1 then -1 else (i:Int)+Lib.indexByte l c
 | [],i=>rfl
 | b :: l,i=>by
   have hq:idxQ (b :: l) c.toNat i=Bool.rec (motive:=fun _=>Int) (idxQ l c.toNat (i+1)) (Int.ofNat i) (Nat.beq b.toNat c.toNat):=rfl
   have hi:Lib.indexByte (b :: l) c=if b == c then 0 else if Lib.indexByte l c == -1 then -1 else Lib.indexByte l c+1:=rfl
   rw[hq,jSg c l (i+1),hi]
   have hge:=Lib.indexByte_ge l c
   by_cases hb:b=c
   ·subst hb
    have:Nat.beq b.toNat b.toNat=true:=Nat.beq_refl _
    rw[this]
    simp
   ·have:Nat.beq b.toNat c.toNat=false:=by
     cases e:Nat.beq b.toNat c.toNat with
     | false=>rfl
     | true=>exact absurd (UInt8.toNat_inj.1 (Nat.eq_of_beq_eq_true e)) hb
    rw[this]
    simp only[beq_iff_eq,hb,if_false]
    split
    ·rfl
    ·rename_i h1
     have h2:¬(Lib.indexByte l c+1=-1):=by omega
     rw[if_neg h2]
     omega
theorem jSy (c:UInt8):∀ (l:List UInt8),jY9 l c.toNat=Lib.countByte l c
 | []=>rfl
 | b :: l=>by
   have hq:jY9 (b :: l) c.toNat=Bool.rec (motive:=fun _=>Nat) (jY9 l c.toNat) (Nat.succ (jY9 l c.toNat)) (Nat.beq b.toNat c.toNat):=rfl
   rw[hq,jSy c l]
   unfold Lib.countByte
   rw[List.count_cons]
   by_cases hb:b=c
   ·subst hb
    have:Nat.beq b.toNat b.toNat=true:=Nat.beq_refl _
    rw[this]
    simp
   ·have:Nat.beq b.toNat c.toNat=false:=by
     cases e:Nat.beq b.toNat c.toNat with
     | false=>rfl
     | true=>exact absurd (UInt8.toNat_inj.1 (Nat.eq_of_beq_eq_true e)) hb
    rw[this]
    simp[hb]
theorem jDh {fn:Func}{n:String}(h:fn.name=n)(ho:fn.origin = "")(h1:Extern.allNextRows.lookup n=none):Extern.findNext fn=none:=by
 have h2:Extern.allNextRows.lookup "" = none:=rfl
 unfold Extern.findNext
 simp only[h,ho,h1,h2]
 rfl
theorem jCN {g:FuncId}{fn:Func}(hf:P.funcs[g]? = some fn)(hb:fn.body.isSome=false)(hn:(fn.name == "runtime.NumGoroutine")=false)(h1:Extern.findNext fn=none){e:Array Value→Sem Value}(h2:Extern.find fn=some e)
 {args:Array Value} {v:Value} {w1:World} (hr:(e args).run P w=.ok v w1):(callFunc g args).run P w=.ok (.value v) w1:=by
 have hb':fn.body.isNone=true:=by
  cases h:fn.body with
  | none=>rfl
  | some b=>rw[h]at hb;cases hb
 have hb2:fn.body=none:=by simpa using hb'
 have hn2:fn.name ≠ "runtime.NumGoroutine" := by simpa using hn
 unfold callFunc
 simp[hf,hn2,hb2,h1,h2,hr]
theorem jV9 {g:FuncId}{k:Nat}(hk:extK P g=k){x y v:Value}(h:jXq k x y=some v):jAn v=true∧jAn x=true∧jAn y=true∧(callFunc g #[x,y]).run P w=.ok (.value v) w:=by
 unfold jXq at h
 split at h
 case h_2=>cases h
 rename_i s
 split at h
 case h_2=>cases h
 rename_i c
 unfold extK at hk
 split at hk
 case h_2=>subst hk;simp at h
 rename_i fn hfn
 split at hk
 ·subst hk;simp at h
 rename_i hb
 split at hk
 case isFalse=>subst hk;simp at h
 rename_i ho
 split at hk
 ·rename_i jFe
  subst hk
  simp only at h
  cases h
  refine⟨rfl,rfl,rfl,jCN hfn (by rw[hb];rfl) (by rw[jFe];rfl) (jDh jFe ho rfl) (e:=Extern.BytealgIndexByte.indexByte) ?_ ?_⟩
  ·unfold Extern.find;rw[jFe];rfl
  ·rw[Lib.run_indexByteString,jSg]
   split
   ·rename_i h1;rw[h1]
   ·simp
 ·split at hk
  case isFalse=>subst hk;simp at h
  rename_i jFe
  subst hk
  simp only at h
  cases h
  refine⟨rfl,rfl,rfl,jCN hfn (by rw[hb];rfl) (by rw[jFe];rfl) (jDh jFe ho rfl) (e:=Extern.BytealgCount.count) ?_ ?_⟩
  ·unfold Extern.find;rw[jFe];rfl
  ·rw[Lib.run_countString,jSy]
   rfl
theorem jVM (g:Good P base w0 β E w)(hg:Glob ng β)(ht:VRs β ts.toL tmps.toList){o:Oper}{v:Value}(h:jC6 P ng ts o.op=some v):OK P base w0 β E v (execOp (evA tmps) o) w:=by
 obtain⟨dst,op,type,pos,after,guard⟩:=o
 simp only at h
 cases op with
 | binOp bop t x y yt =>
   simp only[jC6]at h
   split at h
   ·rename_i hok
    simp only[Bool.and_eq_true]at hok
    have e1:=jDU ht hg hok.1
    have e2:=jDU ht hg hok.2
    unfold fBin at h
    split at h
    ·rename_i k a hx
     split at h
     ·rename_i k' b hy
      split at h
      ·rename_i hk
       subst hk
       rw[hx]at e1
       rw[hy]at e2
       have e1:=e1.intInv
       have e2:=e2.intInv
       obtain⟨h1,h2⟩:=jX9 h t
       exact OK.value g (.scalar h2) (by simp[execOp,e1,e2,eqGuard_at_int,h1])
      ·cases h
     ·cases h
    ·rename_i a hx
     split at h
     ·rename_i b hy
      rw[hx]at e1
      rw[hy]at e2
      have e1:=e1.stringInv
      have e2:=e2.stringInv
      obtain⟨h1,h2⟩:=jYB (P:=P) (w:=w) h t
      exact OK.value g (.scalar h2) (by simp[execOp,e1,e2,eqGuard_at_string,h1])
     ·cases h
    ·cases h
   ·cases h
 | index t x i =>
   simp only[jC6]at h
   split at h
   ·rename_i hok
    simp only[Bool.and_eq_true]at hok
    have e1:=jDU ht hg hok.1
    have e2:=jDU ht hg hok.2
    unfold jWZ at h
    split at h
    ·rename_i k n hi
     split at h
     ·rename_i s hs
      split at h
      ·rename_i hu
       split at h
       ·rename_i hn
        split at h
        ·rename_i b hb
         cases h
         rw[jX0]at hb
         rw[hs]at e1
         rw[hi]at e2
         exact OK.value g (.scalar rfl) (by simp[execOp,e1.stringInv,e2.intInv,Instr.index,asIntOf,run_underlying hu,hn,hb])
        ·cases h
       ·cases h
      ·cases h
     ·cases h
    ·cases h
   ·cases h
 | unOp uop t x =>
   cases uop with
   | not =>
     simp only[jC6]at h
     split at h
     ·rename_i hok
      have e1:=jDU ht hg hok
      unfold fNot at h
      split at h
      ·rename_i b hb
       cases h
       rw[hb]at e1
       exact OK.value g (.scalar rfl) (by simp[execOp,e1.boolInv,Op.unary])
      ·cases h
     ·cases h
   | _=>simp[jC6]at h
 | slice t x lo hi mx =>
   cases mx with
   | some m=>simp[jC6]at h
   | none =>
     simp only[jC6]at h
     split at h
     ·rename_i hok
      simp only[Bool.and_eq_true]at hok
      have e1:=jDU ht hg hok.1.1
      have hlo:OptR β (lo.map (evT ts)) (lo.map (evA tmps)):=optR hg ht fun y hy=>by
       cases lo with
       | none=>simp at hy
       | some z=>simp at hy;subst hy;exact hok.1.2
      have hhi:OptR β (hi.map (evT ts)) (hi.map (evA tmps)):=optR hg ht fun y hy=>by
       cases hi with
       | none=>simp at hy
       | some z=>simp at hy;subst hy;exact hok.2
      unfold fCut at h
      split at h
      ·rename_i s hs
       split at h
       ·rename_i hu
        split at h
        ·rename_i hh h1
         split at h
         ·rename_i ll h2
          cases h
          rw[hs]at e1
          rw[jSc]at h1
          have hb:=jQF (P:=P) (w:=w) hlo hhi (Nat.le_refl _) h1 h2
          rw[jXR]
          refine OK.value g (.scalar rfl) ?_
          simp[execOp,e1.stringInv,Instr.sliceAt,Instr.slice,run_underlying hu,hb]
         ·cases h
        ·cases h
       ·cases h
      ·cases h
     ·cases h
 | call c =>
   obtain⟨callee,args,tys⟩:=c
   cases callee with
   | builtin b =>
     cases b with
     | len =>
       simp only[jC6]at h
       unfold fLen at h
       split at h
       ·rename_i x jGv
        split at h
        ·rename_i hok
         have e1:=jDU ht hg hok
         split at h
         ·rename_i s hs
          split at h
          ·rename_i t r hty
           split at h
           ·rename_i hu
            cases h
            rw[hs]at e1
            have e1:=e1.stringInv
            have ha0:args=#[x]:=by apply Array.ext';simp[jGv]
            have ht0:tys[0]? = some t:=by
             have:tys.toList[0]? = some t:=by rw[hty];rfl
             simpa using this
            subst ha0
            rw[jSc]
            refine OK.value g (.scalar rfl) ?_
            simp[execOp,resolve,invoke,builtin,Builtin.len_,ht0,e1,run_underlying hu]
           ·cases h
          ·cases h
         ·cases h
        ·cases h
       ·cases h
     | _=>simp[jC6]at h
   | value f =>
     cases f with
     | func q =>
       simp only[jC6]at h
       unfold fExt at h
       split at h
       ·cases h
       ·rename_i k hk
        split at h
        case h_2=>cases h
        rename_i x y hxy
        split at h
        case isFalse=>cases h
        rename_i hok
        simp only[Bool.and_eq_true]at hok
        obtain⟨hs,hsx,hsy,jA9⟩:=jV9 (P:=P) (w:=w) hk h
        have ex:=(jDU ht hg hok.1).scalarEq hsx
        have ey:=(jDU ht hg hok.2).scalarEq hsy
        have ha0:args=#[x,y]:=by apply Array.ext';simp[hxy]
        subst ha0
        refine OK.value g (.scalar hs) ?_
        have ef:evA tmps (.func q)=.func (.func q) #[] #[]:=rfl
        simp[execOp,resolve,Deferred.ofValue,invoke,ef,ex,ey,jA9]
     | _=>simp[jC6]at h
   | _=>simp[jC6]at h
 | _=>simp[jC6]at h
theorem jZP (g:Good P base w0 β E w)(hg:Glob ng β)(ht:VRs β ts.toL tmps.toList){o:Oper}{v:Value}(h:opA P ng ts o E=some (v,E1)) :
 OK P base w0 β E1 v (execOp (evA tmps) o) w:=by
 unfold opA at h
 split at h
 ·rename_i u hu
  cases h
  exact jVM g hg ht hu
 ·split at h
  ·rename_i r hr
   cases h
   unfold jGp at hr
   split at hr
   ·rename_i hf
    obtain⟨h1,h2⟩:=jSB hf
    exact jWC g hg ht h1 h2 hr
   ·cases hr
  ·exact jYx g hg ht h
end
end
end Go.Eng
