/-
  A CLOSED RUN, HELD AGAINST THE MODEL (2): when a world is as an abstract memory says; reading, writing and making blocks keeps it so.
-/
import Derived.Test.YtldapapdolkiaaaGreatDoorEngA
namespace Go.Eng
set_option linter.unusedVariables false
def jF2 (P:Program)(t:TypeId):Nat:=((P.info? t).map (·.size)).getD 0
inductive MEs (β:Map):List MapEntry→List MapEntry→Prop
 | nil:MEs β [] []
 | cons {k v v':Value} {b:Nat} {r r':List MapEntry} (h:VR β v v') (t:MEs β r r'):MEs β (⟨k,v,b⟩ :: r) (⟨k,v',b⟩ :: r')
theorem MEs.ext {β β':Map}(h:Ext β β'):∀ {r r':List MapEntry},MEs β r r'→MEs β' r r'
 | _,_,.nil=>.nil
 | _,_,.cons e t=>.cons (e.ext h) (MEs.ext h t)
inductive OR (β:Map):Obj→Obj→Prop
 | iter (s:ByteArray) (pos:Nat):OR β (.stringIter s pos) (.stringIter s pos)
 | loop {s:LoopState} {pd:Option Code} {fn:FuncId} {ts ts':Array Value} {ps:Array Tmp} {as bd:Code} {d:Nat} {l:Loc} (h:VRs β ts.toList ts'.toList) (hd:β d=some l) :
    OR β (.loop ⟨s,pd,fn,ts,ps,as,bd,d⟩) (.loop ⟨s,pd,fn,ts',ps,as,bd,l.blk⟩)
 | deferred:OR β (.deferred (some [])) (.deferred (some []))
 | taken:OR β (.deferred none) (.deferred none)
 | map {es es':Array MapEntry} {clock:Nat} (h:MEs β es.toList es'.toList):OR β (.map es clock) (.map es' clock)
theorem OR.ext {β β':Map}(h:Ext β β'){o o':Obj}(k:OR β o o'):OR β' o o':=by
 cases k with
 | iter s p=>exact .iter s p
 | loop a b=>exact .loop (a.ext h) (h _ _ b)
 | deferred=>exact .deferred
 | taken=>exact .taken
 | map e=>exact .map (e.ext h)
def isCells:Obj→Bool
 | .cells ..=>true
 | _=>false
def jV5 (P:Program)(β:Map)(base:Nat)(w:World)(b:EB)(l:Loc):Prop :=
 match b with
 | .dead=>True
 | .cells c t own fx=>c.length=l.size∧l.es=jF2 P t∧∃c' t' fr,w.heap[l.blk]? = some (.cells c' t' fr)∧l.off+l.size+l.slack*l.es≤c'.size ∧
    (∀i v,c[i]? = some v→∃v',c'[l.off+i]? = some v'∧VR β v v')∧((own=true→base≤l.blk∧fr=(0,0)∧t'=t∧(fx=true→l.off=0))∧(fx=true→l.slack=0))
 | .obj o=>base≤l.blk∧l.off=0∧∃o',w.heap[l.blk]? = some o'∧OR β o o'
structure Good (P:Program)(base:Nat)(w0:World)(β:Map)(E:EM)(w:World):Prop where
 len:∀k,k<E.n→∃l,β k=some l
 dom:∀k l,β k=some l→k<E.n
 inj:∀k k' l l',β k=some l→β k'=some l'→E.get k≠.dead→E.get k'≠.dead→l.blk=l'.blk→k=k'
 lt:∀k l,β k=some l→l.blk<w.heap.size
 rep:∀k l,β k=some l→jV5 P β base w (E.get k) l
 old:∀b,b<base→w.heap[b]? = w0.heap[b]?
 ge:base≤w.heap.size
 os:w.os=w0.os
 out:w.output=w0.output
 tape:w.tape=w0.tape
theorem jJp {β:Map}{n:Nat}(h:∀k,k<n→∃l,β k=some l)(l0:Loc):∀k,k<n+1→∃l,(β.put n l0) k=some l:=by
 intro k hk
 by_cases e:k=n
 ·subst e;exact⟨l0,Map.put_same _ _ _⟩
 ·rw[Map.put_other _ _ e];exact h k (by omega)
theorem Good.sameHeap {P:Program}{base:Nat}{w0:World}{β:Map}{E:EM}{w w':World}(g:Good P base w0 β E w)(h:w'.heap=w.heap)(ho:w'.os=w.os:=by rfl)(hu:w'.output=w.output:=by rfl)(hta:w'.tape=w.tape:=by rfl):Good P base w0 β E w':=by
 refine⟨g.len,g.dom,g.inj,?_,?_,?_,?_,ho.trans g.os,hu.trans g.out,hta.trans g.tape⟩
 ·intro k l e;rw[h];exact g.lt k l e
 ·intro k l e
  have:=g.rep k l e
  unfold jV5 at this ⊢
  rw[h];exact this
 ·intro b hb;rw[h];exact g.old b hb
 ·rw[h];exact g.ge
theorem EM.get_push_new (E:EM)(b:EB):(E.push b).get E.n=b:=by
 rw[EM.get_eq,EM.push_eq]
 show (if E.n<E.n+1 then (E.t.set .dead b E.n).get .dead E.n else EB.dead)=b
 rw[if_pos (Nat.lt_succ_self _),Tr.get_set_same]
theorem EM.get_push_old {E:EM}(b:EB){k:Nat}(h:k≠E.n):(E.push b).get k=E.get k:=by
 rw[EM.get_eq,EM.get_eq,EM.push_eq]
 show (if k<E.n+1 then (E.t.set .dead b E.n).get .dead k else EB.dead)=(if k<E.n then E.t.get .dead k else EB.dead)
 rw[Tr.get_set_other _ _ _ (Ne.symm h)]
 by_cases hk:k<E.n
 ·have h1:k<E.n+1:=by omega
  simp only[hk,h1,if_true]
 ·have h1:¬k<E.n+1:=by omega
  simp only[hk,h1,if_false]
theorem EM.get_set_same {E:EM}(hl:E.n=E.n){k:Nat}(h:k<E.n)(b:EB):(E.set k b).get k=b:=by
 rw[EM.get_eq]
 show (if k<E.n then (E.t.set .dead b k).get .dead k else EB.dead)=b
 rw[if_pos h,Tr.get_set_same]
theorem EM.get_set_other {E:EM}{k i:Nat}(b:EB)(h:i≠k)(hk:k<E.n):(E.set k b).get i=E.get i:=by
 rw[EM.get_eq,EM.get_eq]
 show (if i<E.n then (E.t.set .dead b k).get .dead i else EB.dead)=(if i<E.n then E.t.get .dead i else EB.dead)
 rw[Tr.get_set_other _ _ _ (Ne.symm h)]
section
variable {P:Program} {base:Nat} {w0:World} {β:Map} {E:EM} {w:World}
theorem Good.fresh (g:Good P base w0 β E w):β E.n=none:=by
 cases h:β E.n with
 | none=>rfl
 | some l=>exact absurd (g.dom _ _ h) (Nat.lt_irrefl _)
theorem Good.load (g:Good P base w0 β E w){a a':Addr}(h:AR β a a'){c:List Value}{t:TypeId}{own fx:Bool}(he:E.get a.block=.cells c t own fx){v:Value}(hv:c[a.off]? = some v) :
 ∃v',w.cell? a'=some v'∧VR β v v':=by
 obtain⟨l,hl,hs,rfl⟩:=h
 have:=g.rep _ _ hl
 rw[he]at this
 obtain⟨jBi,_,c',t',fr,hb,hsz,hc,_⟩:=this
 obtain⟨v',hv',hr⟩:=hc _ _ hv
 exact⟨v',by simp[World.cell?,hb,hv'],hr⟩
theorem Good.new (g:Good P base w0 β E w){c c':List Value}(h:VRs β c c')(t:TypeId)(l:Loc)(hl:l=⟨w.heap.size,0,c.length,jF2 P t,0⟩) :
 Good P base w0 (β.put E.n l) (E.push (.cells c t true true)) { w with heap:=w.heap.push (.cells c'.toArray t) }:=by
 subst hl
 have hx:=Ext.put g.fresh (⟨w.heap.size,0,c.length,jF2 P t,0⟩:Loc)
 refine⟨jJp g.len _,?_,?_,?_,?_,?_,?_,g.os,g.out,g.tape⟩
 ·intro k l e
  by_cases hk:k=E.n
  ·subst hk;simp[EM.push_eq]
  ·rw[Map.put_other _ _ hk]at e;have:=g.dom _ _ e;simp[EM.push_eq];omega
 ·intro k k' l l' e e' d d' hb
  by_cases hk:k=E.n
  ·by_cases hk':k'=E.n
   ·rw[hk,hk']
   ·rw[Map.put_other _ _ hk']at e'
    subst hk;rw[Map.put_same]at e;cases e
    have:=g.lt _ _ e'
    simp at hb;omega
  ·rw[Map.put_other _ _ hk]at e
   rw[EM.get_push_old _ hk]at d
   by_cases hk':k'=E.n
   ·subst hk';rw[Map.put_same]at e';cases e'
    have:=g.lt _ _ e
    simp at hb;omega
   ·rw[Map.put_other _ _ hk']at e'
    rw[EM.get_push_old _ hk']at d'
    exact g.inj _ _ _ _ e e' d d' hb
 ·intro k l e
  by_cases hk:k=E.n
  ·subst hk;rw[Map.put_same]at e;cases e;simp
  ·rw[Map.put_other _ _ hk]at e;have:=g.lt _ _ e;simp;omega
 ·intro k l e
  by_cases hk:k=E.n
  ·subst hk;rw[Map.put_same]at e;cases e
   rw[EM.get_push_new]
   refine⟨rfl,rfl,c'.toArray,t,(0,0),by simp,by simp[h.length],?_,⟨fun _=>⟨g.ge,rfl,rfl,fun _=>rfl⟩,fun _=>rfl⟩⟩
   intro i v hv
   obtain⟨v',hv',hr⟩:=h.get hv
   exact⟨v',by simpa using hv',hr.ext hx⟩
  ·rw[Map.put_other _ _ hk]at e
   rw[EM.get_push_old _ hk]
   have hr:=g.rep _ _ e
   have hlt:=g.lt _ _ e
   unfold jV5 at hr ⊢
   split
   ·trivial
   ·rename_i c2 t2 own fx jEK
    rw[jEK]at hr
    obtain⟨h1,h2,c3,t3,fr,hb,h3,h4,h5⟩:=hr
    exact⟨h1,h2,c3,t3,fr,by simp[Array.getElem?_push_lt,hlt];simpa [hlt] using hb,h3,fun i v hv=>(h4 i v hv).imp fun v' hh=>⟨hh.1,hh.2.ext hx⟩,h5⟩
   ·rename_i o jEK
    rw[jEK]at hr
    obtain⟨h1,h2,o',hb,h3⟩:=hr
    exact⟨h1,h2,o',by simp[Array.getElem?_push_lt,hlt];simpa [hlt] using hb,h3.ext hx⟩
 ·intro b hb
  have:=g.ge
  rw[←g.old b hb]
  simp[Array.getElem?_push];omega
 ·have:=g.ge;simp;omega
theorem Good.newObj (g:Good P base w0 β E w){o o':Obj}(h:OR β o o')(l:Loc)(hl:l=⟨w.heap.size,0,0,0,0⟩) :
 Good P base w0 (β.put E.n l) (E.push (.obj o)) { w with heap:=w.heap.push o' }:=by
 subst hl
 have hx:=Ext.put g.fresh (⟨w.heap.size,0,0,0,0⟩:Loc)
 refine⟨jJp g.len _,?_,?_,?_,?_,?_,?_,g.os,g.out,g.tape⟩
 ·intro k l e
  by_cases hk:k=E.n
  ·subst hk;simp[EM.push_eq]
  ·rw[Map.put_other _ _ hk]at e;have:=g.dom _ _ e;simp[EM.push_eq];omega
 ·intro k k' l l' e e' d d' hb
  by_cases hk:k=E.n
  ·by_cases hk':k'=E.n
   ·rw[hk,hk']
   ·rw[Map.put_other _ _ hk']at e'
    subst hk;rw[Map.put_same]at e;cases e
    have:=g.lt _ _ e'
    simp at hb;omega
  ·rw[Map.put_other _ _ hk]at e
   rw[EM.get_push_old _ hk]at d
   by_cases hk':k'=E.n
   ·subst hk';rw[Map.put_same]at e';cases e'
    have:=g.lt _ _ e
    simp at hb;omega
   ·rw[Map.put_other _ _ hk']at e'
    rw[EM.get_push_old _ hk']at d'
    exact g.inj _ _ _ _ e e' d d' hb
 ·intro k l e
  by_cases hk:k=E.n
  ·subst hk;rw[Map.put_same]at e;cases e;simp
  ·rw[Map.put_other _ _ hk]at e;have:=g.lt _ _ e;simp;omega
 ·intro k l e
  by_cases hk:k=E.n
  ·subst hk;rw[Map.put_same]at e;cases e
   rw[EM.get_push_new]
   exact⟨g.ge,rfl,o',by simp,h.ext hx⟩
  ·rw[Map.put_other _ _ hk]at e
   rw[EM.get_push_old _ hk]
   have hr:=g.rep _ _ e
   have hlt:=g.lt _ _ e
   unfold jV5 at hr ⊢
   split
   ·trivial
   ·rename_i c2 t2 own fx jEK
    rw[jEK]at hr
    obtain⟨h1,h2,c3,t3,fr,hb,h3,h4,h5⟩:=hr
    exact⟨h1,h2,c3,t3,fr,by simp[Array.getElem?_push_lt,hlt];simpa [hlt] using hb,h3,fun i v hv=>(h4 i v hv).imp fun v' hh=>⟨hh.1,hh.2.ext hx⟩,h5⟩
   ·rename_i o jEK
    rw[jEK]at hr
    obtain⟨h1,h2,o',hb,h3⟩:=hr
    exact⟨h1,h2,o',by simp[Array.getElem?_push_lt,hlt];simpa [hlt] using hb,h3.ext hx⟩
 ·intro b hb
  have:=g.ge
  rw[←g.old b hb]
  simp[Array.getElem?_push];omega
 ·have:=g.ge;simp;omega
theorem Good.change (g:Good P base w0 β E w){k:Nat}{l:Loc}(hk:β k=some l)(jWx:E.get k≠.dead){b:EB}{w':World}(jDu:base≤l.blk)
 (jHg:w'.heap.size=w.heap.size) (jJC:∀i,i≠l.blk→w'.heap[i]? = w.heap[i]?) (hb:b≠.dead) (jRE:jV5 P β base w' b l) (hos:w'.os=w.os:=by rfl) (qAb:w'.output=w.output:=by rfl) (hta:w'.tape=w.tape:=by rfl) :
 Good P base w0 β (E.set k b) w':=by
 have hkn:=g.dom _ _ hk
 refine⟨g.len,?_,?_,?_,?_,?_,?_,hos.trans g.os,qAb.trans g.out,hta.trans g.tape⟩
 ·intro i li e;exact g.dom _ _ e
 ·intro i j li lj ei ej di dj hij
  have d1:E.get i≠.dead:=by
   by_cases h:i=k
   ·subst h;exact jWx
   ·rwa [EM.get_set_other b h hkn]at di
  have d2:E.get j≠.dead:=by
   by_cases h:j=k
   ·subst h;exact jWx
   ·rwa [EM.get_set_other b h hkn]at dj
  exact g.inj _ _ _ _ ei ej d1 d2 hij
 ·intro i li e;rw[jHg];exact g.lt _ _ e
 ·intro i li e
  by_cases h:i=k
  ·subst h
   rw[hk]at e;cases e
   rw[EM.get_set_same rfl hkn];exact jRE
  ·rw[EM.get_set_other b h hkn]
   have hr:=g.rep _ _ e
   unfold jV5 at hr ⊢
   split
   ·trivial
   ·rename_i c t own fx jEK
    rw[jEK]at hr
    have hne:li.blk≠l.blk:=fun he=>h (g.inj _ _ _ _ e hk (by rw[jEK];simp) jWx he)
    rw[jJC _ hne];exact hr
   ·rename_i o jEK
    rw[jEK]at hr
    have hne:li.blk≠l.blk:=fun he=>h (g.inj _ _ _ _ e hk (by rw[jEK];simp) jWx he)
    rw[jJC _ hne];exact hr
 ·intro i hi
  rw[jJC _ (by omega)];exact g.old i hi
 ·rw[jHg];exact g.ge
theorem Good.store (g:Good P base w0 β E w){a a':Addr}(h:AR β a a'){c:List Value}{t:TypeId}{fx:Bool}(he:E.get a.block=.cells c t true fx)(hi:a.off<c.length){v v':Value}(hv:VR β v v') :
 (∃u,w.cell? a'=some u)∧w.frozen? a'=false∧Good P base w0 β (E.set a.block (.cells (c.set a.off v) t true fx)) (w.setCell a' v'):=by
 obtain⟨l,hl,hs,rfl⟩:=h
 have jEJ:=g.rep _ _ hl
 rw[he]at jEJ
 obtain⟨jBi,hes,c',t',fr,hb,hsz,hc,jAN⟩:=jEJ
 obtain⟨jDu,hfr,htt⟩:=jAN.1 rfl
 subst hfr
 obtain⟨u,hu⟩:∃u,c[a.off]? = some u:=⟨_,List.getElem?_eq_getElem hi⟩
 obtain⟨u',hu',_⟩:=hc _ _ hu
 refine⟨⟨u',by simp[World.cell?,hb,hu']⟩,by simp[World.frozen?,hb],?_⟩
 have hbs:l.blk<w.heap.size:=g.lt _ _ hl
 refine g.change hl (by rw[he];simp) jDu (by simp[World.setCell]) ?_ (by simp) ?_
 ·intro i hi
  simp[World.setCell,Array.getElem?_modify,Ne.symm hi]
 ·refine⟨by simp[jBi],hes,c'.setIfInBounds (l.off+a.off) v',t',(0,0),?_,by simpa using hsz,?_,⟨fun _=>⟨jDu,rfl,htt⟩,jAN.2⟩⟩
  ·have hb':=hb
   simp[World.setCell,Array.getElem?_modify,hb']
  ·intro i x hx
   by_cases hia:i=a.off
   ·subst hia
    have:x=v:=by simp[hi]at hx;exact hx.symm
    subst this
    have hlt:l.off+a.off<c'.size:=by omega
    exact⟨v',by simp[hlt],hv⟩
   ·rw[List.getElem?_set_ne (Ne.symm hia)]at hx
    obtain⟨x',hx',hr⟩:=hc _ _ hx
    refine⟨x',?_,hr⟩
    rw[Array.getElem?_setIfInBounds_ne (by omega)];exact hx'
theorem Good.setObj (g:Good P base w0 β E w){k:Nat}{l:Loc}(hk:β k=some l){o o1 o1':Obj}(he:E.get k=.obj o)(h:OR β o1 o1') :
 (∃o',w.heap[l.blk]? = some o'∧OR β o o')∧Good P base w0 β (E.set k (.obj o1)) { w with heap:=w.heap.setIfInBounds l.blk o1' }:=by
 have jEJ:=g.rep _ _ hk
 rw[he]at jEJ
 obtain⟨jDu,h0,o',hb,hr⟩:=jEJ
 have hbs:l.blk<w.heap.size:=g.lt _ _ hk
 refine⟨⟨o',hb,hr⟩,g.change hk (by rw[he];simp) jDu (by simp) ?_ (by simp) ?_⟩
 ·intro i hi
  simp[Array.getElem?_setIfInBounds_ne (Ne.symm hi)]
 ·exact⟨jDu,h0,o1',by simp[hbs],h⟩
end
end Go.Eng
