/-
  A CLOSED RUN, HELD AGAINST THE MODEL (4): operations that make blocks, and those that reckon with addresses.
-/
import Derived.Test.YtldapapdolkiaaaGreatDoorEngC
namespace Go.Eng
noncomputable section
set_option linter.unusedVariables false
set_option linter.unusedSimpArgs false
section
variable {P:Program} {base:Nat} {w0:World} {β:Map} {E:EM} {w:World}
theorem Good.put (g:Good P base w0 β E w){w1:World}{l:Loc}{b:EB}(jHg:w.heap.size≤w1.heap.size)(jJC:∀i,i≠l.blk→i<w.heap.size→w1.heap[i]? = w.heap[i]?)
 (jCL:∀i li,β i=some li→E.get i≠.dead→li.blk≠l.blk) (jDu:base≤l.blk) (hlt:l.blk<w1.heap.size) (jRE:jV5 P (β.put E.n l) base w1 b l) (hos:w1.os=w.os:=by rfl) (qAb:w1.output=w.output:=by rfl) (hta:w1.tape=w.tape:=by rfl) :
 Good P base w0 (β.put E.n l) (E.push b) w1:=by
 have hx:=Ext.put g.fresh l
 refine⟨jJp g.len _,?_,?_,?_,?_,?_,?_,hos.trans g.os,qAb.trans g.out,hta.trans g.tape⟩
 ·intro k l e
  by_cases hk:k=E.n
  ·subst hk;simp[EM.push_eq]
  ·rw[Map.put_other _ _ hk]at e;have:=g.dom _ _ e;simp[EM.push_eq];omega
 ·intro k k' lk lk' e e' d d' hb
  by_cases hk:k=E.n
  ·by_cases hk':k'=E.n
   ·rw[hk,hk']
   ·rw[Map.put_other _ _ hk']at e'
    rw[EM.get_push_old _ hk']at d'
    subst hk;rw[Map.put_same]at e;cases e
    exact absurd hb.symm (jCL _ _ e' d')
  ·rw[Map.put_other _ _ hk]at e
   rw[EM.get_push_old _ hk]at d
   by_cases hk':k'=E.n
   ·subst hk';rw[Map.put_same]at e';cases e'
    exact absurd hb (jCL _ _ e d)
   ·rw[Map.put_other _ _ hk']at e'
    rw[EM.get_push_old _ hk']at d'
    exact g.inj _ _ _ _ e e' d d' hb
 ·intro k lk e
  by_cases hk:k=E.n
  ·subst hk;rw[Map.put_same]at e;cases e;exact hlt
  ·rw[Map.put_other _ _ hk]at e;have:=g.lt _ _ e;omega
 ·intro k lk e
  by_cases hk:k=E.n
  ·subst hk;rw[Map.put_same]at e;cases e
   rw[EM.get_push_new];exact jRE
  ·rw[Map.put_other _ _ hk]at e
   rw[EM.get_push_old _ hk]
   have hr:=g.rep _ _ e
   have hkl:=g.lt _ _ e
   unfold jV5 at hr ⊢
   split
   ·trivial
   ·rename_i c2 t2 own fx jEK
    rw[jEK]at hr
    have hne:=jCL _ _ e (by rw[jEK];simp)
    obtain⟨h1,h2,c3,t3,fr,hb,h3,h4,h5⟩:=hr
    exact⟨h1,h2,c3,t3,fr,by rw[jJC _ hne hkl];exact hb,h3,fun i v hv=>(h4 i v hv).imp fun v' hh=>⟨hh.1,hh.2.ext hx⟩,h5⟩
   ·rename_i o jEK
    rw[jEK]at hr
    have hne:=jCL _ _ e (by rw[jEK];simp)
    obtain⟨h1,h2,o',hb,h3⟩:=hr
    exact⟨h1,h2,o',by rw[jJC _ hne hkl];exact hb,h3.ext hx⟩
 ·intro b hb
  have:=g.ge
  rw[jJC _ (by omega) (by omega)];exact g.old b hb
 ·have:=g.ge;omega
theorem Good.kill (g:Good P base w0 β E w){k:Nat}(hk:k<E.n):Good P base w0 β (E.set k .dead) w:=by
 have hd:∀i,(E.set k .dead).get i≠.dead→E.get i≠.dead∧i≠k:=by
  intro i h
  by_cases hi:i=k
  ·subst hi;rw[EM.get_set_same rfl hk]at h;exact absurd rfl h
  ·rw[EM.get_set_other _ hi hk]at h;exact⟨h,hi⟩
 refine⟨g.len,g.dom,?_,g.lt,?_,g.old,g.ge,g.os,g.out,g.tape⟩
 ·intro i j li lj ei ej di dj hb
  exact g.inj _ _ _ _ ei ej (hd i di).1 (hd j dj).1 hb
 ·intro i li e
  by_cases hi:i=k
  ·subst hi;rw[EM.get_set_same rfl hk];trivial
  ·rw[EM.get_set_other _ hi hk];exact g.rep _ _ e
theorem Good.newS (g:Good P base w0 β E w){c c':List Value}(h:VRs β c c')(t:TypeId)(slack:Nat)(extra:List Value)(hx:extra.length=slack*jF2 P t) :
 Good P base w0 (β.put E.n ⟨w.heap.size,0,c.length,jF2 P t,slack⟩) (E.push (.cells c t true false)) { w with heap:=w.heap.push (.cells (c'++extra).toArray t) }:=by
 refine g.put (by simp) ?_ ?_ g.ge (by simp) ?_
 ·intro i hi hlt
  simp[Array.getElem?_push_lt,hlt]
 ·intro i li e d
  have:=g.lt _ _ e;simp;omega
 ·have hxx:=Ext.put g.fresh (⟨w.heap.size,0,c.length,jF2 P t,slack⟩:Loc)
  refine⟨rfl,rfl,(c'++extra).toArray,t,(0,0),by simp,?_,?_,⟨fun _=>⟨g.ge,rfl,rfl,fun _=>rfl⟩,fun e=>by cases e⟩⟩
  ·simp[h.length,hx]
  ·intro i v hv
   obtain⟨v',hv',hr⟩:=h.get hv
   have hlt:=(List.getElem?_eq_some_iff.1 hv').1
   exact⟨v',by simp[List.getElem?_append_left hlt,hv'],hr.ext hxx⟩
theorem AR.new (l:Loc)(k:Nat)(β:Map)(h0:l.off=0):AR (β.put k l) ⟨k,0,none⟩ ⟨l.blk,0,none⟩:=⟨l,Map.put_same _ _ _,rfl,by simp[h0]⟩
/-! ### A row of cells is made -/
theorem jIf (g:Good P base w0 β E w){c c':List Value}(h:VRs β c c')(t:TypeId) :
 ∃β1 a',Ext β β1∧AR β1 ⟨E.n,0,none⟩ a'∧(newRow t c'.toArray).run P w=.ok a' { w with heap:=w.heap.push (.cells c'.toArray t) } ∧
  Good P base w0 β1 (E.push (.cells c t true true)) { w with heap:=w.heap.push (.cells c'.toArray t) }:=by
 refine⟨_,⟨w.heap.size,0,none⟩,Ext.put g.fresh _,AR.new _ _ _ rfl,?_,g.new h t _ rfl⟩
 simp[newRow]
def jGW (P:Program)(t:TypeId):Option Value :=
 match P.info? t with
 | some i=>match i.zero with
   | some z=>if jBl z then some z else none
   | none=>none
 | none=>none
theorem jEp {t:TypeId}{z:Value}(h:jGW P t=some z):jBl z=true∧(zeroValue t).run P w=.ok z w:=by
 unfold jGW at h
 split at h
 ·rename_i i hi
  split at h
  ·rename_i z' hz
   split at h
   ·rename_i hf
    cases h
    exact⟨hf,by simp[zeroValue,typeInfo,hi,hz]⟩
   ·cases h
  ·cases h
 ·cases h
/-! ### Parts laid into cells -/
theorem jTj {off:Nat}:∀ (xs xs':List Value) (j:Nat) (cs cs':Array Value),VRs β xs xs'→VRs β cs.toList cs'.toList →
  VRs β ((xs.zipIdx j).foldl (fun cs (p:Value × Nat)=>cs.setIfInBounds (off+p.2) p.1) cs).toList ((xs'.zipIdx j).foldl (fun cs (p:Value × Nat)=>cs.setIfInBounds (off+p.2) p.1) cs').toList
 | [],_,j,cs,cs',h,hc=>by cases h;simpa using hc
 | x :: r,_,j,cs,cs',h,hc=>by
   cases h with
   | cons hx ht =>
     simp only[List.zipIdx_cons,List.foldl_cons]
     exact jTj r _ (j+1) _ _ ht (by simpa using hc.set _ hx)
theorem VRs.size {cs cs':Array Value}(h:VRs β cs.toList cs'.toList):cs'.size=cs.size:=by simpa using h.length.symm
inductive Parts (β:Map):List (Nat × Value)→List (Nat × Value)→Prop
 | nil:Parts β [] []
 | cons {i:Nat} {v v':Value} {r r':List (Nat × Value)} (h:VR β v v') (t:Parts β r r'):Parts β ((i,v) :: r) ((i,v') :: r')
theorem jK9 (place:Nat→Option (Nat × Nat)):∀ {ps ps':List (Nat × Value)} {cs cs' r:Array Value},Parts β ps ps'→VRs β cs.toList cs'.toList→Instr.fill place cs ps=some r →
  ∃r',Instr.fill place cs' ps'=some r'∧VRs β r.toList r'.toList
 | _,_,cs,cs',r,.nil,hc,h=>by simp[Instr.fill]at h;subst h;exact⟨cs',by simp[Instr.fill],hc⟩
 | _,_,cs,cs',r,.cons (i:=i) (v:=v) (v':=v') hv ht,hc,h=>by
   simp only[Instr.fill]at h ⊢
   cases hp:place i with
   | none=>simp[hp]at h
   | some os =>
     obtain⟨off,size⟩:=os
     simp only[hp]at h ⊢
     rw[hv.cellsSize,hc.size]
     split at h
     ·cases h
     ·rename_i hn
      rw[if_neg hn]
      refine jK9 place ht ?_ h
      have:=jTj (off:=off) v.cells.toList v'.cells.toList 0 cs cs' hv.cells hc
      rw[←Array.foldl_toList,←Array.foldl_toList,Array.toList_zipIdx,Array.toList_zipIdx]
      exact this
def jIr (ts:Slots)(ps:Array (Nat × Operand)):List (Nat × Value):=ps.toList.map fun p=>(p.1,evT ts p.2)
theorem jK5 {ts:Slots}{tmps:Array Value}{ng:Nat}(hg:Glob ng β)(ht:VRs β ts.toL tmps.toList):∀ {ps:List (Nat × Operand)},(ps.all fun p=>okX ng p.2)=true →
  Parts β (ps.map fun p=>(p.1,evT ts p.2)) (ps.map fun p=>(p.1,evA tmps p.2))
 | [],_=>.nil
 | p :: r,h=>by
   simp only[List.all_cons,Bool.and_eq_true]at h
   exact .cons (jDU ht hg h.1) (jK5 hg ht h.2)
def jJg (P:Program):List Field→Option (List (Nat × Nat))
 | []=>some []
 | f :: r=>match P.info? f.type,jJg P r with
   | some i,some l=>some ((f.offset,i.size) :: l)
   | _,_=>none
theorem jMM:∀ {fs:List Field} {l:List (Nat × Nat)},jJg P fs=some l →
  (fs.mapM fun f=>do pure (f.offset,←sizeOf f.type):Sem (List (Nat × Nat))).run P w=.ok l w
 | [],l,h=>by simp[jJg]at h;subst h;simp
 | f :: r,l,h=>by
   simp only[jJg]at h
   split at h
   ·rename_i i l' hi hl
    cases h
    have:=jMM hl
    simp only[List.mapM_cons,Sem.run_bind,jAL hi,Result.andThen_ok,Sem.run_pure,this]
   ·cases h
def jTU (P:Program)(t:TypeId)(ps:List (Nat × Value)):Option Value :=
 match jGW P t,P.underlying t with
 | some z,some (.struct fields)=>match jJg P fields.toList with
   | some places=>(Instr.fill (places.toArray[·]?) z.cells ps).map .agg
   | none=>none
 | some z,some (.array _ elem)=>match P.info? elem with
   | some i=>(Instr.fill (fun k=>some (k*i.size,i.size)) z.cells ps).map .agg
   | none=>none
 | _,_=>none
theorem jDK {z:Value}(h:jBl z=true):VRs β z.cells.toList z.cells.toList:=(VR.flat h).cells
theorem jWq {t:TypeId}{ps ps':List (Nat × Value)}(hp:Parts β ps ps'){v:Value}(h:jTU P t ps=some v) :
 ∃v',VR β v v'∧(Instr.build t ps'.toArray).run P w=.ok v' w:=by
 unfold jTU at h
 split at h
 ·rename_i z fields hz hu
  obtain⟨hf,hzr⟩:=jEp (w:=w) hz
  split at h
  ·rename_i places hpl
   simp only[Option.map_eq_some_iff]at h
   obtain⟨r,hr,rfl⟩:=h
   obtain⟨r',hr',hv⟩:=jK9 (places.toArray[·]?) hp (jDK hf) hr
   refine⟨.agg r',.agg hv,?_⟩
   have hm:(fields.mapM fun f=>do pure (f.offset,←sizeOf f.type):Sem (Array (Nat × Nat))).run P w=.ok places.toArray w:=by
    rw[Array.mapM_eq_mapM_toList]
    simp only[Sem.run_map,jMM (w:=w) hpl,Result.andThen_ok]
   unfold Instr.build
   simp only[Sem.run_bind,hzr,Result.andThen_ok,run_underlying hu,hm,hr',Sem.run_pure]
  ·cases h
 ·rename_i z n elem hz hu
  obtain⟨hf,hzr⟩:=jEp (w:=w) hz
  split at h
  ·rename_i i hi
   simp only[Option.map_eq_some_iff]at h
   obtain⟨r,hr,rfl⟩:=h
   obtain⟨r',hr',hv⟩:=jK9 _ hp (jDK hf) hr
   refine⟨.agg r',.agg hv,?_⟩
   unfold Instr.build
   simp only[Sem.run_bind,hzr,Result.andThen_ok,run_underlying hu,jAL hi,hr',Sem.run_pure]
  ·cases h
 ·cases h
def jEz (P:Program)(E:EM)(t:TypeId)(len:Nat)(ps:List (Nat × Value)):Option (Value × EM) :=
 match P.underlying t with
 | some (.slice elem)=>match P.info? elem,jGW P elem with
   | some i,some z =>
     if len*i.size > 2 ^ 24 then none else
     match Instr.fill (fun k=>some (k*i.size,i.size)) ((Array.range (len*i.size)).map ((if len*i.size=0 then #[] else z.cells)[· % (if len*i.size=0 then #[] else z.cells).size]!)) ps with
     | some cells=>some (.slice (some ⟨E.n,0,none⟩) len len,E.push (.cells cells.toList elem true true))
     | none=>none
   | _,_=>none
 | _=>none
theorem VRs.rangeMap (n:Nat){z:Array Value}(h:VRs β z.toList z.toList)(hd:VR β default default):VRs β ((Array.range n).map (z[· % z.size]!)).toList ((Array.range n).map (z[· % z.size]!)).toList:=by
 refine VRs.of_get rfl fun i v v' hv hv'=>?_
 rw[hv]at hv';cases hv'
 simp at hv
 obtain⟨a,ha,rfl⟩:=hv
 rw[Array.getElem!_eq_getD,Array.getD_eq_getD_getElem?]
 cases hz:z[a % z.size]? with
 | none=>exact hd
 | some x =>
   obtain⟨x',hx',hr⟩:=h.get (i:=a % z.size) (v:=x) (by simpa using hz)
   have:x'=x:=by
    have:z.toList[a % z.size]? = some x:=by simpa using hz
    rw[this]at hx';cases hx';rfl
   subst this;exact hr
theorem jLt (g:Good P base w0 β E w){t:TypeId}{len:Nat}{ps ps':List (Nat × Value)}(hp:Parts β ps ps'){v:Value}{E1:EM}(h:jEz P E t len ps=some (v,E1)) :
 ∃β1 v' w1,Ext β β1∧VR β1 v v'∧Good P base w0 β1 E1 w1∧(Instr.buildSlice t len ps'.toArray).run P w=.ok v' w1:=by
 unfold jEz at h
 split at h
 ·rename_i elem hu
  split at h
  ·rename_i i z hi hz
   obtain⟨hf,hzr⟩:=jEp (w:=w) hz
   split at h
   ·cases h
   ·rename_i hle
    split at h
    ·rename_i cells qAU
     cases h
     have hzz:VRs β (if len*i.size=0 then #[] else z.cells).toList (if len*i.size=0 then #[] else z.cells).toList:=by
      split
      ·exact .nil
      ·exact jDK hf
     obtain⟨cells',hfill',hv⟩:=jK9 _ hp (VRs.rangeMap (len*i.size) hzz (VR.scalar rfl)) qAU
     obtain⟨β1,a',hx,ha,jA9,g1⟩:=jIf g hv elem
     refine⟨β1,.slice (some a') len len,_,hx,.slice ha (.inl rfl),g1,?_⟩
     unfold Instr.buildSlice
     have hnle:¬len*i.size > 2 ^ 24:=hle
     simp only[Array.toArray_toList]at jA9
     by_cases h0:len*i.size=0
     ·rw[if_pos h0]at hfill'
      simp only[Sem.run_bind,run_underlying hu,Result.andThen_ok,jAL hi,if_neg hnle,if_pos h0,Sem.run_pure,hfill',jA9]
     ·rw[if_neg h0]at hfill'
      simp only[Sem.run_bind,run_underlying hu,Result.andThen_ok,jAL hi,if_neg hnle,if_neg h0,Sem.run_pure,hzr,hfill',jA9]
    ·cases h
  ·cases h
 ·cases h
end
end
end Go.Eng
