/-
  A CLOSED RUN, HELD AGAINST THE MODEL (7): append, whole.
-/
import Derived.Test.YtldapapdolkiaaaGreatDoorEngG
namespace Go.Eng
noncomputable section
set_option linter.unusedVariables false
set_option linter.unusedSimpArgs false
section
variable {P:Program} {base:Nat} {w0:World} {β:Map} {E:EM} {w:World}
theorem VRs.allOne {r r':List Value}(h:VRs β r r')(h1:r.all jLJ=true):∀v ∈ r',v.oneCell'=true:=by
 induction r generalizing r' with
 | nil=>cases h;simp
 | cons v r ih =>
   cases h with
   | cons hv ht =>
     simp only[List.all_cons,Bool.and_eq_true]at h1
     intro u hu
     rcases List.mem_cons.1 hu with e | e
     ·rw[e];exact hv.oneCell h1.1
     ·exact ih ht h1.2 u e
theorem Addr.add_none (b o n:Nat):(⟨b,o,none⟩:Addr).add n=⟨b,o+n,none⟩:=by unfold Addr.add;split <;> simp[*]
theorem jMe (g:Good P base w0 β E w){t u ty e:TypeId}{i:TypeInfo}{d:TypeDesc}(ht:P.underlying t=some (.slice e))(hu:P.underlying u=some d)(hd:jHs d=true)(hi:P.info? e=some i)
 {a:Addr} {l:Loc} (hl:β a.block=some l) {c:List Value} {t2:TypeId} {fx:Bool} (jEK:E.get a.block=.cells c t2 true fx) (hte:t2=e) {jAD sCap n:Nat} (jNr:a.off+sCap*jF2 P t2=c.length)
 {x:Value} {old new new':List Value} (hold:jCI E a (jAD*i.size)=some old) (rn:VRs β new new') (ln:new.length=n*i.size) (h1:new.all jLJ=true)
 (jBi:(Builtin.lenOf x).run P w=.ok n w) (hn:(Builtin.firstCells i.size n x).run P w=.ok new'.toArray w) (jC1:sCap<jAD+n) (jYL:jAD+n≤sCap+l.slack) :
 ∃β1 v' w1,Ext β β1∧VR β1 (.slice (some ⟨E.n,0,none⟩) (jAD+n) (jAD+n)) v'∧Good P base w0 β1 ((E.set a.block .dead).push (.cells (old++new) e true false)) w1 ∧
  (Builtin.append_ #[t,u] ty #[.slice (some ⟨l.blk,l.off+a.off,none⟩) jAD (sCap+l.slack),x]).run P w=.ok v' w1:=by
 have jEJ:=g.rep _ _ hl
 rw[jEK]at jEJ
 obtain⟨hcl,hes,c',t',fr,hb,hsz,hc,jAN⟩:=jEJ
 have ht2:jF2 P t2=i.size:=by rw[hte];exact jDm hi
 obtain⟨jDu,rfl,htt,_⟩:=jAN.1 rfl
 have hesi:l.es=i.size:=by rw[hes,ht2]
 have hk:=g.dom _ _ hl
 -- the old cells
 have hold':old.length=jAD*i.size∧∀j v,old[j]? = some v→c[a.off+j]? = some v:=by
  rw[jEj]at hold
  rw[jEK]at hold
  simp only at hold
  split at hold
  ·rename_i hle
   cases hold
   refine⟨by simp;omega,fun j v hv=>?_⟩
   have hj:j<jAD*i.size:=by
    have:=(List.getElem?_eq_some_iff.1 hv).1
    simp at this;omega
   rw[List.getElem?_take_of_lt hj,List.getElem?_drop]at hv
   exact hv
  ·cases hold
 obtain⟨lo,ho⟩:=hold'
 have ln':new'.length=n*i.size:=by rw[←rn.length];exact ln
 have jUu:l.off+a.off+(sCap+l.slack)*i.size≤c'.size:=by
  have:l.size=a.off+sCap*i.size:=by rw[←hcl,←jNr,ht2]
  rw[this,hesi]at hsz
  rw[Nat.add_mul];omega
 have hmul:(jAD+n)*i.size≤(sCap+l.slack)*i.size:=Nat.mul_le_mul_right _ jYL
 have jUg:l.off+a.off+jAD*i.size+0+new'.length≤c'.size:=by
  rw[ln'];rw[Nat.add_mul]at hmul;omega
 obtain⟨w1,c1,jA9,s1,s2,s3,s4,s5,s6,s7,s8,s9⟩:=jFy (P:=P) new' 0 hb jUg (rn.allOne h1)
 have happ:=jKl (ty:=ty) (a:=⟨l.blk,l.off+a.off,none⟩) (jAD:=jAD) ht hu hd hi jBi hn jYL (by rw[Addr.add_none];exact jA9)
 have gk:=g.kill hk
 have jCL:∀j lj,β j=some lj→(E.set a.block .dead).get j≠.dead→lj.blk≠l.blk:=by
  intro j lj ej dj hj
  by_cases hjk:j=a.block
  ·subst hjk;rw[EM.get_set_same rfl hk]at dj;exact dj rfl
  ·rw[EM.get_set_other _ hjk hk]at dj
   exact hjk (g.inj _ _ _ _ ej hl dj (by rw[jEK];simp) hj)
 let L:Loc:=⟨l.blk,l.off+a.off,(jAD+n)*i.size,i.size,sCap+l.slack-(jAD+n)⟩
 have hx:Ext β (β.put E.n L):=Ext.put g.fresh L
 have qAW:(old++new).length=(jAD+n)*i.size:=by simp only[List.length_append,lo,ln,Nat.add_mul]
 have gn:Good P base w0 (β.put (E.set a.block .dead).n L) ((E.set a.block .dead).push (.cells (old++new) e true false)) w1:=by
  refine gk.put (by omega) (fun j hj _=>s2 j hj) jCL jDu (by rw[s1];show l.blk<_;exact g.lt _ _ hl) ?_ s7 s8 s9
  refine⟨qAW,(jDm hi).symm,c1,t',(0,0),s3,?_,?_,fun _=>⟨jDu,rfl,htt.trans hte,fun e=>by cases e⟩,fun e=>by cases e⟩
  ·rw[s4]
   have:(jAD+n)*i.size+(sCap+l.slack-(jAD+n))*i.size=(sCap+l.slack)*i.size:=by
    rw[←Nat.add_mul];congr 1;omega
   show l.off+a.off+(jAD+n)*i.size+(sCap+l.slack-(jAD+n))*i.size≤c'.size
   omega
  ·intro j v hv
   show ∃v',c1[l.off+a.off+j]? = some v'∧_
   by_cases hj:j<old.length
   ·rw[List.getElem?_append_left hj]at hv
    obtain⟨v',hv',hr⟩:=hc _ _ (ho j v hv)
    refine⟨v',?_,hr.ext hx⟩
    rw[s6 _ (by omega),←hv']
    congr 1;omega
   ·rw[List.getElem?_append_right (by omega)]at hv
    obtain⟨v',hv',hr⟩:=rn.get hv
    refine⟨v',?_,hr.ext hx⟩
    have hlt:=(List.getElem?_eq_some_iff.1 hv').1
    have:=s5 _ hlt
    rw[←hv',←this]
    congr 1;omega
 refine⟨_,_,_,hx,VR.slice (a':=⟨l.blk,l.off+a.off,none⟩) ?_ (.inr ⟨L,Map.put_same _ _ _,?_,rfl⟩),gn,?_⟩
 ·exact⟨L,Map.put_same _ _ _,rfl,rfl⟩
 ·show 0+(jAD+n)*i.size=(jAD+n)*i.size
  omega
 ·rw[happ]
  have:jAD+n+(sCap+l.slack-(jAD+n))=sCap+l.slack:=by omega
  show _=Result.ok (Value.slice _ (jAD+n) (jAD+n+(sCap+l.slack-(jAD+n)))) w1
  rw[this]
theorem jSW (g:Good P base w0 β E w){t u ty:TypeId}{s s' x x':Value}(hs:VR β s s')(hx:VR β x x'){v:Value}{E1:EM}(h:jNZ P E [t,u] [s,x]=some (v,E1)) :
 ∃β1 v' w1,Ext β β1∧VR β1 v v'∧Good P base w0 β1 E1 w1∧(Builtin.append_ #[t,u] ty #[s',x']).run P w=.ok v' w1:=by
 unfold jNZ at h
 split at h
 case h_2=>cases h
 rename_i t0 u0 b jAD sCap x0 e1 e2
 simp only[List.cons.injEq,and_true]at e1 e2
 obtain⟨rfl,rfl⟩:=e1
 obtain⟨rfl,rfl⟩:=e2
 split at h
 case h_2=>cases h
 rename_i e d ht hu
 split at h
 case h_2=>cases h
 rename_i i z hi hz
 have hzi:=jG4 hz hi
 split at h
 ·cases h
 rename_i jCz
 simp only[not_or,Bool.not_eq_false,Bool.not_eq_true,Decidable.not_not]at jCz
 obtain⟨hd,h0s,h0b,hzs,qAv⟩:=jCz
 split at h
 ·cases h
 rename_i n new jRE
 obtain⟨new',rn,ln,jBi,jHQ⟩:=jI2 g hx jRE
 split at h
 · -- there is room
  rename_i jYL
  split at h
  ·rename_i a
   simp only[Option.map_eq_some_iff,Prod.mk.injEq]at h
   obtain⟨E2,hst,rfl,rfl⟩:=h
   obtain⟨a',cap',rfl,ha,hc⟩:=hs.sliceInv (by simpa [spotted] using qAv)
   obtain⟨w1,jA9,g1⟩:=jCO _ 0 g (ha.add _) rn hst
   have jUu:sCap≤cap':=by rcases hc with hc | ⟨l,_,_,hc⟩ <;> omega
   refine⟨β,.slice (some a') (jAD+n) cap',w1,Ext.refl β,.slice ha hc,g1,?_⟩
   exact jKl ht hu hd hi jBi (jHQ w rfl rfl rfl rfl) (by omega) (by simpa using jA9)
  ·split at h
   ·rename_i hn0
    cases h
    subst hn0
    have:=hs.scalarEq rfl
    subst this
    refine⟨β,.slice none jAD sCap,w,Ext.refl β,.scalar rfl,g,?_⟩
    have hf:=jHQ w rfl rfl rfl rfl
    have hfit':jAD≤sCap:=by omega
    unfold Builtin.append_
    simp only[List.getElem?_toArray,List.getElem?_cons_zero,List.getElem?_cons_succ,Sem.run_bind,run_underlying ht,run_underlying hu,Result.andThen_ok,jAL hi,Sem.run_pure]
    split
    ·simp[jHs]at hd
    ·simp[jBi,hfit',hf]
   ·cases h
 ·rename_i jC1
  split at h
  ·cases h
  rename_i qAw
  simp only[not_or,Bool.not_eq_false,gt_iff_lt,Nat.not_lt]at qAw
  obtain⟨h47,jDY⟩:=qAw
  split at h
  · -- from nothing
   split at h
   ·rename_i hl0
    cases h
    subst hl0
    have:=hs.scalarEq rfl
    subst this
    have:=jG1 (ty:=ty) (old:=[]) (old':=[]) (jAD:=0) (b:=none) (sCap:=sCap) g ht hu hd hi hzi hzs jBi (jHQ w.drew rfl rfl rfl rfl) rfl (by omega) h0b h47 .nil rn (by simp) ln
    simpa using this
   ·cases h
  ·rename_i a
   obtain⟨a',cap',rfl,⟨l,hl,jUi,rfl⟩,hc⟩:=hs.sliceInv (by simpa [spotted] using qAv)
   split at h
   case h_2=>cases h
   rename_i c t2 own fx old jEK hold
   obtain⟨old',ro,lo,jUj,_⟩:=(g.sameHeap (w':=w.drew) rfl).loads ⟨l,hl,jUi,rfl⟩ hold
   have jEJ:=g.rep _ _ hl
   rw[jEK]at jEJ
   split at h
   ·rename_i jYM
    obtain⟨_,jNr⟩:=jYM
    split at h
    ·rename_i jAN
     cases h
     obtain⟨rfl,ht2⟩:=jAN
     have hcase:cap'=sCap∨cap'=sCap+l.slack:=by
      rcases hc with hc | ⟨l2,hl2,_,hc⟩
      ·exact .inl hc
      ·rw[hl]at hl2;cases hl2;exact .inr hc
     by_cases jUg:jAD+n≤cap'
     ·have:cap'=sCap+l.slack:=by omega
      subst this
      exact jMe g ht hu hd hi hl jEK ht2 jNr hold rn ln jDY jBi (jHQ w rfl rfl rfl rfl) (by omega) jUg
     ·have gk:=g.kill (g.dom _ _ hl)
      exact jG1 (E:=E.set a.block .dead) gk ht hu hd hi hzi hzs jBi (jHQ w.drew rfl rfl rfl rfl) jUj (by omega) h0b h47 ro rn lo ln
    ·cases h
   ·rename_i jNr
    cases h
    have:cap'=sCap:=by
     rcases hc with hc | ⟨l2,hl2,hr,hc⟩
     ·exact hc
     ·rw[hl]at hl2;cases hl2
      cases hfx:fx with
      | false=>exact absurd ⟨hfx,by rw[jEJ.1,←hr,jEJ.2.1]⟩ jNr
      | true =>
        obtain⟨_,_,_,_,_,_,_,_,hz⟩:=jEJ
        rw[hz.2 hfx]at hc;exact hc
    subst this
    exact jG1 g ht hu hd hi hzi hzs jBi (jHQ w.drew rfl rfl rfl rfl) jUj (by omega) h0b h47 ro rn lo ln
end
end
end Go.Eng
