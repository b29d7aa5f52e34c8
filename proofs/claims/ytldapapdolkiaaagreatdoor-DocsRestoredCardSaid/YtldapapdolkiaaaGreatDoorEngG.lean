/-
  A CLOSED RUN, HELD AGAINST THE MODEL (6): append, and the conversions that make rows of cells.
-/
import Derived.Test.YtldapapdolkiaaaGreatDoorEngF
namespace Go.Eng
noncomputable section
set_option linter.unusedVariables false
set_option linter.unusedSimpArgs false
section
variable {P:Program} {base:Nat} {w0:World} {β:Map} {E:EM} {w:World}
/-! ### What append reads -/
def jH1 (E:EM)(size:Nat)(x:Value):Option (Nat × List Value) :=
 match x with
 | .slice (some b) n _=>if b.spot=none then (jCI E b (n*size)).map fun c=>(n,c) else if n=0 then some (0,[]) else none
 | .slice none n _=>if n=0 then some (0,[]) else none
 | .string s=>if size=1 then some (s.size,(s.data.map fun b=>Value.int .u8 b.toNat).toList) else none
 | _=>none
theorem jNl (s:ByteArray):((s.extract 0 s.size).data.map fun b=>Value.int .u8 b.toNat)=(s.data.map fun b=>Value.int .u8 b.toNat):=by
 have:s.extract 0 s.size=s:=by
  apply ByteArray.ext
  rw[ByteArray.data_extract]
  exact Array.extract_size
 rw[this]
theorem jI2 (g:Good P base w0 β E w){size n:Nat}{x x':Value}(h:VR β x x'){c:List Value}(hc:jH1 E size x=some (n,c)) :
 ∃c':List Value,VRs β c c'∧c.length=n*size∧(Builtin.lenOf x').run P w=.ok n w∧(∀w2:World,w2.heap=w.heap→w2.os=w.os→w2.output=w.output→w2.tape=w.tape→(Builtin.firstCells size n x').run P w2=.ok c'.toArray w2):=by
 unfold jH1 at hc
 split at hc
 ·rename_i b m cap
  split at hc
  case isFalse =>
   split at hc
   ·rename_i h0
    cases hc
    subst h0
    obtain⟨b',cap',rfl⟩:=h.sliceAny
    exact⟨[],.nil,by simp,rfl,fun w2 _ _ _ _=>by simp[Builtin.firstCells,loadCells,loadCellsFrom]⟩
   ·cases hc
  rename_i jUi
  simp only[Option.map_eq_some_iff,Prod.mk.injEq]at hc
  obtain⟨c1,hc1,rfl,rfl⟩:=hc
  obtain⟨b',cap',rfl,hb,_⟩:=h.sliceInv jUi
  obtain⟨cs',hr,hn,jA9,jAj⟩:=g.loads hb hc1
  refine⟨cs',hr,hn,rfl,fun w2 hw ho2 hu2 ht2=>?_⟩
  obtain⟨cs2,hr2,hn2,qAc,jFD⟩:=(g.sameHeap hw ho2 hu2 ht2).loads hb hc1
  have:cs2=cs':=by
   apply List.ext_getElem?
   intro j
   by_cases hj:j<m*size
   ·have l1:cs'.length=m*size:=by rw[←hr.length];exact hn
    have l2:cs2.length=m*size:=by rw[←hr2.length];exact hn2
    have a1:=jAj j _ (List.getElem?_eq_getElem (by omega:j<cs'.length))
    have a2:=jFD j _ (List.getElem?_eq_getElem (by omega:j<cs2.length))
    have:w2.cell? (b'.add j)=w.cell? (b'.add j):=by simp[World.cell?,hw]
    rw[this,a1]at a2
    rw[List.getElem?_eq_getElem (by omega:j<cs'.length),List.getElem?_eq_getElem (by omega:j<cs2.length)]
    exact a2.symm
   ·have l1:cs'.length=m*size:=by rw[←hr.length];exact hn
    have l2:cs2.length=m*size:=by rw[←hr2.length];exact hn2
    rw[List.getElem?_eq_none (by omega),List.getElem?_eq_none (by omega)]
  rw[this]at qAc
  exact qAc
 ·split at hc
  ·rename_i n0 cap hn
   cases hc
   have:=h.scalarEq rfl
   subst this hn
   exact⟨[],.nil,by simp,rfl,fun w2 _ _ _ _=>rfl⟩
  ·cases hc
 ·rename_i s
  split at hc
  ·rename_i hs
   cases hc
   rw[h.stringInv]
   refine⟨(s.data.map fun b=>Value.int .u8 b.toNat).toList,VRs.refl ?_,by rw[hs,Nat.mul_one,Array.length_toList,Array.size_map];rfl,rfl,fun w2 _ _ _ _=>?_⟩
   ·refine List.all_eq_true.2 fun v hv=>?_
    rw[Array.toList_map,List.mem_map]at hv
    obtain⟨a,_,rfl⟩:=hv
    rfl
   ·simp only[Builtin.firstCells,jNl,Sem.run_pure,Array.toArray_toList]
  ·cases hc
 ·cases hc
/-! ### A row of cells written over, whatever it holds -/
theorem jFy {blk o:Nat}{t:TypeId}:∀ (vs:List Value) (i:Nat) {w:World} {c:Array Value},w.heap[blk]? = some (.cells c t (0,0))→o+i+vs.length≤c.size→(∀v ∈ vs,v.oneCell'=true) →
  ∃w1 c1,(storeCells ⟨blk,o,none⟩ vs i).run P w=.ok () w1∧w1.heap.size=w.heap.size∧(∀b,b≠blk→w1.heap[b]? = w.heap[b]?)∧w1.heap[blk]? = some (.cells c1 t (0,0))∧c1.size=c.size ∧
   (∀j,j<vs.length→c1[o+i+j]? = vs[j]?)∧(∀j,j<o+i→c1[j]? = c[j]?)∧w1.os=w.os∧w1.output=w.output∧w1.tape=w.tape
 | [],i,w,c,hb,hsz,_=>⟨w,c,by simp[storeCells],rfl,fun _ _=>rfl,hb,rfl,by simp,fun _ _=>rfl,rfl,rfl,rfl⟩
 | v :: r,i,w,c,hb,hsz,qCh=>by
   simp only[List.length_cons]at hsz
   have hlt:o+i<c.size:=by omega
   have hadd:(⟨blk,o,none⟩:Addr).add i=⟨blk,o+i,none⟩:=by unfold Addr.add;split <;> simp[*]
   have jAj:w.cell? ⟨blk,o+i,none⟩=some c[o+i]:=by simp[World.cell?,hb,hlt]
   have hfr:w.frozen? ⟨blk,o+i,none⟩=false:=by simp[World.frozen?,hb]
   have qAt:blk<w.heap.size:=by
    rcases Nat.lt_or_ge blk w.heap.size with h | h
    ·exact h
    ·rw[Array.getElem?_eq_none h]at hb;cases hb
   have hb1:(w.setCell ⟨blk,o+i,none⟩ v).heap[blk]? = some (.cells (c.setIfInBounds (o+i) v) t (0,0)):=by
    simp[World.setCell,Array.getElem?_modify,hb]
   have jYF:o+(i+1)+r.length≤(c.setIfInBounds (o+i) v).size:=by rw[Array.size_setIfInBounds];omega
   obtain⟨w1,c1,jA9,h1,h2,h3,h4,h5,h6,h7,h8,h9⟩:=jFy r (i+1) hb1 jYF (fun u hu=>qCh u (List.mem_cons_of_mem _ hu))
   refine⟨w1,c1,?_,by rw[h1];simp[World.setCell],?_,h3,by rw[h4];simp,?_,?_,h7,h8,h9⟩
   ·simp only[storeCells,hadd,Sem.run_bind,run_store P w _ v _ (qCh v (List.mem_cons_self ..)),jAj,hfr,Bool.false_eq_true,if_false,Result.andThen_ok]
    exact jA9
   ·intro b hb'
    rw[h2 b hb']
    simp[World.setCell,Array.getElem?_modify,Ne.symm hb']
   ·intro j hj
    cases j with
    | zero =>
      have:=h6 (o+i) (by omega)
      simp only[Nat.add_zero]at this ⊢
      rw[this]
      simp[hlt]
    | succ j =>
      have:=h5 j (by simpa using hj)
      simp only[List.getElem?_cons_succ]
      rw[←this]
      congr 1;omega
   ·intro j hj
    rw[h6 j (by omega),Array.getElem?_setIfInBounds_ne (by omega)]
/-! ### append -/
def jHs:TypeDesc→Bool
 | .int _=>false
 | _=>true
theorem jKl {t u ty e:TypeId}{i:TypeInfo}{d:TypeDesc}(ht:P.underlying t=some (.slice e))(hu:P.underlying u=some d)(hd:jHs d=true)(hi:P.info? e=some i)
 {a:Addr} {jAD sCap n:Nat} {x:Value} {new:Array Value} {w1:World} (hl:(Builtin.lenOf x).run P w=.ok n w) (hn:(Builtin.firstCells i.size n x).run P w=.ok new w) (jYL:jAD+n≤sCap)
 (hst:(storeCells (a.add (jAD*i.size)) new.toList).run P w=.ok () w1) :
 (Builtin.append_ #[t,u] ty #[.slice (some a) jAD sCap,x]).run P w=.ok (.slice (some a) (jAD+n) sCap) w1:=by
 unfold Builtin.append_
 simp only[List.getElem?_toArray,List.getElem?_cons_zero,List.getElem?_cons_succ,Sem.run_bind,run_underlying ht,run_underlying hu,Result.andThen_ok,jAL hi,Sem.run_pure]
 split
 ·simp[jHs]at hd
 ·simp[hl,jYL,hn,hst]
theorem jOk {t u ty e:TypeId}{i:TypeInfo}{z:Value}{d:TypeDesc}(ht:P.underlying t=some (.slice e))(hu:P.underlying u=some d)(hd:jHs d=true)(hi:P.info? e=some i)
 (hz:i.zero=some z) {b:Option Addr} {jAD sCap n:Nat} {x:Value} {old new:Array Value} (hl:(Builtin.lenOf x).run P w=.ok n w)
 (hn:(Builtin.firstCells i.size n x).run P w.drew=.ok new w.drew) (ho:(Builtin.firstCells i.size jAD (.slice b jAD sCap)).run P w.drew=.ok old w.drew)
 (jC1:sCap<jAD+n) (h0:i.bytes≠0) (h47:(jAD+n)*i.bytes≤140737488355328) :
 ∃C,jAD+n≤C∧(Builtin.append_ #[t,u] ty #[.slice b jAD sCap,x]).run P w =
  .ok (.slice (some ⟨w.heap.size,0,none⟩) (jAD+n) C) (w.drew.alloc (.cells (old++new++Builtin.zeroCells z.cells (C-(jAD+n))) e)):=by
 have jYL:¬jAD+n≤sCap:=by omega
 have h48:¬(281474976710656<Builtin.nextslicecap (jAD+n) sCap*i.bytes):=by
  have:=growslice_fits (bytes:=i.bytes) jC1 h47
  omega
 refine⟨(Question.appendCap (jAD+n) sCap e).cut (w.tape w.drawn (.appendCap (jAD+n) sCap e)),by simp[Question.cut],?_⟩
 have hzr:∀w:World,(zeroValue e).run P w=.ok z w:=fun w=>by simp[zeroValue,typeInfo,hi,hz]
 unfold Builtin.append_
 simp only[List.getElem?_toArray,List.getElem?_cons_zero,List.getElem?_cons_succ,Sem.run_bind,run_underlying ht,run_underlying hu,Result.andThen_ok,jAL hi,Sem.run_pure]
 split
 ·simp[jHs]at hd
 ·simp[jHy hi,hzr,hl,jYL,h48,h0,Question.forced,hn,ho,newRow]
def spotted:Option Addr→Bool
 | some a=>a.spot.isSome
 | none=>false
def jNZ (P:Program)(E:EM)(ts:List TypeId)(args:List Value):Option (Value × EM) :=
 match ts,args with
 | [t,u],[.slice b jAD sCap,x] =>
   match P.underlying t,P.underlying u with
   | some (.slice e),some d =>
     match P.info? e,jGW P e with
     | some i,some z =>
       if jHs d=false∨i.size=0∨i.bytes=0∨z.cells.size≠i.size∨spotted b=true then none else
       match jH1 E i.size x with
       | none=>none
       | some (n,new) =>
         if jAD+n≤sCap then
          match b with
          | some a=>(jCh E (a.add (jAD*i.size)) 0 new).map fun E1=>(.slice b (jAD+n) sCap,E1)
          | none=>if n=0 then some (.slice none jAD sCap,E) else none
         else if (jAD+n)*i.bytes > 140737488355328∨new.all jLJ=false then none else
          match b with
          | none=>if jAD=0 then some (.slice (some ⟨E.n,0,none⟩) n n,E.push (.cells new e true false)) else none
          | some a =>
            match E.get a.block,jCI E a (jAD*i.size) with
            | .cells c t2 own fx,some old =>
              if fx=false∧a.off+sCap*jF2 P t2=c.length then
               if own=true∧t2=e then some (.slice (some ⟨E.n,0,none⟩) (jAD+n) (jAD+n),(E.set a.block .dead).push (.cells (old++new) e true false)) else none
              else some (.slice (some ⟨E.n,0,none⟩) (jAD+n) (jAD+n),E.push (.cells (old++new) e true false))
            | _,_=>none
     | _,_=>none
   | _,_=>none
 | _,_=>none
theorem jG4 {t:TypeId}{z:Value}(h:jGW P t=some z){i:TypeInfo}(hi:P.info? t=some i):i.zero=some z:=by
 unfold jGW at h
 rw[hi]at h
 simp only at h
 split at h
 ·rename_i z' hz
  split at h
  ·cases h;exact hz
  ·cases h
 ·cases h
theorem jDm {t:TypeId}{i:TypeInfo}(hi:P.info? t=some i):jF2 P t=i.size:=by simp[jF2,hi]
theorem jC3 (z:Array Value)(k:Nat):(Builtin.zeroCells z k).toList.length=k*z.size:=by simp[Builtin.zeroCells]
theorem jG1 (g:Good P base w0 β E w){t u ty e:TypeId}{i:TypeInfo}{z:Value}{d:TypeDesc}(ht:P.underlying t=some (.slice e))(hu:P.underlying u=some d)(hd:jHs d=true)(hi:P.info? e=some i)
 (hz:i.zero=some z) (hzs:z.cells.size=i.size) {b:Option Addr} {jAD sCap n:Nat} {x:Value} {old old' new new':List Value} (hl:(Builtin.lenOf x).run P w=.ok n w)
 (hn:(Builtin.firstCells i.size n x).run P w.drew=.ok new'.toArray w.drew) (ho:(Builtin.firstCells i.size jAD (.slice b jAD sCap)).run P w.drew=.ok old'.toArray w.drew)
 (jC1:sCap<jAD+n) (h0:i.bytes≠0) (h47:(jAD+n)*i.bytes≤140737488355328) (ro:VRs β old old') (rn:VRs β new new') (lo:old.length=jAD*i.size) (ln:new.length=n*i.size) :
 ∃β1 v' w1,Ext β β1∧VR β1 (.slice (some ⟨E.n,0,none⟩) (jAD+n) (jAD+n)) v'∧Good P base w0 β1 (E.push (.cells (old++new) e true false)) w1 ∧
  (Builtin.append_ #[t,u] ty #[.slice b jAD sCap,x]).run P w=.ok v' w1:=by
 obtain⟨C,hC,jA9⟩:=jOk (ty:=ty) ht hu hd hi hz hl hn ho jC1 h0 h47
 have hx:(Builtin.zeroCells z.cells (C-(jAD+n))).toList.length=(C-(jAD+n))*jF2 P e:=by rw[jC3,hzs,jDm hi]
 have hg:=(g.sameHeap (w':=w.drew) rfl).newS (ro.append rn) e (C-(jAD+n)) _ hx
 have heq:(old'++new'++(Builtin.zeroCells z.cells (C-(jAD+n))).toList).toArray=old'.toArray++new'.toArray++Builtin.zeroCells z.cells (C-(jAD+n)):=by
  apply Array.ext';simp
 rw[heq]at hg
 refine⟨_,_,_,Ext.put g.fresh _,VR.slice (AR.new _ _ _ rfl) (.inr ⟨_,Map.put_same _ _ _,?_,rfl⟩),hg,?_⟩
 ·simp only[List.length_append,lo,ln,jDm hi]
  rw[Nat.zero_add,Nat.add_mul]
 ·rw[jA9]
  have:jAD+n+(C-(jAD+n))=C:=by omega
  rw[this]
  rfl
end
end
end Go.Eng
