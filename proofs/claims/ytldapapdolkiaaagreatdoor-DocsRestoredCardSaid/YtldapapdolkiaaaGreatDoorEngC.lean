/-
  A CLOSED RUN, HELD AGAINST THE MODEL (3): one operation that is no call of a Go function.
-/
import Derived.Test.YtldapapdolkiaaaGreatDoorEngB
import Derived.Laws.Append
import Derived.Laws.Entries
import Derived.Laws.Sem
import Derived.Orders
namespace Go.Eng
noncomputable section
set_option linter.unusedVariables false
set_option linter.unusedSimpArgs false
/-! ### Computing without memory -/
def jBz {α:Type}(P:Program):Sem α→Option α
 | .pure a=>some a
 | .program k=>jBz P (k P)
 | .mark _ k=>jBz P k
 | _=>none
theorem jBh {α:Type}{P:Program}:∀ {s:Sem α} {a:α},jBz P s=some a→∀w,s.run P w=.ok a w
 | .pure a,b,h,w=>by simp[jBz]at h;subst h;rfl
 | .program k,b,h,w=>by simp only[jBz]at h;simpa [Sem.run] using jBh h w
 | .mark m k,b,h,w=>by simp only[jBz]at h;simpa [Sem.run] using jBh h w
 | .load ..,_,h,_=>by simp[jBz]at h
 | .store ..,_,h,_=>by simp[jBz]at h
 | .new ..,_,h,_=>by simp[jBz]at h
 | .shape ..,_,h,_=>by simp[jBz]at h
 | .freeze ..,_,h,_=>by simp[jBz]at h
 | .frozen ..,_,h,_=>by simp[jBz]at h
 | .getObj ..,_,h,_=>by simp[jBz]at h
 | .setObj ..,_,h,_=>by simp[jBz]at h
 | .choose ..,_,h,_=>by simp[jBz]at h
 | .sys ..,_,h,_=>by simp[jBz]at h
 | .halt ..,_,h,_=>by simp[jBz]at h
/-! ### What holds no address reads the same in both -/
theorem VR.scalarEq {β:Map}{v v':Value}(h:VR β v v')(hs:jAn v=true):v'=v:=by
 cases h with
 | scalar _=>rfl
 | ptr _=>simp[jAn]at hs
 | slice _ _=>simp[jAn]at hs
 | empty=>simp[jAn]at hs
 | agg _=>simp[jAn]at hs
 | tuple _=>simp[jAn]at hs
 | func _ _ _=>simp[jAn]at hs
 | iface _=>simp[jAn]at hs
 | map _=>simp[jAn]at hs
 | unk=>simp[jAn]at hs
theorem VRs.scalarEq {β:Map}:∀ {r r':List Value},VRs β r r'→r.all jAn=true→r'=r
 | _,_,.nil,_=>rfl
 | _,_,.cons e t,h=>by
   simp only[List.all_cons,Bool.and_eq_true]at h
   rw[e.scalarEq h.1,VRs.scalarEq t h.2]
theorem VR.flatEq {β:Map}{v v':Value}(h:VR β v v')(hf:jBl v=true):v'=v:=by
 cases h with
 | scalar _=>rfl
 | ptr _=>simp[jBl,jAn]at hf
 | slice _ _=>simp[jBl,jAn]at hf
 | empty=>simp[jBl,jAn]at hf
 | agg h=>simp only[jBl]at hf;rw[Array.toList_inj.1 (h.scalarEq hf)]
 | tuple h=>simp only[jBl]at hf;rw[Array.toList_inj.1 (h.scalarEq hf)]
 | func h1 h2 h3 =>
   cases h1 with
   | func g =>
     simp only[jBl,Bool.and_eq_true,Array.isEmpty_iff]at hf
     obtain⟨rfl,rfl⟩:=hf
     have e2:=h2.length
     have e3:=h3.length
     simp at e2 e3
     rw[Array.eq_empty_of_size_eq_zero e2.symm,Array.eq_empty_of_size_eq_zero e3.symm]
   | method n=>simp[jBl,jAn]at hf
   | yield e=>simp[jBl,jAn]at hf
 | iface _=>simp[jBl,jAn]at hf
 | map _=>simp[jBl,jAn]at hf
 | unk=>simp[jBl,jAn]at hf
/-! ### Operands -/
def evT (ts:Slots):Operand→Value
 | .tmp t=>ts.get t
 | .const v=>v
 | .global g=>.pointer (some ⟨g,0,none⟩)
 | .func f=>.func (.func f) #[] #[]
def Glob (ng:Nat)(β:Map):Prop:=∀g,g<ng→∃l,β g=some l∧l.blk=g∧l.off=0
theorem Glob.ext {ng:Nat}{β β':Map}(h:Ext β β')(g:Glob ng β):Glob ng β':=fun i hi=>by
 obtain⟨l,a,b⟩:=g i hi
 exact⟨l,h _ _ a,b⟩
def okX (ng:Nat):Operand→Bool
 | .const v=>jBl v
 | .global g=>decide (g<ng)
 | _=>true
def evA (tmps:Array Value):Operand→Value
 | .tmp t=>tmps.getD t undef
 | .const v=>v
 | .global g=>.pointer (some ⟨g,0,none⟩)
 | .func f=>.func (.func f) #[] #[]
theorem jFg (fr:Frame):fr.eval=evA fr.tmps:=by funext x;cases x <;> rfl
theorem VRs.getD {β:Map}{r r':List Value}(h:VRs β r r')(i:Nat):VR β (r.getD i undef) (r'.getD i undef):=by
 cases e:r[i]? with
 | none=>simp only[List.getD_eq_getElem?_getD,e,h.getNone e];exact jGi β
 | some v =>
   obtain⟨v',h1,h2⟩:=h.get e
   simp only[List.getD_eq_getElem?_getD,e,h1];exact h2
theorem jDU {ng:Nat}{β:Map}{ts:Slots}{tmps:Array Value}(h:VRs β ts.toL tmps.toList)(g:Glob ng β){x:Operand}(hx:okX ng x=true):VR β (evT ts x) (evA tmps x):=by
 cases x with
 | tmp t =>
   have:=h.getD t
   rw[Slots.toL_get]at this
   simpa [evT,evA,Array.getD_eq_getD_getElem?,List.getD_eq_getElem?_getD] using this
 | const v=>exact VR.flat hx
 | global i =>
   obtain⟨l,hl,hb,ho⟩:=g i (by simpa [okX] using hx)
   refine .ptr ⟨l,hl,rfl,?_⟩
   simp[hb,ho]
 | func f=>exact .func (.func f) .nil .nil
/-! ### What an operation comes to -/
def Does (P:Program)(s:Sem Next)(w:World)(v':Value)(w1:World):Prop :=
 s.run P w=.ok (.value v') w1∨(s.run P w=.ok .skip w1∧v'=undef)
def OK (P:Program)(base:Nat)(w0:World)(β:Map)(E1:EM)(v:Value)(s:Sem Next)(w:World):Prop :=
 ∃β1 v' w1,Ext β β1∧VR β1 v v'∧Good P base w0 β1 E1 w1∧Does P s w v' w1
section
variable {P:Program} {base:Nat} {w0:World} {β:Map} {E:EM} {w:World}
theorem OK.value (g:Good P base w0 β E w){v v':Value}(h:VR β v v'){s:Sem Next}(hs:s.run P w=.ok (.value v') w):OK P base w0 β E v s w :=
 ⟨β,v',w,Ext.refl β,h,g,.inl hs⟩
def jDN (P:Program)(ts:Slots)(o:Oper):Option Value :=
 match jBz P (execOp (evT ts) o) with
 | some (.value v)=>if jBl v then some v else none
 | some .skip=>some undef
 | _=>none
theorem jSG {ts:Slots}{tmps:Array Value}{o:Oper}{ng:Nat}(g:Good P base w0 β E w)(hg:Glob ng β)(ht:VRs β ts.toL tmps.toList)
 (hx:o.op.operands.toList.all (fun x=>okX ng x && jBl (evT ts x))=true) (jYD:∀cs b,o.op≠.select cs b) {v:Value} (h:jDN P ts o=some v) :
 OK P base w0 β E v (execOp (evA tmps) o) w:=by
 have hc:execOp (evA tmps) o=execOp (evT ts) o:=by
  refine execOp_congr o jYD fun x hm=>?_
  have:=List.all_eq_true.1 hx x (by simpa using hm)
  simp only[Bool.and_eq_true]at this
  exact (jDU ht hg this.1).flatEq this.2
 rw[hc]
 unfold jDN at h
 split at h
 ·rename_i u hu
  split at h
  ·rename_i hf
   cases h
   exact OK.value g (VR.flat hf) (jBh hu w)
  ·cases h
 ·rename_i hu
  cases h
  exact⟨β,undef,w,Ext.refl β,jGi β,g,.inr ⟨jBh hu w,rfl⟩⟩
 ·cases h
/-! ### Loads -/
theorem AR.add {a a':Addr}(h:AR β a a')(n:Nat):AR β (a.add n) (a'.add n):=by
 obtain⟨l,hl,hs,rfl⟩:=h
 unfold Addr.add
 by_cases hn:n=0
 ·simp[hn];exact⟨l,hl,hs,rfl⟩
 ·simp[hn];exact⟨l,hl,rfl,by simp[Nat.add_assoc]⟩
theorem Addr.add_block (a:Addr)(n:Nat):(a.add n).block=a.block:=by unfold Addr.add;split <;> rfl
theorem Addr.add_off (a:Addr)(n:Nat):(a.add n).off=a.off+n:=by unfold Addr.add;split <;> simp[*]
def jCI (E:EM)(a:Addr)(n:Nat):Option (List Value) :=
 match E.get a.block with
 | .cells c _ _ _=>if a.off+n≤llen c then some ((ldrop a.off c).take n) else none
 | _=>none
theorem jEj (E:EM)(a:Addr)(n:Nat):jCI E a n=match E.get a.block with
 | .cells c _ _ _=>if a.off+n≤c.length then some ((c.drop a.off).take n) else none
 | _=>none:=by
 unfold jCI
 simp only[jGT,jLc]
theorem Good.loads (g:Good P base w0 β E w){a a':Addr}(h:AR β a a'){n:Nat}{cs:List Value}(hc:jCI E a n=some cs) :
 ∃cs':List Value,VRs β cs cs'∧cs.length=n∧(loadCells a' n).run P w=.ok cs'.toArray w∧(∀j v,cs'[j]? = some v→w.cell? (a'.add j)=some v):=by
 rw[jEj]at hc
 split at hc
 ·rename_i c t own fx he
  split at hc
  ·rename_i hle
   cases hc
   have hn:((c.drop a.off).take n).length=n:=by simp;omega
   have jAj:∀j,j<n→∃v v',((c.drop a.off).take n)[j]? = some v∧w.cell? (a'.add j)=some v'∧VR β v v':=by
    intro j hj
    have hlt:a.off+j<c.length:=by omega
    have hv:c[a.off+j]? = some c[a.off+j]:=List.getElem?_eq_getElem hlt
    obtain⟨v',h1,h2⟩:=g.load (h.add j) (c:=c) (t:=t) (own:=own) (fx:=fx) (by rw[Addr.add_block];exact he) (v:=c[a.off+j]) (by rw[Addr.add_off];exact hv)
    exact⟨_,v',by simp[hj,hlt],h1,h2⟩
   let f:Nat→Value:=fun j=>(w.cell? (a'.add j)).getD undef
   refine⟨(List.range n).map f,?_,hn,?_,?_⟩
   ·refine VRs.of_get (by simp;omega) fun i v v' hv hv'=>?_
    have hi:i<n:=by
     have:=(List.getElem?_eq_some_iff.1 hv).1
     omega
    obtain⟨x,x',h1,h2,h3⟩:=jAj i hi
    rw[h1]at hv;cases hv
    simp[hi,f,h2]at hv'
    subst hv';exact h3
   ·exact run_loadCells w a' n f fun j hj=>by
     obtain⟨x,x',_,h2,_⟩:=jAj j hj
     simp[f,h2]
   ·intro j v hv
    have hj:j<n:=by
     have:=(List.getElem?_eq_some_iff.1 hv).1
     simpa using this
    obtain⟨x,x',_,h2,_⟩:=jAj j hj
    simp[hj,f,h2]at hv
    subst hv;exact h2
  ·cases hc
 ·cases hc
def aggT (P:Program)(t:TypeId):Option Bool :=
 match P.underlying t with
 | some (.struct _) | some (.array _ _)=>some true
 | some _=>some false
 | none=>none
theorem jGo {t:TypeId}{b:Bool}(h:aggT P t=some b):(isAgg t).run P w=.ok b w:=by
 unfold aggT at h
 cases hu:P.underlying t with
 | none=>simp[hu]at h
 | some d =>
   rw[hu]at h
   unfold isAgg
   simp only[Sem.run_bind,run_underlying hu,Result.andThen_ok]
   cases d <;> simp_all
theorem jAL {t:TypeId}{i:TypeInfo}(h:P.info? t=some i):(sizeOf t).run P w=.ok i.size w:=by
 simp[sizeOf,typeInfo,h]
theorem jHy {t:TypeId}{i:TypeInfo}(h:P.info? t=some i):(typeInfo t).run P w=.ok i w:=by
 simp[typeInfo,h]
def jOd (P:Program)(E:EM)(t:TypeId)(a:Addr):Option Value :=
 match aggT P t,P.info? t with
 | some true,some i=>(jCI E a i.size).map fun cs=>.agg cs.toArray
 | some false,_=>match jCI E a 1 with
   | some [v]=>some v
   | _=>none
 | _,_=>none
theorem Addr.add_zero (a:Addr):a.add 0=a:=by simp[Addr.add]
theorem jPu (g:Good P base w0 β E w){a a':Addr}(h:AR β a a'){t:TypeId}{v:Value}(hl:jOd P E t a=some v) :
 ∃v',VR β v v'∧(loadVar t a').run P w=.ok v' w:=by
 unfold jOd at hl
 split at hl
 ·rename_i i h1 h2
  simp only[Option.map_eq_some_iff]at hl
  obtain⟨cs,hc,rfl⟩:=hl
  obtain⟨cs',hr,hn,jA9,_⟩:=g.loads h hc
  refine⟨.agg cs'.toArray,.agg (by simpa using hr),?_⟩
  simp[loadVar,jGo h1,jAL h2,jA9]
 ·rename_i h1
  split at hl
  ·rename_i u hc
   cases hl
   obtain⟨cs',hr,hn,jA9,jAj⟩:=g.loads h hc
   cases hr with
   | cons hv ht =>
     cases ht
     rename_i v'
     have:=jAj 0 v' rfl
     rw[Addr.add_zero]at this
     refine⟨v',hv,?_⟩
     simp[loadVar,jGo h1,this]
  ·cases hl
 ·cases hl
/-! ### Stores -/
def jLJ:Value→Bool
 | .agg _ | .tuple _=>false
 | _=>true
theorem VR.oneCell {v v':Value}(h:VR β v v')(hv:jLJ v=true):v'.oneCell'=true:=by
 cases h with
 | scalar hs=>cases v <;> simp_all [jLJ,Value.oneCell',jAn]
 | ptr _=>rfl
 | slice _ _=>rfl
 | empty=>rfl
 | agg _=>simp[jLJ]at hv
 | tuple _=>simp[jLJ]at hv
 | func _ _ _=>rfl
 | iface _=>rfl
 | map _=>rfl
 | unk=>rfl
def jCh (E:EM)(a:Addr):Nat→List Value→Option EM
 | _,[]=>some E
 | i,v :: r =>
   match E.get a.block with
   | .cells c t true fx=>if a.off+i<llen c && jLJ v then jCh (E.set a.block (.cells (lset c (a.off+i) v) t true fx)) a (i+1) r else none
   | _=>none
theorem jCO {a a':Addr}:∀ (vs:List Value) (i:Nat) {E E1:EM} {w:World} {vs':List Value},Good P base w0 β E w→AR β a a'→VRs β vs vs'→jCh E a i vs=some E1 →
  ∃w1,(storeCells a' vs' i).run P w=.ok () w1∧Good P base w0 β E1 w1
 | [],i,E,E1,w,vs',g,h,hv,hs=>by
   cases hv
   simp[jCh]at hs
   subst hs
   exact⟨w,by simp[storeCells],g⟩
 | v :: r,i,E,E1,w,vs',g,h,hv,hs=>by
   cases hv with
   | cons hv ht =>
     rename_i v' r'
     simp only[jCh,jGT,jRX]at hs
     split at hs
     ·rename_i c t fx he
      split at hs
      ·rename_i jCz
       simp only[Bool.and_eq_true,decide_eq_true_eq]at jCz
       obtain⟨⟨u,hu⟩,hf,g1⟩:=g.store (h.add i) (c:=c) (t:=t) (fx:=fx) (by rw[Addr.add_block];exact he) (by rw[Addr.add_off];exact jCz.1) hv
       rw[Addr.add_block,Addr.add_off]at g1
       obtain⟨w1,jA9,g2⟩:=jCO r (i+1) g1 h ht hs
       refine⟨w1,?_,g2⟩
       simp[storeCells,run_store P w _ v' _ (hv.oneCell jCz.2),hu,hf,jA9]
      ·cases hs
     ·cases hs
def jRG (P:Program)(E:EM)(t:TypeId)(a:Addr)(v:Value):Option EM :=
 match P.info? t with
 | some i=>if v.cells.size=i.size then jCh E a 0 v.cells.toList else none
 | none=>none
theorem VR.cellsSize {v v':Value}(h:VR β v v'):v'.cells.size=v.cells.size:=by
 have:=h.cells.length
 simpa using this.symm
theorem jS2 (g:Good P base w0 β E w){a a':Addr}(h:AR β a a'){t:TypeId}{v v':Value}(hv:VR β v v'){E1:EM}(hs:jRG P E t a v=some E1) :
 ∃w1,(storeVar t a' v').run P w=.ok () w1∧Good P base w0 β E1 w1:=by
 unfold jRG at hs
 split at hs
 ·rename_i i hi
  split at hs
  ·rename_i hsz
   obtain⟨w1,jA9,g1⟩:=jCO _ 0 g h hv.cells hs
   refine⟨w1,?_,g1⟩
   simp[storeVar,jAL hi,hv.cellsSize,hsz,jA9]
  ·cases hs
 ·cases hs
end
end
end Go.Eng
