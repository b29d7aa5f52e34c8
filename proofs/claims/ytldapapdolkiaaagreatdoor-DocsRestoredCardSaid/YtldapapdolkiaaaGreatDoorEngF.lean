/-
  A CLOSED RUN, HELD AGAINST THE MODEL (5): addresses, parts, slices, iterators, conversions.
-/
import Derived.Test.YtldapapdolkiaaaGreatDoorEngD
namespace Go.Eng
noncomputable section
set_option linter.unusedVariables false
set_option linter.unusedSimpArgs false
section
variable {P:Program} {base:Nat} {w0:World} {β:Map} {E:EM} {w:World}
/-! ### Parts of values -/
def jK0 (x:Value)(i:Nat):Option Value :=
 match x with
 | .tuple vs=>vs.toList[i]?
 | _=>none
theorem VR.tupleInv {vs:Array Value}{v':Value}(h:VR β (.tuple vs) v'):∃vs':Array Value,v'=.tuple vs'∧VRs β vs.toList vs'.toList:=by
 cases h with
 | scalar h=>simp[jAn]at h
 | tuple h=>exact⟨_,rfl,h⟩
theorem VR.aggInv {vs:Array Value}{v':Value}(h:VR β (.agg vs) v'):∃vs':Array Value,v'=.agg vs'∧VRs β vs.toList vs'.toList:=by
 cases h with
 | scalar h=>simp[jAn]at h
 | agg h=>exact⟨_,rfl,h⟩
theorem VR.ptrInv {a:Addr}{v':Value}(h:VR β (.pointer (some a)) v'):∃a',v'=.pointer (some a')∧AR β a a':=by
 cases h with
 | scalar h=>simp[jAn]at h
 | ptr h=>exact⟨_,rfl,h⟩
theorem VR.sliceInv {a:Addr}{len cap:Nat}{v':Value}(h:VR β (.slice (some a) len cap) v')(hs:a.spot=none):∃a' cap',v'=.slice (some a') len cap'∧AR β a a'∧jZL β a cap cap':=by
 cases h with
 | scalar h=>simp[jAn]at h
 | slice h c=>exact⟨_,_,rfl,h,c⟩
 | empty=>cases hs
theorem VR.sliceAny {a:Addr}{len cap:Nat}{v':Value}(h:VR β (.slice (some a) len cap) v'):∃a' cap',v'=.slice (some a') len cap':=by
 cases h with
 | scalar h=>simp[jAn]at h
 | slice h c=>exact⟨_,_,rfl⟩
 | empty=>exact⟨_,_,rfl⟩
theorem VR.ifaceInv {t:TypeId}{u v':Value}(h:VR β (.iface t u) v'):∃u',v'=.iface t u'∧VR β u u':=by
 cases h with
 | scalar h=>simp[jAn]at h
 | iface h=>exact⟨_,rfl,h⟩
theorem VR.funcInv {f:Fn}{a c:Array Value}{v':Value}(h:VR β (.func f a c) v'):∃f' a' c',v'=.func f' a' c'∧FnR β f f'∧VRs β a.toList a'.toList∧VRs β c.toList c'.toList:=by
 cases h with
 | scalar h=>simp[jAn]at h
 | func h1 h2 h3=>exact⟨_,_,_,rfl,h1,h2,h3⟩
theorem VR.boolInv {b:Bool}{v':Value}(h:VR β (.bool b) v'):v'=.bool b:=h.scalarEq rfl
theorem VR.intInv {k:IntKind}{n:Int}{v':Value}(h:VR β (.int k n) v'):v'=.int k n:=h.scalarEq rfl
theorem VR.stringInv {s:ByteArray}{v':Value}(h:VR β (.string s) v'):v'=.string s:=h.scalarEq rfl
theorem jRn {x x':Value}(h:VR β x x'){i:Nat}{v:Value}(he:jK0 x i=some v):∃v',VR β v v'∧(Instr.extract x' i).run P w=.ok v' w:=by
 unfold jK0 at he
 split at he
 ·obtain⟨vs',rfl,hv⟩:=h.tupleInv
  obtain⟨v',h1,h2⟩:=hv.get he
  refine⟨v',h2,?_⟩
  have:vs'[i]? = some v':=by simpa using h1
  simp[Instr.extract,this]
 ·cases he
def jVK (P:Program)(t:TypeId)(cs:Array Value)(off:Nat):Option Value :=
 match aggT P t,P.info? t with
 | some true,some i=>some (.agg (cs.extract off (off+i.size)))
 | some false,_=>cs.toList[off]?
 | _,_=>none
theorem jSh {t:TypeId}{cs cs':Array Value}(h:VRs β cs.toList cs'.toList){off:Nat}{v:Value}(he:jVK P t cs off=some v):∃v',VR β v v'∧(part t cs' off).run P w=.ok v' w:=by
 unfold jVK at he
 split at he
 ·rename_i i h1 h2
  cases he
  refine⟨.agg (cs'.extract off (off+i.size)),.agg ?_,?_⟩
  ·simp only[Array.toList_extract,List.extract_eq_take_drop]
   exact (h.drop _).take _
  ·simp[part,jGo h1,jAL h2]
 ·rename_i h1
  obtain⟨v',h2,h3⟩:=h.get he
  refine⟨v',h3,?_⟩
  have:cs'[off]? = some v':=by simpa using h2
  simp[part,jGo h1,this]
 ·cases he
def jSV (P:Program)(t:TypeId)(x:Value)(f:Nat):Option Value :=
 match P.underlying t,x with
 | some (.struct fields),.agg cs=>match fields[f]? with
   | some fd=>jVK P fd.type cs fd.offset
   | none=>none
 | _,_=>none
theorem jVw {t:TypeId}{x x':Value}(h:VR β x x'){f:Nat}{v:Value}(he:jSV P t x f=some v):∃v',VR β v v'∧(Instr.field t x' f).run P w=.ok v' w:=by
 unfold jSV at he
 split at he
 ·rename_i fields cs hu
  obtain⟨cs',rfl,hv⟩:=h.aggInv
  split at he
  ·rename_i fd hf
   obtain⟨v',h1,h2⟩:=jSh (w:=w) hv he
   refine⟨v',h1,?_⟩
   simp[Instr.field,run_underlying hu,hf,asAgg,h2]
  ·cases he
 ·cases he
/-! ### Addresses -/
def jG5 (P:Program)(s:TypeId)(x:Value)(f:Nat):Option Value :=
 match P.underlying s,x with
 | some (.struct fields),.pointer (some a)=>match fields[f]? with
   | some fd=>match P.info? fd.type with
     | some i=>if i.size=0 then none else some (.pointer (some (a.add fd.offset)))
     | none=>none
   | none=>none
 | _,_=>none
theorem jNm {s:TypeId}{x x':Value}(h:VR β x x'){f:Nat}{v:Value}(he:jG5 P s x f=some v):∃v',VR β v v'∧(Instr.fieldAt s x' f).run P w=.ok v' w:=by
 unfold jG5 at he
 split at he
 ·rename_i fields a hu
  obtain⟨a',rfl,ha⟩:=h.ptrInv
  split at he
  ·rename_i fd hf
   split at he
   ·rename_i i hi
    split at he
    ·cases he
    ·rename_i h0
     cases he
     refine⟨.pointer (some (a'.add fd.offset)),.ptr (ha.add _),?_⟩
     simp[Instr.fieldAt,run_underlying hu,hf,Instr.sureAddr,fieldPlace,jAL hi,h0]
   ·cases he
  ·cases he
 ·cases he
def jGK (P:Program)(t:TypeId)(x ix:Value):Option Value :=
 match ix,P.underlying t,x with
 | .int _ i,some (.array len elem),.pointer (some a)=>match P.info? elem with
   | some e=>if 0≤i∧i<(len:Int) then some (.pointer (some (a.add (i.toNat*e.size)))) else none
   | none=>none
 | .int _ i,some (.slice elem),.slice (some a) len _=>match P.info? elem with
   | some e=>if a.spot=none∧0≤i∧i<(len:Int) then some (.pointer (some (a.add (i.toNat*e.size)))) else none
   | none=>none
 | _,_,_=>none
theorem jL9 {t:TypeId}{x x' ix ix':Value}(h:VR β x x')(h2:VR β ix ix'){v:Value}(he:jGK P t x ix=some v):∃v',VR β v v'∧(Instr.indexAt t x' ix').run P w=.ok v' w:=by
 unfold jGK at he
 split at he
 ·rename_i k i len elem a hu
  rw[h2.intInv]
  obtain⟨a',rfl,ha⟩:=h.ptrInv
  split at he
  ·rename_i e hi
   split at he
   ·rename_i hb
    cases he
    refine⟨.pointer (some (a'.add (i.toNat*e.size))),.ptr (ha.add _),?_⟩
    simp[Instr.indexAt,asIntOf,run_underlying hu,Instr.sureAddr,hb,jAL hi]
   ·cases he
  ·cases he
 ·rename_i k i elem a len cap hu
  rw[h2.intInv]
  split at he
  ·rename_i e hi
   split at he
   ·rename_i hb0
    obtain⟨hsp,hb⟩:=hb0
    obtain⟨a',cap',rfl,ha,hc⟩:=h.sliceInv hsp
    cases he
    refine⟨.pointer (some (a'.add (i.toNat*e.size))),.ptr (ha.add _),?_⟩
    simp[Instr.indexAt,asIntOf,run_underlying hu,hb,jAL hi]
   ·cases he
  ·cases he
 ·cases he
def hiE (hi:Option Value)(len cap:Nat):Option Nat :=
 match hi with | some (.int _ i)=>if 0≤i∧i≤(cap:Int) then some i.toNat else none | none=>some len | _=>none
def loE (lo:Option Value)(h:Nat):Option Nat :=
 match lo with | some (.int _ i)=>if 0≤i∧i≤(h:Int) then some i.toNat else none | none=>some 0 | _=>none
def jSn (P:Program)(E:EM)(t:TypeId)(x:Value)(lo hi:Option Value):Option Value :=
 match P.underlying t,x with
 | some (.slice elem),.slice (some a) len cap =>
   match hiE hi len cap with
   | none=>none
   | some h =>
     match loE lo h with
     | none=>none
     | some l =>
       match P.info? elem,E.get a.block with
       | some e,.cells _ t2 _ fx =>
         if a.spot=none then
          if e.size=jF2 P t2∧l≤cap∧(l=0∨l<cap∨fx=true) then some (.slice (some (if cap=l then a else a.add (l*e.size))) (h-l) (cap-l))
          else if h=l then some (.slice (some ⟨a.block,a.off,some 0⟩) 0 0) else none
         else none
       | _,_=>none
 | some (.array n elem),.pointer (some a)=>match lo,hi,P.info? elem with
   | none,none,some _=>some (.slice (some a) n n)
   | _,_,_=>none
 | _,_=>none
inductive OptR (β:Map):Option Value→Option Value→Prop
 | none:OptR β none none
 | some {v v':Value} (h:VR β v v'):OptR β (some v) (some v')
theorem jLW {lo lo' hi hi':Option Value}(hlo:OptR β lo lo')(hhi:OptR β hi hi'){len cap cap' hh ll:Nat}(hc:cap≤cap')(h1:hiE hi len cap=some hh)(h2:loE lo hh=some ll) :
 (Instr.sliceBounds true len cap' lo' hi' none).run P w=.ok (ll,hh,cap') w:=by
 have e1:∀u,hi=some u→∃k i,u=.int k i∧hi'=some (.int k i)∧(0≤i∧i≤(cap:Int))∧hh=i.toNat:=by
  intro u hu
  subst hu
  cases hhi with
  | some hv =>
    cases u with
    | int k i =>
      simp only[hiE]at h1
      split at h1
      ·rename_i hb;cases h1;exact⟨k,i,rfl,by rw[hv.intInv],hb,rfl⟩
      ·cases h1
    | _=>simp[hiE]at h1
 have e2:∀u,lo=some u→∃k i,u=.int k i∧lo'=some (.int k i)∧(0≤i∧i≤(hh:Int))∧ll=i.toNat:=by
  intro u hu
  subst hu
  cases hlo with
  | some hv =>
    cases u with
    | int k i =>
      simp only[loE]at h2
      split at h2
      ·rename_i hb;cases h2;exact⟨k,i,rfl,by rw[hv.intInv],hb,rfl⟩
      ·cases h2
    | _=>simp[loE]at h2
 cases hhi with
 | none =>
   simp[hiE]at h1;subst h1
   cases hlo with
   | none=>simp[loE]at h2;subst h2;simp[Instr.sliceBounds]
   | some hv =>
     obtain⟨k,i,_,hl,hb,rfl⟩:=e2 _ rfl
     cases hl
     simp[Instr.sliceBounds,Instr.sliceBound,asIntOf,hb]
 | some hv0 =>
   obtain⟨k,i,_,hl,hb,rfl⟩:=e1 _ rfl
   cases hl
   have hb':0≤i∧i≤(cap':Int):=⟨hb.1,by omega⟩
   cases hlo with
   | none=>simp[loE]at h2;subst h2;simp[Instr.sliceBounds,Instr.sliceBound,asIntOf,hb']
   | some hv =>
     obtain⟨k2,i2,_,hl2,hb2,rfl⟩:=e2 _ rfl
     cases hl2
     simp[Instr.sliceBounds,Instr.sliceBound,asIntOf,hb',hb2]
     intro hlt;exfalso;omega
theorem jQF {lo lo' hi hi':Option Value}(hlo:OptR β lo lo')(hhi:OptR β hi hi'){len cap cap' hh ll:Nat}(hc:cap≤cap')(h1:hiE hi len cap=some hh)(h2:loE lo hh=some ll) :
 (Instr.sliceBounds false len cap' lo' hi' none).run P w=.ok (ll,hh,cap') w:=by
 have e1:∀u,hi=some u→∃k i,u=.int k i∧hi'=some (.int k i)∧(0≤i∧i≤(cap:Int))∧hh=i.toNat:=by
  intro u hu
  subst hu
  cases hhi with
  | some hv =>
    cases u with
    | int k i =>
      simp only[hiE]at h1
      split at h1
      ·rename_i hb;cases h1;exact⟨k,i,rfl,by rw[hv.intInv],hb,rfl⟩
      ·cases h1
    | _=>simp[hiE]at h1
 have e2:∀u,lo=some u→∃k i,u=.int k i∧lo'=some (.int k i)∧(0≤i∧i≤(hh:Int))∧ll=i.toNat:=by
  intro u hu
  subst hu
  cases hlo with
  | some hv =>
    cases u with
    | int k i =>
      simp only[loE]at h2
      split at h2
      ·rename_i hb;cases h2;exact⟨k,i,rfl,by rw[hv.intInv],hb,rfl⟩
      ·cases h2
    | _=>simp[loE]at h2
 cases hhi with
 | none =>
   simp[hiE]at h1;subst h1
   cases hlo with
   | none=>simp[loE]at h2;subst h2;simp[Instr.sliceBounds]
   | some hv =>
     obtain⟨k,i,_,hl,hb,rfl⟩:=e2 _ rfl
     cases hl
     simp[Instr.sliceBounds,Instr.sliceBound,asIntOf,hb]
 | some hv0 =>
   obtain⟨k,i,_,hl,hb,rfl⟩:=e1 _ rfl
   cases hl
   have hb':0≤i∧i≤(cap':Int):=⟨hb.1,by omega⟩
   cases hlo with
   | none=>simp[loE]at h2;subst h2;simp[Instr.sliceBounds,Instr.sliceBound,asIntOf,hb']
   | some hv =>
     obtain⟨k2,i2,_,hl2,hb2,rfl⟩:=e2 _ rfl
     cases hl2
     simp[Instr.sliceBounds,Instr.sliceBound,asIntOf,hb',hb2]
     intro hlt;exfalso;omega
theorem jVX (g:Good P base w0 β E w){t:TypeId}{x x':Value}(h:VR β x x'){lo lo' hi hi':Option Value}(hlo:OptR β lo lo')(hhi:OptR β hi hi')
 {v:Value} (he:jSn P E t x lo hi=some v):∃v',VR β v v'∧(Instr.sliceAt t x' lo' hi' none).run P w=.ok v' w:=by
 unfold jSn at he
 split at he
 ·rename_i elem a len cap hu
  split at he
  ·cases he
  ·rename_i hh hhe
   split at he
   ·cases he
   ·rename_i ll hle
    split at he
    ·rename_i e c t2 own fx hi2 jEK
     split at he
     case isFalse=>cases he
     rename_i jUi
     obtain⟨a',cap',rfl,ha,hc⟩:=h.sliceInv jUi
     split at he
     ·rename_i jCz
      obtain⟨hsz,hll,hl0⟩:=jCz
      cases he
      have jUu:cap≤cap':=by
       rcases hc with hc | ⟨l,_,_,hc⟩ <;> omega
      have jOQ:=jLW (P:=P) (w:=w) hlo hhi jUu hhe hle
      have jW4:fx=true→cap'=cap:=by
       intro hfx
       rcases hc with hc | ⟨l,hl,_,hc⟩
       ·exact hc
       ·have jEJ:=g.rep _ _ hl
        rw[jEK]at jEJ
        obtain⟨_,_,_,_,_,_,_,_,hz⟩:=jEJ
        rw[hz.2 hfx]at hc;exact hc
      refine⟨.slice (some (if cap'=ll then a' else a'.add (ll*e.size))) (hh-ll) (cap'-ll),.slice ?_ ?_,?_⟩
      ·by_cases e1:cap=ll
       ·rw[if_pos e1]
        by_cases e2:cap'=ll
        ·rw[if_pos e2];exact ha
        ·rw[if_neg e2]
         have:ll=0:=by
          rcases hl0 with h0 | h0 | h0
          ·exact h0
          ·omega
          ·exact absurd (by rw[jW4 h0];exact e1) e2
         rw[this,Nat.zero_mul,Addr.add_zero];exact ha
       ·rw[if_neg e1,if_neg (by omega)];exact ha.add _
      ·by_cases e1:cap=ll
       ·rw[if_pos e1]
        by_cases h0:ll=0
        ·rw[h0,Nat.sub_zero,Nat.sub_zero];exact hc
        ·have hfx:fx=true:=by
          rcases hl0 with h1 | h1 | h1
          ·exact absurd h1 h0
          ·omega
          ·exact h1
         exact .inl (by rw[jW4 hfx])
       ·rw[if_neg e1]
        rcases hc with hc | ⟨l,hl,hr,hc⟩
        ·exact .inl (by rw[hc])
        ·refine .inr ⟨l,by rw[Addr.add_block];exact hl,?_,?_⟩
         ·have jEJ:=g.rep _ _ hl
          rw[jEK]at jEJ
          have hes:l.es=jF2 P t2:=jEJ.2.1
          rw[Addr.add_off,hsz,←hes,←hr]
          obtain⟨d,rfl⟩:=Nat.exists_eq_add_of_le hll
          rw[Nat.add_sub_cancel_left,Nat.add_mul]
          omega
         ·omega
      ·unfold Instr.sliceAt
       simp only[Sem.run_bind,run_underlying hu,Result.andThen_ok]
       unfold Instr.slice
       simp only[Sem.run_bind,run_underlying hu,Result.andThen_ok,jOQ,jAL hi2,Sem.run_pure]
       congr 2
       split <;> rfl
     ·split at he
      ·rename_i heq
       cases he
       have jUu:cap≤cap':=by
        rcases hc with hc | ⟨l,_,_,hc⟩ <;> omega
       have jOQ:=jLW (P:=P) (w:=w) hlo hhi jUu hhe hle
       refine⟨_,.empty (a':=if cap'=ll then a' else a'.add (ll*e.size)) (cap':=cap'-ll),?_⟩
       unfold Instr.sliceAt
       simp only[Sem.run_bind,run_underlying hu,Result.andThen_ok]
       unfold Instr.slice
       simp only[Sem.run_bind,run_underlying hu,Result.andThen_ok,jOQ,jAL hi2,Sem.run_pure]
       have:hh-ll=0:=by omega
       rw[this]
       congr 2
       split <;> rfl
      ·cases he
    ·cases he
 ·rename_i n elem a hu
  split at he
  ·rename_i inf qAV
   cases he
   obtain⟨a',rfl,ha⟩:=h.ptrInv
   cases hlo
   cases hhi
   refine⟨.slice (some a') n n,.slice ha (.inl rfl),?_⟩
   unfold Instr.sliceAt
   simp only[Sem.run_bind,run_underlying hu,Result.andThen_ok]
   have:(if n=0 then a' else a'.add (0*inf.size))=a':=by rw[Nat.zero_mul,Addr.add_zero];split <;> rfl
   simp[Instr.sureAddr,Instr.sliceBounds,jAL qAV,Addr.add_zero]
  ·cases he
 ·cases he
/-! ### Strings gone over rune by rune -/
def jT7 (P:Program)(E:EM)(t:TypeId)(x:Value):Option (Value × EM) :=
 match P.underlying t,x with
 | some .string,.string s=>some (.pointer (some ⟨E.n,0,none⟩),E.push (.obj (.stringIter s 0)))
 | _,_=>none
theorem jU9 (g:Good P base w0 β E w){t:TypeId}{x x':Value}(h:VR β x x'){v:Value}{E1:EM}(he:jT7 P E t x=some (v,E1)) :
 ∃β1 v' w1,Ext β β1∧VR β1 v v'∧Good P base w0 β1 E1 w1∧(Instr.range t x').run P w=.ok v' w1:=by
 unfold jT7 at he
 split at he
 ·rename_i s hu
  cases he
  rw[h.stringInv]
  refine⟨_,.pointer (some ⟨w.heap.size,0,none⟩),_,Ext.put g.fresh _,.ptr (AR.new _ _ _ rfl),g.newObj (OR.iter s 0) _ rfl,?_⟩
  simp[Instr.range,run_underlying hu]
 ·cases he
def jW9 (E:EM)(it:Value):Option (Value × EM) :=
 match it with
 | .pointer (some ⟨r,0,none⟩)=>match E.get r with
   | .obj (.stringIter s pos) =>
     if pos<s.size then
      some (.tuple #[.bool true,goInt pos,.int .i32 (Utf8.decode s pos).1],E.set r (.obj (.stringIter s (pos+(Utf8.decode s pos).2))))
     else some (.tuple #[.bool false],E)
   | _=>none
 | _=>none
theorem jYs (g:Good P base w0 β E w){ty:TypeId}{it it':Value}(h:VR β it it'){v:Value}{E1:EM}(he:jW9 E it=some (v,E1)) :
 ∃v' w1,VR β v v'∧Good P base w0 β E1 w1∧(Instr.next it' true ty).run P w=.ok v' w1:=by
 unfold jW9 at he
 split at he
 ·rename_i r
  obtain⟨a',rfl,l,hl,_,rfl⟩:=h.ptrInv
  split at he
  ·rename_i s pos jEK
   obtain⟨⟨o',hb,ho⟩,g1⟩:=g.setObj hl jEK (OR.iter s (pos+(Utf8.decode s pos).2))
   have jEJ:=g.rep _ _ hl
   rw[jEK]at jEJ
   have h0:l.off=0:=jEJ.2.1
   cases ho
   have hgo:(getObj l.blk).run P w=.ok (.stringIter s pos) w:=by simp[getObj,Sem.run,hb]
   have jUw:∀o,(setObj l.blk o).run P w=.ok () { w with heap:=w.heap.setIfInBounds l.blk o }:=by intro o;simp[setObj,Sem.run,hb]
   split at he
   ·rename_i hp
    cases he
    refine⟨.tuple #[.bool true,goInt pos,.int .i32 (Utf8.decode s pos).1],_,VR.flat rfl,g1,?_⟩
    simp[Instr.next,h0,hgo,hp,jUw]
   ·rename_i hp
    cases he
    refine⟨.tuple #[.bool false],w,VR.flat rfl,g,?_⟩
    simp[Instr.next,h0,hgo,hp]
  ·cases he
 ·cases he
end
end
end Go.Eng
