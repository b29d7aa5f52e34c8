/-
  A CLOSED RUN, HELD AGAINST THE MODEL (10d): the operations of EngU, held against the model.
-/
import Derived.Test.YtldapapdolkiaaaGreatDoorEngU
import Derived.Test.YtldapapdolkiaaaGreatDoorEngJ
import Derived.Laws.IdiomStrings
namespace Go.Eng
open Go.MapKept
noncomputable section
set_option linter.unusedVariables false
set_option linter.unusedSimpArgs false
section
variable {P:Program} {base:Nat} {w0:World} {β:Map} {E E1:EM} {w:World}
theorem jEW {d:TypeDesc}{k:Value}(h:jI4 d k=true):jAn k=true:=by
 cases d <;> cases k <;> simp_all [jI4,jAn]
theorem jIv {d:TypeDesc}{k:Value}(h:jI4 d k=true):IsKey d k:=by
 cases d <;> cases k <;> simp_all [jI4,IsKey]
theorem jEo {kt:TypeId}{d:TypeDesc}{k:Value}(hd:P.underlying kt=some d)(h:jI4 d k=true)(b:Bool):(Instr.checkKey b 10000 kt k).run P w=.ok () w :=
 Go.MapKept.run_checkKey hd (jIv h) b 9999
theorem jDl {d:TypeDesc}{k:Value}(hk:jI4 d k=true):∀ {es es':List MapEntry} (h:MEs β es es') (i:Nat) {r:Option (Nat × Value)},Instr.findNow d k es i=some r →
  (r=none→Instr.findNow d k es' i=some none)∧(∀j v,r=some (j,v)→i≤j∧(∃e,es[j-i]? = some e∧e.key=k)∧(∃e',es'[j-i]? = some e'∧e'.key=k)∧∃v',VR β v v'∧Instr.findNow d k es' i=some (some (j,v')))
 | _,_,.nil,i,r,h=>by
   simp only[Instr.findNow]at h
   cases h
   exact⟨fun _=>rfl,fun j v e=>by cases e⟩
 | _,_,.cons (k:=k1) (v:=v) (v':=v') (b:=b) (r:=es) (r':=es') hv t,i,r,h=>by
   simp only[Instr.findNow]at h ⊢
   cases hs:Instr.sameNow d k k1 with
   | none=>rw[hs]at h;cases h
   | some q =>
     rw[hs]at h
     cases q with
     | true =>
       simp only at h ⊢
       cases h
       have hkk:k1=k:=by
        cases d <;> cases k <;> simp[jI4]at hk <;> cases k1 <;> simp[Instr.sameNow]at hs
        ·exact hs.symm▸rfl
        ·obtain⟨e1,e2⟩:=hs
         rw[e1,e2]
        ·have:=(bytes_beq _ _).1 hs
         rw[this]
       refine⟨(fun e=>by cases e),?_⟩
       intro j u e
       cases e
       refine⟨Nat.le_refl _,⟨⟨k1,v,b⟩,by simp,hkk⟩,⟨⟨k1,v',b⟩,by simp,hkk⟩,v',hv,rfl⟩
     | false =>
       simp only at h ⊢
       obtain⟨h1,h2⟩:=jDl hk t (i+1) h
       refine⟨h1,fun j u e=>?_⟩
       obtain⟨a1,⟨e1,a2,a3⟩,⟨e2,b2,b3⟩,a4⟩:=h2 j u e
       have hj:j-i=(j-(i+1))+1:=by omega
       exact⟨by omega,⟨e1,by rw[hj];simpa using a2,a3⟩,⟨e2,by rw[hj];simpa using b2,b3⟩,a4⟩
theorem VR.mapInv {r:Nat}{v':Value}(h:VR β (.map (some r)) v'):∃l,β r=some l∧v'=.map (some l.blk):=by
 cases h with
 | scalar h=>simp[jAn]at h
 | map h=>exact⟨_,h,rfl⟩
theorem jMa (g:Good P base w0 β E w){r:Nat}{l:Loc}(hl:β r=some l){es:Array MapEntry}{clock:Nat}(he:E.get r=.obj (.map es clock)) :
 ∃es',w.heap[l.blk]? = some (.map es' clock)∧MEs β es.toList es'.toList:=by
 have jEJ:=g.rep _ _ hl
 rw[he]at jEJ
 obtain⟨_,_,o',hb,ho⟩:=jEJ
 cases ho with
 | map h=>exact⟨_,hb,h⟩
theorem jQA (g:Good P base w0 β E w){t:TypeId}{x x' k k':Value}(hx:VR β x x')(hk:VR β k k'){ok:Bool}{v:Value}(h:jDR P E t x k ok=some (v,E1)) :
 E1=E∧∃v',VR β v v'∧(Instr.lookup t x' k' ok).run P w=.ok v' w:=by
 unfold jDR at h
 split at h
 case h_2=>cases h
 rename_i kt et ht
 split at h
 case h_2=>cases h
 rename_i d z hd hz
 obtain⟨hzf,hzr⟩:=jEp (w:=w) hz
 split at h
 case isFalse=>cases h
 rename_i hko
 have hkk:=hk.scalarEq (jEW hko)
 subst hkk
 split at h
 · -- a nil map
  cases h
  have:=hx.scalarEq rfl
  subst this
  refine⟨rfl,?_⟩
  have hf:(Instr.findKey kt k' []).run P w=.ok none w:=Go.MapKept.run_findKey hd rfl
  have hc:=jEo (P:=P) (w:=w) hd hko true
  cases ok with
  | true=>exact⟨.tuple #[z,.bool false],.tuple (.cons (VR.flat hzf) (.cons (.scalar rfl) .nil)),by simp[Instr.lookup,run_underlying ht,hc,hf,hzr]⟩
  | false=>exact⟨z,VR.flat hzf,by simp[Instr.lookup,run_underlying ht,hc,hf,hzr]⟩
 ·rename_i r
  split at h
  case h_2=>cases h
  rename_i es clock he
  obtain⟨l,hl,rfl⟩:=hx.mapInv
  obtain⟨es',hb,hm⟩:=jMa g hl he
  have hg:=Go.MapKept.run_getObj_map (P:=P) hb
  have hc:=fun b=>jEo (P:=P) (w:=w) hd hko b
  split at h
  ·rename_i i u hf
   obtain⟨_,h2⟩:=jDl hko hm 0 hf
   obtain⟨_,_,_,u',hu,hf'⟩:=h2 _ _ rfl
   have hfk:=Go.MapKept.run_findKey (w:=w) hd hf'
   cases h
   refine⟨rfl,?_⟩
   cases ok with
   | true=>exact⟨.tuple #[u',.bool true],.tuple (.cons hu (.cons (.scalar rfl) .nil)),by simp[Instr.lookup,run_underlying ht,hg,hc,hfk]⟩
   | false=>exact⟨u',hu,by simp[Instr.lookup,run_underlying ht,hg,hc,hfk]⟩
  ·rename_i hf
   obtain⟨h1,_⟩:=jDl hko hm 0 hf
   have hfk:=Go.MapKept.run_findKey (w:=w) hd (h1 rfl)
   cases h
   refine⟨rfl,?_⟩
   cases ok with
   | true=>exact⟨.tuple #[z,.bool false],.tuple (.cons (VR.flat hzf) (.cons (.scalar rfl) .nil)),by simp[Instr.lookup,run_underlying ht,hg,hc,hfk,hzr]⟩
   | false=>exact⟨z,VR.flat hzf,by simp[Instr.lookup,run_underlying ht,hg,hc,hfk,hzr]⟩
  ·cases h
 ·cases h
theorem MEs.append:∀ {a a' b b':List MapEntry},MEs β a a'→MEs β b b'→MEs β (a++b) (a'++b')
 | _,_,_,_,.nil,h=>h
 | _,_,_,_,.cons hv t,h=>.cons hv (MEs.append t h)
theorem MEs.modify {k v v':Value}(hv:VR β v v'):∀ {a a':List MapEntry} (i:Nat),MEs β a a'→MEs β (a.modify i fun e=>{ e with key:=k,val:=v }) (a'.modify i fun e=>{ e with key:=k,val:=v' })
 | _,_,i,.nil=>by simpa using MEs.nil
 | _,_,0,.cons hu t=>by simpa using MEs.cons hv t
 | _,_,i+1,.cons hu t=>by
   simp only[List.modify_succ_cons]
   exact .cons hu (MEs.modify hv i t)
theorem jKv (g:Good P base w0 β E w){t:TypeId}{x x' k k' u u':Value}(hx:VR β x x')(hk:VR β k k')(hu:VR β u u'){v:Value}(h:jOs P E t x k u=some (v,E1)) :
 v=undef∧∃w1,Good P base w0 β E1 w1∧(Instr.mapUpdate t x' k' u').run P w=.ok () w1:=by
 unfold jOs at h
 split at h
 case h_2=>cases h
 rename_i kt et ht
 split at h
 case h_2=>cases h
 rename_i d hd
 split at h
 case isFalse=>cases h
 rename_i hko
 have hkk:=hk.scalarEq (jEW hko)
 subst hkk
 split at h
 case h_2=>cases h
 rename_i r
 split at h
 case h_2=>cases h
 rename_i es clock he
 obtain⟨l,hl,rfl⟩:=hx.mapInv
 obtain⟨es',hb,hm⟩:=jMa g hl he
 have hg:=Go.MapKept.run_getObj_map (P:=P) hb
 have hc:=fun b=>jEo (P:=P) (w:=w) hd hko b
 split at h
 ·rename_i i u0 hf
  obtain⟨_,h2⟩:=jDl hko hm 0 hf
  obtain⟨_,_,⟨e',he',hek⟩,u1,_,hf'⟩:=h2 _ _ rfl
  have hfk:=Go.MapKept.run_findKey (w:=w) hd hf'
  cases h
  have jYN:(Instr.keyThatStays (((es'[i]?).map (·.key)).getD k') k').run P w=.ok k' w:=by
   have:es'[i]? = some e':=by simpa using he'
   rw[this]
   simp only[Option.map_some,Option.getD_some,hek]
   exact run_keyThatStays (jIv hko)
  refine⟨rfl,{ w with heap:=w.heap.setIfInBounds l.blk (.map (es'.modify i fun e=>{ e with key:=k',val:=u' }) clock) },?_,?_⟩
  ·refine (g.setObj hl he (OR.map ?_)).2
   rw[Array.toList_modify,Array.toList_modify]
   exact MEs.modify hu i hm
  ·simp[Instr.mapUpdate,run_underlying ht,hg,hc,hfk,jYN,Go.MapKept.run_setObj_map _ hb]
 ·rename_i hf
  obtain⟨h1,_⟩:=jDl hko hm 0 hf
  have hfk:=Go.MapKept.run_findKey (w:=w) hd (h1 rfl)
  cases h
  refine⟨rfl,{ w with heap:=w.heap.setIfInBounds l.blk (.map (es'.push ⟨k',u',clock⟩) (clock+1)) },?_,?_⟩
  ·refine (g.setObj hl he (OR.map ?_)).2
   rw[Array.toList_push,Array.toList_push]
   exact hm.append (.cons hu .nil)
  ·simp[Instr.mapUpdate,run_underlying ht,hg,hc,hfk,Go.MapKept.run_setObj_map _ hb]
 ·cases h
/-! ### Keys of any width, and entries that are stored into -/
theorem MEs.get:∀ {a a':List MapEntry},MEs β a a'→∀ {i:Nat} {e:MapEntry},a[i]? = some e→∃e',a'[i]? = some e'∧e'.key=e.key∧e'.born=e.born∧VR β e.val e'.val
 | _,_,.nil,i,e,h=>by simp at h
 | _,_,.cons hv t,0,e,h=>by simp at h;subst h;exact⟨_,rfl,rfl,rfl,hv⟩
 | _,_,.cons hv t,i+1,e,h=>by simpa using MEs.get t (by simpa using h)
theorem jPY {kt:TypeId}{k:Value}:∀ {es es':List MapEntry} (h:MEs β es es') (i:Nat) {r:Option (Nat × Value)},jQ3 P kt k es i=some r →
  ∃r',(Instr.findAsking kt k es' i).run P w=.ok r' w∧(r=none→r'=none)∧∀j v,r=some (j,v)→∃v',r'=some (j,v')∧VR β v v'
 | _,_,.nil,i,r,h=>by
   simp only[jQ3]at h
   cases h
   exact⟨none,by simp[Instr.findAsking],fun _=>rfl,fun j v e=>by cases e⟩
 | _,_,.cons (k:=k1) (v:=v) (v':=v') (b:=b) (r:=es) (r':=es') hv t,i,r,h=>by
   simp only[jQ3,jZH]at h
   split at h
   ·rename_i hq
    cases h
    split at hq
    case isFalse=>cases hq
    refine⟨some (i,v'),by simp[Instr.findAsking,jBh hq w],(fun e=>by cases e),fun j u e=>?_⟩
    cases e
    exact⟨v',rfl,hv⟩
   ·rename_i hq
    split at hq
    case isFalse=>cases hq
    obtain⟨r',h1,h2⟩:=jPY t (i+1) h
    exact⟨r',by simp[Instr.findAsking,jBh hq w,h1],h2⟩
   ·cases h
theorem jML {d:TypeDesc}(h:jPU d=true)(a b:Value):Instr.sameNow d a b=none:=by
 cases d <;> simp[jPU]at h <;> rfl
theorem jH2 {kt:TypeId}{d:TypeDesc}(hd:P.underlying kt=some d){k:Value}(hk:jYZ P kt d k=true){es es':List MapEntry}(h:MEs β es es'){r:Option (Nat × Value)}(hf:jVN P kt d k es=some r) :
 ∃r',(Instr.findKey kt k es').run P w=.ok r' w∧(r=none→r'=none)∧∀j v,r=some (j,v)→∃v',r'=some (j,v')∧VR β v v':=by
 unfold jVN at hf
 split at hf
 ·rename_i hw
  obtain⟨r',h1,h2⟩:=jPY (w:=w) h 0 hf
  refine⟨r',?_,h2⟩
  cases h with
  | nil =>
    simp only[jQ3]at hf
    cases hf
    have:=h2.1 rfl
    subst this
    exact Go.MapKept.run_findKey hd rfl
  | cons hv t =>
    have:∀ (e:MapEntry) (l:List MapEntry),Instr.findNow d k (e :: l) 0=none:=fun e l=>by simp only[Instr.findNow,jML hw]
    simp only[Instr.findKey,Sem.run_bind,run_underlying hd,Result.andThen_ok,this]
    exact h1
 ·rename_i hw
  unfold jYZ at hk
  rw[if_neg hw]at hk
  obtain⟨h1,h2⟩:=jDl hk h 0 hf
  cases r with
  | none=>exact⟨none,Go.MapKept.run_findKey hd (h1 rfl),fun _=>rfl,fun j v e=>by cases e⟩
  | some q =>
    obtain⟨j,v⟩:=q
    obtain⟨_,_,_,v',hv,hf'⟩:=h2 j v rfl
    refine⟨some (j,v'),Go.MapKept.run_findKey hd hf',(fun e=>by cases e),fun j' u e=>?_⟩
    cases e
    exact⟨v',rfl,hv⟩
theorem jSz {kt:TypeId}{d:TypeDesc}(hd:P.underlying kt=some d){k:Value}(hk:jYZ P kt d k=true):(∀k',VR β k k'→k'=k)∧∀b,(Instr.checkKey b 10000 kt k).run P w=.ok () w:=by
 unfold jYZ at hk
 split at hk
 ·simp only[Bool.and_eq_true,Option.isSome_iff_exists]at hk
  obtain⟨h1,⟨u,h2⟩,⟨u',h3⟩⟩:=hk
  refine⟨fun k' h=>h.flatEq h1,fun b=>?_⟩
  cases b with
  | true=>exact jBh h2 w
  | false=>exact jBh h3 w
 ·exact⟨fun k' h=>h.scalarEq (jEW hk),fun b=>jEo hd hk b⟩
theorem jOt (g:Good P base w0 β E w){t:TypeId}{x x' k k':Value}(hx:VR β x x')(hk:VR β k k'){ok:Bool}{v:Value}(h:jCQ P E t x k ok=some (v,E1)) :
 E1=E∧∃v',VR β v v'∧(Instr.lookup t x' k' ok).run P w=.ok v' w:=by
 unfold jCQ at h
 split at h
 case h_2=>cases h
 rename_i kt et ht
 split at h
 case h_2=>cases h
 rename_i d z hd hz
 obtain⟨hzf,hzr⟩:=jEp (w:=w) hz
 split at h
 case isFalse=>cases h
 rename_i hko
 obtain⟨jUm,hc⟩:=jSz (β:=β) (w:=w) hd hko
 have hkk:=jUm _ hk
 subst hkk
 split at h
 case h_2=>cases h
 rename_i r
 split at h
 case h_2=>cases h
 rename_i es clock he
 obtain⟨l,hl,rfl⟩:=hx.mapInv
 obtain⟨es',hb,hm⟩:=jMa g hl he
 have hg:=Go.MapKept.run_getObj_map (P:=P) hb
 split at h
 ·rename_i i u hf
  obtain⟨r',jA9,_,h2⟩:=jH2 (w:=w) hd hko hm hf
  obtain⟨u',rfl,hu⟩:=h2 _ _ rfl
  cases h
  refine⟨rfl,?_⟩
  cases ok with
  | true=>exact⟨.tuple #[u',.bool true],.tuple (.cons hu (.cons (.scalar rfl) .nil)),by simp[Instr.lookup,run_underlying ht,hg,hc,jA9]⟩
  | false=>exact⟨u',hu,by simp[Instr.lookup,run_underlying ht,hg,hc,jA9]⟩
 ·rename_i hf
  obtain⟨r',jA9,h1,_⟩:=jH2 (w:=w) hd hko hm hf
  have:=h1 rfl
  subst this
  cases h
  refine⟨rfl,?_⟩
  cases ok with
  | true=>exact⟨.tuple #[z,.bool false],.tuple (.cons (VR.flat hzf) (.cons (.scalar rfl) .nil)),by simp[Instr.lookup,run_underlying ht,hg,hc,jA9,hzr]⟩
  | false=>exact⟨z,VR.flat hzf,by simp[Instr.lookup,run_underlying ht,hg,hc,jA9,hzr]⟩
 ·cases h
theorem MEs.modifyKey {k:Value}:∀ {a a':List MapEntry} (i:Nat),MEs β a a'→MEs β (a.modify i fun e=>{ e with key:=k }) (a'.modify i fun e=>{ e with key:=k })
 | _,_,i,.nil=>by simpa using MEs.nil
 | _,_,0,.cons hu t=>by simpa using MEs.cons hu t
 | _,_,i+1,.cons hu t=>by
   simp only[List.modify_succ_cons]
   exact .cons hu (MEs.modifyKey i t)
theorem MEs.modifyVal {v v':Value}(hv:VR β v v'):∀ {a a':List MapEntry} (i:Nat),MEs β a a'→MEs β (a.modify i fun e=>{ e with val:=v }) (a'.modify i fun e=>{ e with val:=v' })
 | _,_,i,.nil=>by simpa using MEs.nil
 | _,_,0,.cons hu t=>by simpa using MEs.cons hv t
 | _,_,i+1,.cons hu t=>by
   simp only[List.modify_succ_cons]
   exact .cons hu (MEs.modifyVal hv i t)
theorem MEs.findIdx {p:MapEntry→Bool}(hp:∀a b:MapEntry,a.born=b.born→p a=p b):∀ {a a':List MapEntry},MEs β a a'→a'.findIdx? p=a.findIdx? p
 | _,_,.nil=>rfl
 | _,_,.cons (k:=k) (v:=v) (v':=v') (b:=b) hu t=>by
   simp only[List.findIdx?_cons]
   rw[MEs.findIdx hp t,hp ⟨k,v',b⟩ ⟨k,v,b⟩ rfl]
theorem jR4 (g:Good P base w0 β E w){t:TypeId}{x x' k k':Value}(hx:VR β x x')(hk:VR β k k'){v:Value}(h:jTa P E t x k=some (v,E1)) :
 ∃v' w1,VR β v v'∧Good P base w0 β E1 w1∧(Instr.mapEntry t x' k').run P w=.ok v' w1:=by
 unfold jTa at h
 split at h
 case h_2=>cases h
 rename_i kt et ht
 split at h
 case h_2=>cases h
 rename_i d z hd hz
 obtain⟨hzf,hzr⟩:=jEp (w:=w) hz
 split at h
 case isFalse=>cases h
 rename_i hko
 obtain⟨jUm,hc⟩:=jSz (β:=β) (w:=w) hd hko
 have hkk:=jUm _ hk
 subst hkk
 split at h
 case h_2=>cases h
 rename_i r
 split at h
 case h_2=>cases h
 rename_i es clock he
 obtain⟨l,hl,rfl⟩:=hx.mapInv
 obtain⟨es',hb,hm⟩:=jMa g hl he
 have hg:=Go.MapKept.run_getObj_map (P:=P) hb
 split at h
 ·rename_i i u hf
  obtain⟨r',jA9,_,h2⟩:=jH2 (w:=w) hd hko hm hf
  obtain⟨u',rfl,hu⟩:=h2 _ _ rfl
  split at h
  case h_2=>cases h
  rename_i e hei
  split at h
  case isFalse=>cases h
  rename_i hbits
  cases h
  obtain⟨e',he',hek,heb,hev⟩:=hm.get hei
  have hi':es'[i]? = some e':=by simpa using he'
  have jYN:(Instr.keyThatStays e'.key k').run P w=.ok k' w:=by
   rw[hek]
   simp[Instr.keyThatStays,hbits]
  refine⟨.tuple #[u',goInt e'.born],{ w with heap:=w.heap.setIfInBounds l.blk (.map (es'.modify i fun e=>{ e with key:=k' }) clock) },.tuple (.cons hu (.cons (by rw[heb];exact .scalar rfl) .nil)),?_,?_⟩
  ·refine (g.setObj hl he (OR.map ?_)).2
   rw[Array.toList_modify,Array.toList_modify]
   exact MEs.modifyKey i hm
  ·simp[Instr.mapEntry,run_underlying ht,hg,hc,jA9,hi',jYN,Go.MapKept.run_setObj_map _ hb]
 ·rename_i hf
  obtain⟨r',jA9,h1,_⟩:=jH2 (w:=w) hd hko hm hf
  have:=h1 rfl
  subst this
  cases h
  refine⟨.tuple #[z,goInt clock],{ w with heap:=w.heap.setIfInBounds l.blk (.map (es'.push ⟨k',z,clock⟩) (clock+1)) },.tuple (.cons (VR.flat hzf) (.cons (.scalar rfl) .nil)),?_,?_⟩
  ·refine (g.setObj hl he (OR.map ?_)).2
   rw[Array.toList_push,Array.toList_push]
   exact hm.append (.cons (VR.flat hzf) .nil)
  ·simp[Instr.mapEntry,run_underlying ht,hg,hc,jA9,hzr,Go.MapKept.run_setObj_map _ hb]
 ·cases h
theorem jJX (g:Good P base w0 β E w){t:TypeId}{x x' s s' u u':Value}(hx:VR β x x')(hs:VR β s s')(hu:VR β u u'){v:Value}(h:jFJ E x s u=some (v,E1)) :
 v=undef∧∃w1,Good P base w0 β E1 w1∧(Instr.entryStore t x' s' u').run P w=.ok () w1:=by
 unfold jFJ at h
 split at h
 case h_2=>cases h
 rename_i r ik b
 split at h
 case h_2=>cases h
 rename_i es clock he
 obtain⟨l,hl,rfl⟩:=hx.mapInv
 have:=hs.intInv
 subst this
 obtain⟨es',hb,hm⟩:=jMa g hl he
 have hg:=Go.MapKept.run_getObj_map (P:=P) hb
 split at h
 case h_2=>cases h
 rename_i i hi
 cases h
 have hi':es'.findIdx? (fun e=>(e.born:Int) == b)=some i:=by
  have h1:=MEs.findIdx (p:=fun e=>(e.born:Int) == b) (fun a c hac=>by simp only[hac]) hm
  cases es'
  cases es
  simp only[List.findIdx?_toArray]at hi ⊢
  rw[h1]
  exact hi
 refine⟨rfl,{ w with heap:=w.heap.setIfInBounds l.blk (.map (es'.modify i fun e=>{ e with val:=u' }) clock) },?_,?_⟩
 ·refine (g.setObj hl he (OR.map ?_)).2
  rw[Array.toList_modify,Array.toList_modify]
  exact MEs.modifyVal hu i hm
 ·simp[Instr.entryStore,hg,asInt,asIntOf,hi',Go.MapKept.run_setObj_map _ hb]
theorem jMT {t u ty e:TypeId}{i:TypeInfo}{z:Value}{ik ik':IntKind}(ht:P.underlying t=some (.slice e))(hu:P.underlying u=some (.int ik))(hi:P.info? e=some i)
 (hz:i.zero=some z) {m:Int} (hm:0<m) (h0:i.bytes≠0) (hsz:i.size≠0) (h47:m.toNat*i.bytes≤140737488355328) :
 ∃C,m.toNat≤C∧(Builtin.append_ #[t,u] ty #[.slice none 0 0,.int ik' m]).run P w =
  .ok (.slice (some ⟨w.heap.size,0,none⟩) m.toNat C) (w.drew.alloc (.cells (Builtin.zeroCells z.cells m.toNat++Builtin.zeroCells z.cells (C-m.toNat)) e)):=by
 obtain⟨n,rfl⟩:∃n:Nat,m=n:=⟨m.toNat,by omega⟩
 simp only[Int.toNat_natCast]at h47 ⊢
 have hn0:0<n:=by omega
 have hb1:1≤i.bytes:=by omega
 have hle:n≤n*i.bytes:=Nat.le_mul_of_pos_right n hb1
 have qAX:IntKind.i64.wrap (n:Int)=n:=by rw[IntKind.wrap_i64] <;> omega
 have h48:¬(281474976710656<Builtin.nextslicecap n 0*i.bytes):=by
  have:=growslice_fits (old:=0) (need:=n) (bytes:=i.bytes) hn0 h47
  omega
 have qAY:¬((n:Int)<0):=by omega
 have qAw:¬(281474976710656<(n:Int)*(i.bytes:Int)):=by
  rw[←Int.natCast_mul]
  generalize n*i.bytes=q at h47
  omega
 have qAZ:¬(9223372036854775807<(n:Int)):=by omega
 have hns:¬(n*i.size=0):=by
  intro e
  rcases Nat.mul_eq_zero.1 e with e | e
  ·omega
  ·exact hsz e
 refine⟨(Question.appendCap n 0 e).cut (w.tape w.drawn (.appendCap n 0 e)),by simp[Question.cut],?_⟩
 have hzr:∀w:World,(zeroValue e).run P w=.ok z w:=fun w=>by simp[zeroValue,typeInfo,hi,hz]
 unfold Builtin.append_
 simp only[List.getElem?_toArray,List.getElem?_cons_zero,List.getElem?_cons_succ,Sem.run_bind,run_underlying ht,run_underlying hu,Result.andThen_ok,jAL hi,Sem.run_pure]
 simp[asInt,asIntOf,qAX,qAY,jHy hi,qAw,hzr,h48,qAZ,Question.forced,hns,Builtin.firstCells,newRow,Nat.pos_iff_ne_zero.1 hn0]
theorem jNI (g:Good P base w0 β E w){t u ty:TypeId}{x x' y y':Value}(hx:VR β x x')(hy:VR β y y'){v:Value}(h:jDg P E [t,u] [x,y]=some (v,E1)) :
 ∃β1 v' w1,Ext β β1∧VR β1 v v'∧Good P base w0 β1 E1 w1∧(Builtin.append_ #[t,u] ty #[x',y']).run P w=.ok v' w1:=by
 unfold jDg at h
 split at h
 case h_2=>cases h
 rename_i t1 u1 ik m e1 e2
 cases e1
 cases e2
 have:=hx.scalarEq rfl
 subst this
 have:=hy.intInv
 subst this
 split at h
 case h_2=>cases h
 rename_i e ik2 ht hu
 split at h
 case h_2=>cases h
 rename_i i z hi hz
 split at h
 case isFalse=>cases h
 rename_i hc
 obtain⟨hm,h47,h0,hzs,hsc,hsz⟩:=hc
 have hzi:=jG4 hz hi
 cases h
 obtain⟨C,hC,jA9⟩:=jMT (w:=w) (ty:=ty) (ik':=ik) ht hu hi hzi hm h0 hsz h47
 have hcl:VRs β (Builtin.zeroCells z.cells m.toNat).toList (Builtin.zeroCells z.cells m.toNat).toList:=by
  refine VRs.refl ?_
  rw[List.all_eq_true]
  intro a ha
  simp only[Builtin.zeroCells,Array.toList_map,List.mem_map]at ha
  obtain⟨j,_,rfl⟩:=ha
  have hlt:j % z.cells.size<z.cells.size:=Nat.mod_lt _ (by omega)
  rw[getElem!_pos z.cells (j % z.cells.size) hlt]
  exact List.all_eq_true.1 hsc _ (by simp)
 have hx:(Builtin.zeroCells z.cells (C-m.toNat)).toList.length=(C-m.toNat)*jF2 P e:=by rw[jC3,hzs,jDm hi]
 have hg:=(g.sameHeap (w':=w.drew) rfl).newS hcl e (C-m.toNat) _ hx
 have heq:((Builtin.zeroCells z.cells m.toNat).toList++(Builtin.zeroCells z.cells (C-m.toNat)).toList).toArray=Builtin.zeroCells z.cells m.toNat++Builtin.zeroCells z.cells (C-m.toNat):=by
  apply Array.ext';simp
 rw[heq]at hg
 refine⟨_,_,_,Ext.put g.fresh _,VR.slice (AR.new _ _ _ rfl) (.inr ⟨_,Map.put_same _ _ _,?_,rfl⟩),hg,?_⟩
 ·simp only[jC3,hzs,jDm hi,Nat.zero_add]
 ·rw[jA9]
  have:m.toNat+(C-m.toNat)=C:=by omega
  rw[this]
  rfl
theorem jNN (g:Good P base w0 β E w){t:TypeId}{v:Value}(h:jH7 E none=some (v,E1)) :
 ∃β1 v' w1,Ext β β1∧VR β1 v v'∧Good P base w0 β1 E1 w1∧(Instr.makeMap t none).run P w=.ok v' w1:=by
 simp only[jH7]at h
 cases h
 have g1:=g.newObj (OR.map (es:=#[]) (es':=#[]) (clock:=0) MEs.nil) _ rfl
 exact⟨_,.map (some w.heap.size),_,Ext.put g.fresh _,.map (Map.put_same _ _ _),g1,by simp[Instr.makeMap]⟩
theorem jLi (g:Good P base w0 β E w){t:TypeId}{l l' c c':Value}(hl:VR β l l')(hc:VR β c c'){v:Value}(h:jGH P E t l c=some (v,E1)) :
 ∃β1 v' w1,Ext β β1∧VR β1 v v'∧Good P base w0 β1 E1 w1∧(Instr.makeSlice t l' c').run P w=.ok v' w1:=by
 unfold jGH at h
 split at h
 case h_2=>cases h
 rename_i e ht
 split at h
 case h_2=>cases h
 rename_i i z kl ln kc cp hi hz
 split at h
 case isFalse=>cases h
 rename_i jCz
 obtain⟨h0,h1,h2,h3,hsc⟩:=jCz
 cases h
 have e1:=hl.intInv
 have e2:=hc.intInv
 subst e1 e2
 have hzi:=jG4 hz hi
 have jQf:VRs β (madeCells z.cells (cp.toNat*i.size)).toList (madeCells z.cells (cp.toNat*i.size)).toList:=by
  refine VRs.refl ?_
  rw[List.all_eq_true]
  intro u hu
  simp only[madeCells,Array.toList_map,List.mem_map]at hu
  obtain⟨j,_,rfl⟩:=hu
  by_cases hs:z.cells.size=0
  ·have:z.cells=#[]:=Array.eq_empty_of_size_eq_zero hs
   rw[this]
   rfl
  ·have hlt:j % z.cells.size<z.cells.size:=Nat.mod_lt _ (by omega)
   rw[getElem!_pos z.cells (j % z.cells.size) hlt]
   exact List.all_eq_true.1 hsc _ (by simp)
 have jA9:=run_make (P:=P) w t e i z ht hi hzi kl kc ln cp h0 h1 h2 (by omega)
 have g1:=g.new jQf e _ rfl
 have ha:=AR.new (⟨w.heap.size,0,(madeCells z.cells (cp.toNat*i.size)).toList.length,jF2 P e,0⟩:Loc) E.n β rfl
 refine⟨_,_,_,Ext.put g.fresh _,VR.slice (a':=⟨w.heap.size,0,none⟩) ha (.inl rfl),?_,jA9⟩
 simpa using g1
theorem jJZ (g:Good P base w0 β E w){a a':Addr}(h:AR β a a'){c:List Value}{t:TypeId}{own fx:Bool}(he:E.get a.block=.cells c t own fx) :
 ∃l c' t' fr,β a.block=some l∧a.spot=none∧a'=⟨l.blk,l.off+a.off,none⟩∧w.heap[l.blk]? = some (.cells c' t' fr)∧c.length=l.size∧l.es=jF2 P t∧l.off+l.size+l.slack*l.es≤c'.size∧(own=true→base≤l.blk∧fr=(0,0)∧t'=t∧(fx=true→l.off=0)):=by
 obtain⟨l,hl,hs,rfl⟩:=h
 have jEJ:=g.rep _ _ hl
 rw[he]at jEJ
 obtain⟨h1,h2,c',t',fr,hb,h3,_,h5⟩:=jEJ
 exact⟨l,c',t',fr,hl,hs,rfl,hb,h1,h2,h3,h5.1⟩
theorem jL4 {t:TypeId}{i:TypeInfo}(hi:P.info? t=some i):P.cellsOf t=i.size:=by
 simp[Program.cellsOf,hi]
theorem jNS {e:TypeId}{n count:Nat}(hc:P.cellsOf e=n)(hn:n≠0)(h1:1≤count):liesAt P P.depth e count (0+0) e 1=true:=by
 have hd:P.depth=(2*(P.types.size+Made.depth)+1)+1:=rfl
 rw[hd]
 simp only[liesAt,Bool.or_eq_true]
 left
 rw[hd]
 simp[rowAt,hc,hn,h1,sameLayout]
theorem jUI (g:Good P base w0 β E w){src dst:TypeId}{x x':Value}(hx:VR β x x'){v:Value}(h:jWe P E src dst x=some (v,E1)) :
 v=x∧E1=E∧(convert src dst x').run P w=.ok x' w:=by
 unfold jWe at h
 split at h
 case h_2=>cases h
 rename_i a
 obtain⟨a',rfl,ha⟩:=hx.ptrInv
 split at h
 case h_2=>cases h
 rename_i c t own fx he
 obtain⟨l,c',t',fr,hl,hs,rfl,hb,h1,h2,h3,h4⟩:=jJZ g ha he
 have jNs:w.shape? l.blk=some (t',c'.size):=by simp[World.shape?,hb]
 have qAf:(viewAt l.blk).run P w=.ok none w:=by simp[viewAt,jNs]
 split at h
 ·rename_i u hsrc hdst
  split at h
  case h_2=>cases h
  rename_i i hi
  split at h
  case isFalse=>cases h
  rename_i jCz
  cases h
  refine⟨rfl,rfl,?_⟩
  have hlt:¬(c'.size≤l.off+a.off):=by
   have:=jCz.2
   omega
  simp[convert,run_underlying hsrc,run_underlying hdst,Conv.unsafePointer,Conv.seenAt,qAf,cellsIn,jNs,jAL hi,jCz.1,hlt]
 ·rename_i u hsrc hdst
  split at h
  case h_2=>cases h
  rename_i i hi
  split at h
  case isFalse=>cases h
  rename_i jCz
  cases h
  obtain⟨ho,hfx,hi0,rfl,ha0,hcl⟩:=jCz
  obtain⟨jDu,_,rfl,qAx⟩:=h4 ho
  have qAx:=qAx hfx
  refine⟨rfl,rfl,?_⟩
  have hsz:=jL4 (P:=P) hi
  have hes:l.es=i.size:=by rw[h2];exact jDm hi
  have jYO:liesAt P P.depth t' (c'.size / P.cellsOf t') (l.off+a.off) t' 1=true:=by
   rw[qAx,ha0]
   exact jNS hsz hi0 (by rw[hsz];exact (Nat.le_div_iff_mul_le (by omega)).2 (by omega))
  simp[convert,run_underlying hsrc,run_underlying hdst,Conv.unsafePointer,Conv.seenAt,qAf,variablesAt,jNs,jAL hi,hi0,jYO]
 ·cases h
theorem jSU (g:Good P base w0 β E w){op:BinOp}{t:TypeId}{x x' y y':Value}(hx:VR β x x')(hy:VR β y y'){v:Value}(h:jPB P E op t x y=some (v,E1)) :
 E1=E∧VR β v v∧(∀xo yo,eqGuard op t xo yo x' y'=pure ())∧(binOp op t x' y').run P w=.ok v w:=by
 unfold jPB at h
 split at h
 case h_2=>cases h
 rename_i a b
 obtain⟨a',rfl,ha⟩:=hx.ptrInv
 obtain⟨b',rfl,hb⟩:=hy.ptrInv
 split at h
 case h_2=>cases h
 rename_i u ht
 split at h
 case h_2=>cases h
 rename_i i hi
 split at h
 case isFalse=>cases h
 rename_i jCz
 obtain⟨hi0,hab⟩:=jCz
 obtain⟨l,hl,hs,rfl⟩:=ha
 obtain⟨m,hm,hs',rfl⟩:=hb
 rw[←hab,hl]at hm
 cases hm
 have jUm:(sameAddr ⟨l.blk,l.off+a.off,none⟩ ⟨l.blk,l.off+b.off,none⟩).run P w=.ok (a.off == b.off) w:=by
  have:((⟨l.blk,l.off+a.off,none⟩:Addr) == ⟨l.blk,l.off+b.off,none⟩)=(a.off == b.off):=by
   by_cases he:a.off=b.off
   ·simp[he]
   ·have h1:¬(l.off+a.off=l.off+b.off):=by omega
    rw[beq_eq_false_iff_ne.2 he,beq_eq_false_iff_ne.2]
    intro hh
    exact h1 (congrArg Addr.off hh)
  simp[sameAddr,this]
 have heq:(Op.equal t (.pointer (some ⟨l.blk,l.off+a.off,none⟩)) (.pointer (some ⟨l.blk,l.off+b.off,none⟩))).run P w=.ok (a.off == b.off) w:=by
  show (Op.equalIn (9999+1) _ _ _).run P w=_
  rw[Op.equalIn,Sem.run_bind,run_underlying ht,Result.andThen_ok]
  simp[jAL hi,hi0,jUm]
 have hgd:∀xo yo,eqGuard op t xo yo (.pointer (some ⟨l.blk,l.off+a.off,none⟩)) (.pointer (some ⟨l.blk,l.off+b.off,none⟩))=pure ():=fun xo yo=>eqGuard_at_pointer ..
 split at h
 ·cases h
  refine⟨rfl,.scalar rfl,hgd,?_⟩
  have:binOp .eql t (.pointer (some ⟨l.blk,l.off+a.off,none⟩)) (.pointer (some ⟨l.blk,l.off+b.off,none⟩))=(do pure (.bool (←Op.equal t (.pointer (some ⟨l.blk,l.off+a.off,none⟩)) (.pointer (some ⟨l.blk,l.off+b.off,none⟩))))):=rfl
  rw[this]
  simp[heq]
 ·cases h
  refine⟨rfl,.scalar rfl,hgd,?_⟩
  have:binOp .neq t (.pointer (some ⟨l.blk,l.off+a.off,none⟩)) (.pointer (some ⟨l.blk,l.off+b.off,none⟩))=(do pure (.bool (!(←Op.equal t (.pointer (some ⟨l.blk,l.off+a.off,none⟩)) (.pointer (some ⟨l.blk,l.off+b.off,none⟩)))))):=rfl
  rw[this]
  simp[heq]
 ·cases h
theorem jTe {t:TypeId}{x x' ix ix':Value}(hx:VR β x x')(hi:VR β ix ix'){v:Value}(h:jPW P E t x ix=some (v,E1)) :
 E1=E∧∃v',VR β v v'∧(Instr.index t x' ix').run P w=.ok v' w:=by
 unfold jPW at h
 split at h
 case h_2=>cases h
 rename_i k i cs
 have:=hi.intInv
 subst this
 obtain⟨cs',rfl,hv⟩:=hx.aggInv
 split at h
 case h_2=>cases h
 rename_i len e ht
 split at h
 case h_2=>cases h
 rename_i inf qAV
 split at h
 case isFalse=>cases h
 rename_i hb
 split at h
 case h_2=>cases h
 rename_i u hp
 cases h
 obtain⟨u',h1,h2⟩:=jSh (w:=w) hv hp
 exact⟨rfl,u',h1,by simp[Instr.index,asIntOf,run_underlying ht,hb,jAL qAV,h2]⟩
theorem jWu (g:Good P base w0 β E w){t u ty:TypeId}{x x' y y':Value}(hx:VR β x x')(hy:VR β y y'){v:Value}(h:jKS P E [t,u] [x,y]=some (v,E1)) :
 VR β v v∧∃w1,Good P base w0 β E1 w1∧(Builtin.copy_ #[t,u] ty #[x',y']).run P w=.ok v w1:=by
 unfold jKS at h
 split at h
 case h_2=>cases h
 rename_i t0 u0 b dLen cap y0 e1 e2
 simp only[List.cons.injEq,and_true]at e1 e2
 obtain⟨rfl,rfl⟩:=e1
 obtain⟨rfl,rfl⟩:=e2
 split at h
 case h_2=>cases h
 rename_i e ht
 split at h
 case h_2=>cases h
 rename_i i hi
 split at h
 case h_2=>cases h
 rename_i n new jRE
 obtain⟨new',rn,ln,jBi,jHQ⟩:=jI2 g hy jRE
 split at h
 case isFalse=>cases h
 rename_i jCz
 obtain⟨hle,qAv⟩:=jCz
 have hmin:Nat.min n dLen=n:=Nat.min_eq_left hle
 have hf:=jHQ w rfl rfl rfl rfl
 split at h
 ·split at h
  ·rename_i hn0
   cases h
   subst hn0
   have:=hx.scalarEq rfl
   subst this
   refine⟨.scalar rfl,w,g,?_⟩
   simp[Builtin.copy_,run_underlying ht,jBi,hmin,jAL hi,hf,goInt]
  ·cases h
 ·rename_i a
  obtain⟨a',cap',rfl,ha,hc⟩:=hx.sliceInv (by simpa [spotted] using qAv)
  split at h
  case h_2=>cases h
  rename_i E2 hst
  cases h
  obtain⟨w1,jA9,g1⟩:=jCO (P:=P) _ 0 g ha rn hst
  refine⟨.scalar rfl,w1,g1,?_⟩
  simp[Builtin.copy_,run_underlying ht,jBi,hmin,jAL hi,hf,jA9]
theorem jXV (g:Good P base w0 β E w){t ty:TypeId}{x x':Value}(hx:VR β x x'){v:Value}(h:jYb P E [t] [x]=some (v,E1)) :
 E1=E∧VR β v v∧(Builtin.cap_ #[t] ty #[x']).run P w=.ok v w:=by
 unfold jYb at h
 split at h
 case h_2=>cases h
 rename_i t0 a n c e1 e2
 simp only[List.cons.injEq,and_true]at e1 e2
 subst e1 e2
 split at h
 case h_2=>cases h
 rename_i e ht
 split at h
 case h_2=>cases h
 rename_i cs t2 own he
 split at h
 case isFalse=>cases h
 rename_i hs
 cases h
 obtain⟨a',cap',rfl,⟨l,hl,_,rfl⟩,hc⟩:=hx.sliceInv hs
 have jEJ:=g.rep _ _ hl
 rw[he]at jEJ
 obtain⟨_,_,_,_,_,_,_,_,hfx⟩:=jEJ
 have hz:=hfx.2 rfl
 have jUu:cap'=c:=by
  rcases hc with hc | ⟨m,hm,_,hc⟩
  ·exact hc
  ·rw[hl]at hm;cases hm;rw[hz]at hc;exact hc
 subst jUu
 exact⟨rfl,.scalar rfl,by simp[Builtin.cap_,run_underlying ht]⟩
theorem jKO {ts:Array TypeId}{ty:TypeId}{x x':Value}(hx:VR β x x'){v:Value}(h:jEa E [x]=some (v,E1)) :
 E1=E∧∃v',VR β v v'∧(Builtin.unsafeSliceData_ ts ty #[x']).run P w=.ok v' w:=by
 unfold jEa at h
 split at h
 case h_2=>cases h
 rename_i a n c e2
 simp only[List.cons.injEq,and_true]at e2
 subst e2
 split at h
 case isFalse=>cases h
 rename_i jCz
 cases h
 obtain⟨a',cap',rfl,ha,hc⟩:=hx.sliceInv jCz.2
 have:cap'≠0:=by
  rcases hc with hc | ⟨m,_,_,hc⟩
  ·rw[hc];exact jCz.1
  ·have:=jCz.1;omega
 exact⟨rfl,_,.ptr ha,Lib.run_unsafeSliceData_row w ts ty a' n cap' this⟩
theorem jMx:∀ {cs:List Value} {l:List UInt8},jKa cs=some l→cs=l.map fun b=>Value.int .u8 b.toNat
 | [],l,h=>by simp only[jKa]at h;cases h;rfl
 | v :: r,l,h=>by
   cases v with
   | int k n =>
     cases k <;> simp only[jKa]at h <;> try (cases h;done)
     split at h
     ·rename_i hn
      split at h
      ·rename_i l1 h1
       cases h
       rw[jMx h1]
       simp
       omega
      ·cases h
     ·cases h
   | _=>simp[jKa]at h
theorem jZt {l:List UInt8}{cs':List Value}(h:VRs β (l.map fun b=>Value.int .u8 b.toNat) cs'):cs'=l.map fun b=>Value.int .u8 b.toNat:=by
 refine h.scalarEq ?_
 simp[jAn]
theorem jRc {e:TypeId}(hc:P.cellsOf e=1)(count off n:Nat)(hn:off+n≤count):liesAt P P.depth e count off e n=true:=by
 have hd:P.depth=(2*(P.types.size+Made.depth)+1)+1:=rfl
 rw[hd]
 simp only[liesAt,Bool.or_eq_true]
 left
 rw[hd]
 simp[rowAt,hc,hn,sameLayout,Nat.mod_one]
theorem Good.frozen (g:Good P base w0 β E w){k:Nat}{l:Loc}(hk:β k=some l){c:List Value}{t:TypeId}{fx:Bool}(he:E.get k=.cells c t true fx)(o n:Nat) :
 Good P base w0 β (E.set k (.cells c t false fx)) (w.freeze ⟨l.blk,o,none⟩ n):=by
 have jEJ:=g.rep _ _ hk
 rw[he]at jEJ
 obtain⟨h1,h2,c',t',fr,hb,h3,h4,h5⟩:=jEJ
 obtain⟨jDu,hfr,htt,qAx⟩:=h5.1 rfl
 have hlt:=g.lt _ _ hk
 by_cases hn:n=0
 ·have:w.freeze ⟨l.blk,o,none⟩ n=w:=by simp[World.freeze,hn]
  rw[this]
  refine g.change hk (by rw[he];simp) jDu rfl (fun i hi=>rfl) (by simp) ?_
  exact⟨h1,h2,c',t',fr,hb,h3,h4,⟨fun e=>(by cases e),h5.2⟩⟩
 ·refine g.change hk (by rw[he];simp) jDu (by simp[World.freeze,hn]) ?_ (by simp) ?_ (by simp[World.freeze,hn]) (by simp[World.freeze,hn]) (by simp[World.freeze,hn])
  ·intro i hi
   simp[World.freeze,hn,Array.getElem?_modify,Ne.symm hi]
  ·have hex:∃fr2,(w.freeze ⟨l.blk,o,none⟩ n).heap[l.blk]? = some (.cells c' t' fr2):=by
    refine⟨if fr.1 == fr.2 then (o,o+n) else (min fr.1 o,max fr.2 (o+n)),?_⟩
    simp only[World.freeze,hn,if_false,Array.getElem?_modify,if_true,hb,Option.map_some]
   obtain⟨fr2,hfr2⟩:=hex
   exact⟨h1,h2,c',t',fr2,hfr2,h3,h4,⟨fun e=>(by cases e),h5.2⟩⟩
def jT3:{ K:TypeId→TypeId→TypeId→Option Addr→Value→Int→Sem Value // ∀pt it ty p v,Builtin.unsafeString_ #[pt,it] ty #[.pointer p,v]=(asInt v >>= K pt it ty p v) }:=⟨_,fun _ _ _ _ _=>rfl⟩
theorem jQn (g:Good P base w0 β E w){pt it ty:TypeId}{x x' y y':Value}(hx:VR β x x')(hy:VR β y y'){v:Value}(h:jEh P E [pt,it] [x,y]=some (v,E1)) :
 VR β v v∧∃w1,Good P base w0 β E1 w1∧(Builtin.unsafeString_ #[pt,it] ty #[x',y']).run P w=.ok v w1:=by
 unfold jEh at h
 split at h
 case h_2=>cases h
 rename_i pt0 it0 a n e1 e2
 simp only[List.cons.injEq,and_true]at e1 e2
 obtain⟨rfl,rfl⟩:=e1
 obtain⟨rfl,rfl⟩:=e2
 have:=hy.intInv
 subst this
 obtain⟨a',rfl,ha⟩:=hx.ptrInv
 split at h
 ·rename_i hn
  cases h
  subst hn
  exact⟨.scalar rfl,w,g,Lib.run_unsafeString_none w _ _ _ _⟩
 rename_i hn0
 split at h
 case h_2=>cases h
 rename_i e hp
 split at h
 case h_2=>cases h
 rename_i c t fx he
 split at h
 case h_2=>cases h
 rename_i cs hcs
 split at h
 case h_2=>cases h
 rename_i l hl
 split at h
 case isFalse=>cases h
 rename_i jCz
 obtain⟨qCw,h63,rfl,hc1,hs1⟩:=jCz
 cases h
 obtain⟨lo,c',t',fr,hlo,hs,rfl,hb,q1,q2,q3,q4⟩:=jJZ g ha he
 obtain⟨jDu,_,rfl,_⟩:=q4 rfl
 obtain⟨cs',hr,jBi,jA9,jAj⟩:=g.loads (P:=P) ha hcs
 have e1:=jMx hl
 rw[e1]at hr jBi
 have e2:=jZt hr
 subst e2
 have hll:l.length=n.toNat:=by simpa using jBi
 have hnn:n=(l.length:Int):=by omega
 subst hnn
 have hl0:l.length≠0:=by omega
 have hin:a.off+l.length≤c.length:=by
  rw[jEj,he]at hcs
  simp only at hcs
  split at hcs
  ·rename_i hh;simpa using hh
  ·cases hcs
 have jNs:w.shape? lo.blk=some (t',c'.size):=by simp[World.shape?,hb]
 have jYO:liesAt P P.depth t' (c'.size / P.cellsOf t') (lo.off+a.off) t' l.length=true:=jRc hc1 _ _ _ (by rw[hc1,Nat.div_one];omega)
 have hlb:=Lib.run_loadBytes (P:=P) w l ⟨lo.blk,lo.off+a.off,none⟩ .empty (fun j x hx=>jAj j _ (by simp[hx]))
 refine⟨.scalar rfl,w.freeze ⟨lo.blk,lo.off+a.off,none⟩ l.length,g.frozen hlo he _ _,?_⟩
 have qAZ:IntKind.i64.max=9223372036854775807:=rfl
 have qAY:¬(l.length:Int)<0:=by omega
 have h63':¬(9223372036854775807:Int)<(l.length:Int):=by omega
 rw[jT3.2]
 simp[jT3,asInt,asIntOf,qAZ,h63',qAY,hl0,variablesAt,jNs,elemOf,run_underlying hp,jYO,hlb]
theorem jKp:∀ (n t:Nat) (acc:Array Value),(∀u ∈ acc.toList,∃k n,u=.int k n)→∀u ∈ (Extern.BytealgMakeNoZero.digits n t acc).toList,∃k n,u=.int k n
 | 0,_,acc,h=>h
 | n+1,t,acc,h=>by
   rw[Extern.BytealgMakeNoZero.digits]
   refine jKp n _ _ fun u hu=>?_
   rw[Array.toList_push]at hu
   rcases List.mem_append.1 hu with e | e
   ·exact h u e
   ·rw[List.mem_singleton.1 e];exact⟨_,_,rfl⟩
def jRL:{ K:Array TypeId→TypeId→Int→TypeDesc→Sem Value // ∀ps t n,Extern.BytealgMakeNoZero.makeNoZero ps #[t] #[.int .i64 n]=(underlying t >>= K ps t n) }:=⟨_,fun _ _ _=>rfl⟩
theorem jQK (w:World)(ps:Array TypeId)(t e:TypeId)(ht:P.underlying t=some (.slice e))(n:Nat)(hn:n≤281474976710656) :
 ∃cs:Array Value,(Extern.BytealgMakeNoZero.makeNoZero ps #[t] #[.int .i64 n]).run P w=.ok (.slice (some ⟨w.heap.size,0,none⟩) n cs.size) (w.drew.drew.alloc (.cells cs e))∧n≤cs.size∧∀u ∈ cs.toList,∃k n,u=.int k n:=by
 refine⟨Extern.BytealgMakeNoZero.digits (grownCap w n 0 e) ((Question.extern "internal/bytealg.MakeNoZero.bytes" 0).cut (w.tape (w.drawn+1) (.extern "internal/bytealg.MakeNoZero.bytes" 0))) #[],?_,?_,?_⟩
 ·have h1:¬(n:Int)<0:=by omega
  have h2:¬(281474976710656:Int)<(n:Int):=by omega
  rw[jRL.2]
  simp[jRL,run_underlying ht,h1,h2,Question.forced,newRow,Lib.size_digits,grownCap]
 ·rw[Lib.size_digits]
  simpa using grownCap_ge w n 0 e
 ·exact jKp _ _ _ (by simp)
theorem jRj (g:Good P base w0 β E w){f:FuncId}{args args':List Value}(ha:VRs β args args'){v:Value}(h:jOL P E f args=some (v,E1)) :
 ∃β1 v' w1,Ext β β1∧VR β1 v v'∧Good P base w0 β1 E1 w1∧(callFunc f args'.toArray).run P w=.ok (.value v') w1:=by
 unfold jOL at h
 split at h
 case h_2=>cases h
 rename_i fn hfn
 split at h
 ·cases h
 rename_i hb
 have hb:fn.body.isSome=false:=by simpa using hb
 split at h
 ·cases h
 rename_i ho
 have ho:fn.origin = "" := by simpa using ho
 split at h
 ·rename_i jFe
  split at h
  case h_2=>cases h
  rename_i x
  cases h
  cases ha with
  | cons hx t =>
    cases t
    rename_i x'
    refine⟨β,x',w,Ext.refl β,hx,g,?_⟩
    refine jCN hfn hb (by rw[jFe];rfl) (jDh jFe ho rfl) (e:=Extern.AbiNoEscape.same) ?_ rfl
    unfold Extern.find
    rw[jFe]
    rfl
 ·split at h
  case isFalse=>cases h
  rename_i jFe
  split at h
  case h_2=>cases h
  rename_i n
  split at h
  case h_2=>cases h
  rename_i t hty
  split at h
  case h_2=>cases h
  rename_i e ht
  split at h
  case isFalse=>cases h
  rename_i jCz
  obtain⟨h0,h48,hs1⟩:=jCz
  cases h
  cases ha with
  | cons hx t2 =>
    cases t2
    have:=hx.intInv
    subst this
    have hres:fn.resultTypes=#[t]:=by apply Array.ext';simpa using hty
    obtain⟨m,rfl⟩:∃m:Nat,n=(m:Int):=⟨n.toNat,by omega⟩
    obtain⟨cs,jA9,hle,jLE⟩:=jQK (P:=P) w fn.params t e ht m (by omega)
    have qAg:cs=(cs.toList.take m++cs.toList.drop m).toArray:=by simp
    have hvr:VRs β (List.replicate m (.chan (some 0))) (cs.toList.take m):=by
     refine VRs.of_get (by simp[hle]) fun i a b hab hb2=>?_
     have:a=.chan (some 0):=by
      rw[List.getElem?_replicate]at hab
      split at hab <;> cases hab;rfl
     subst this
     obtain⟨k,q,rfl⟩:=jLE b (List.mem_of_mem_take (List.mem_of_getElem? hb2))
     exact .unk
    have gd:Good P base w0 β E w.drew.drew:=g.sameHeap rfl
    have g1:=gd.newS hvr e (cs.size-m) (cs.toList.drop m) (by simp[hs1])
    rw[←qAg]at g1
    have hl:(List.replicate m (Value.chan (some 0))).length=m:=List.length_replicate
    refine⟨_,_,_,Ext.put g.fresh _,VR.slice (a':=⟨w.heap.size,0,none⟩) (AR.new (⟨w.drew.drew.heap.size,0,(List.replicate m (Value.chan (some 0))).length,jF2 P e,cs.size-m⟩:Loc) E.n β rfl) (.inr ⟨_,Map.put_same _ _ _,?_,rfl⟩),g1,?_⟩
    ·show 0+(m:Int).toNat*jF2 P e=_
     rw[hs1,hl];simp
    ·refine jCN hfn hb (by rw[jFe];rfl) (jDh jFe ho rfl) (e:=Extern.BytealgMakeNoZero.makeNoZero fn.params fn.resultTypes) ?_ ?_
     ·unfold Extern.find
      rw[jFe]
      rfl
     ·rw[hres]
      rw[show (#[Value.int .i64 (m:Int)]:Array Value)=[Value.int .i64 (m:Int)].toArray from rfl]at jA9
      rw[jA9]
      have:(m:Int).toNat+(cs.size-m)=cs.size:=by omega
      simp only[Int.toNat_natCast]at this ⊢
      rw[this]
      rfl
theorem jZE (g:Good P base w0 β E w){ng:Nat}(hg:Glob ng β){ts:Slots}{tmps:Array Value}(ht:VRs β ts.toL tmps.toList){o:Oper}{v:Value}(h:opU P ng ts o E=some (v,E1)) :
 OK P base w0 β E1 v (execOp (evA tmps) o) w:=by
 obtain⟨dst,op,type,pos,after,guard⟩:=o
 unfold opU at h
 simp only at h
 split at h
 case isFalse=>cases h
 rename_i hok
 have hx:∀x ∈ op.operands,okX ng x=true:=fun x hm=>jGz hok x (by simpa using hm)
 have ev:∀x,x ∈ op.operands→VR β (evT ts x) (evA tmps x):=fun x hm=>jDU ht hg (hx x hm)
 cases op with
 | makeMap t r =>
   simp only at h
   cases r with
   | some r=>simp[jH7]at h
   | none =>
     obtain⟨β1,v',w1,hxx,hv,g1,jA9⟩:=jNN (t:=t) g h
     exact OK.of rfl hxx hv g1 jA9
 | insert t m k x =>
   simp only at h
   obtain⟨rfl,w1,g1,jA9⟩:=jKv g (ev m (by simp[Op.operands])) (ev k (by simp[Op.operands])) (ev x (by simp[Op.operands])) h
   exact⟨β,undef,w1,Ext.refl β,jGi β,g1,.inr ⟨by simp[execOp,jA9],rfl⟩⟩
 | mapUpdate t m k x =>
   simp only at h
   obtain⟨rfl,w1,g1,jA9⟩:=jKv g (ev m (by simp[Op.operands])) (ev k (by simp[Op.operands])) (ev x (by simp[Op.operands])) h
   exact⟨β,undef,w1,Ext.refl β,jGi β,g1,.inr ⟨by simp[execOp,jA9],rfl⟩⟩
 | lookup t x i ok =>
   simp only at h
   split at h
   ·rename_i r hr
    cases h
    obtain⟨rfl,hl⟩:=jQA g (ev x (by simp[Op.operands])) (ev i (by simp[Op.operands])) hr
    exact OK.same rfl g hl
   ·obtain⟨rfl,hl⟩:=jOt g (ev x (by simp[Op.operands])) (ev i (by simp[Op.operands])) h
    exact OK.same rfl g hl
 | mapEntry t m k =>
   simp only at h
   obtain⟨v',w1,hv,g1,jA9⟩:=jR4 g (ev m (by simp[Op.operands])) (ev k (by simp[Op.operands])) h
   exact OK.of rfl (Ext.refl β) hv g1 jA9
 | entryStore t m s x =>
   simp only at h
   obtain⟨rfl,w1,g1,jA9⟩:=jJX (t:=t) g (ev m (by simp[Op.operands])) (ev s (by simp[Op.operands])) (ev x (by simp[Op.operands])) h
   exact⟨β,undef,w1,Ext.refl β,jGi β,g1,.inr ⟨by simp[execOp,jA9],rfl⟩⟩
 | makeSlice t l c =>
   simp only at h
   obtain⟨β1,v',w1,hxx,hv,g1,jA9⟩:=jLi g (ev l (by simp[Op.operands])) (ev c (by simp[Op.operands])) h
   exact OK.of rfl hxx hv g1 jA9
 | convert src dst x =>
   simp only at h
   have e:=ev x (by simp[Op.operands])
   obtain⟨rfl,rfl,jA9⟩:=jUI g e h
   exact OK.same rfl g ⟨_,e,jA9⟩
 | index t x i =>
   simp only at h
   obtain⟨rfl,hl⟩:=jTe (P:=P) (w:=w) (ev x (by simp[Op.operands])) (ev i (by simp[Op.operands])) h
   exact OK.same rfl g hl
 | binOp op t x y yt =>
   simp only at h
   obtain⟨rfl,hv,hgd,jA9⟩:=jSU g (ev x (by simp[Op.operands])) (ev y (by simp[Op.operands])) h
   exact OK.same rfl g ⟨_,hv,by simp[hgd,jA9]⟩
 | call c =>
   obtain⟨callee,args,tys⟩:=c
   have hm:∀l:List Operand,args.toList=l→VRs β (l.map (evT ts)) (l.map (evA tmps)):=fun l hl=>jYg hg ht fun x hm=>hx x (by
    have:x ∈ args:=by
     have:x ∈ args.toList:=by rw[hl];exact hm
     simpa using this
    cases callee <;> simp[Op.operands,Call.operands,this])
   cases callee with
   | invoke r m=>simp at h
   | value f =>
     cases f with
     | func q =>
       simp only at h
       obtain⟨β1,v',w1,hxx,hv,g1,jA9⟩:=jRj g (hm _ rfl) h
       refine⟨β1,v',w1,hxx,hv,g1,.inl ?_⟩
       have ha:(args.toList.map (evA tmps)).toArray=args.map (evA tmps):=by apply Array.ext';simp
       rw[ha]at jA9
       simp[execOp,resolve,Deferred.ofValue,invoke,evA,jA9]
     | _=>simp at h
   | builtin b =>
     have key:∀ (ty:TypeId) (s:Sem Value) (v':Value) (w1:World),s.run P w=.ok v' w1→(do pure (.value (←s)):Sem Next).run P w=.ok (.value v') w1:=fun ty s v' w1 hs=>by simp[hs]
     cases b <;> try (simp at h;done)
     case copy =>
      simp only at h
      obtain⟨l⟩:=args
      obtain⟨tl⟩:=tys
      match l,tl,h with
      | [x,y],[t,u],h =>
        simp only[List.map_cons,List.map_nil]at h
        obtain⟨hv,w1,g1,jA9⟩:=jWu (ty:=type) g (ev x (by simp[Op.operands,Call.operands])) (ev y (by simp[Op.operands,Call.operands])) h
        exact⟨β,v,w1,Ext.refl β,hv,g1,.inl (by simp[execOp,resolve,invoke,builtin,jA9])⟩
      | [],_,h=>simp[jKS]at h
      | [_],_,h=>simp[jKS]at h
      | _ :: _ :: _ :: _,_,h=>simp[jKS]at h
      | [_,_],[],h=>simp[jKS]at h
      | [_,_],[_],h=>simp[jKS]at h
      | [_,_],_ :: _ :: _ :: _,h=>simp[jKS]at h
     case append =>
      simp only at h
      obtain⟨l⟩:=args
      obtain⟨tl⟩:=tys
      match l,tl,h with
      | [x,y],[t,u],h =>
        simp only[List.map_cons,List.map_nil]at h
        obtain⟨β1,v',w1,hxx,hv,g1,jA9⟩:=jNI (ty:=type) g (ev x (by simp[Op.operands,Call.operands])) (ev y (by simp[Op.operands,Call.operands])) h
        exact⟨β1,v',w1,hxx,hv,g1,.inl (by simp[execOp,resolve,invoke,builtin,jA9])⟩
      | [],_,h=>simp[jDg]at h
      | [_],_,h=>simp[jDg]at h
      | _ :: _ :: _ :: _,_,h=>simp[jDg]at h
      | [_,_],[],h=>simp[jDg]at h
      | [_,_],[_],h=>simp[jDg]at h
      | [_,_],_ :: _ :: _ :: _,h=>simp[jDg]at h
     case cap =>
      simp only at h
      obtain⟨l⟩:=args
      obtain⟨tl⟩:=tys
      match l,tl,h with
      | [x],[t],h =>
        simp only[List.map_cons,List.map_nil]at h
        obtain⟨rfl,hv,jA9⟩:=jXV (ty:=type) g (ev x (by simp[Op.operands,Call.operands])) h
        exact⟨β,v,w,Ext.refl β,hv,g,.inl (by simp[execOp,resolve,invoke,builtin,jA9])⟩
      | [],_,h=>simp[jYb]at h
      | _ :: _ :: _,_,h=>simp[jYb]at h
      | [_],[],h=>simp[jYb]at h
      | [_],_ :: _ :: _,h=>simp[jYb]at h
     case unsafeSliceData =>
      simp only at h
      obtain⟨l⟩:=args
      match l,h with
      | [x],h =>
        simp only[List.map_cons,List.map_nil]at h
        obtain⟨rfl,v',hv,jA9⟩:=jKO (P:=P) (w:=w) (ts:=tys) (ty:=type) (ev x (by simp[Op.operands,Call.operands])) h
        exact⟨β,v',w,Ext.refl β,hv,g,.inl (by simp[execOp,resolve,invoke,builtin,jA9])⟩
      | [],h=>simp[jEa]at h
      | _ :: _ :: _,h=>simp[jEa]at h
     case unsafeString =>
      simp only at h
      obtain⟨l⟩:=args
      obtain⟨tl⟩:=tys
      match l,tl,h with
      | [x,y],[t,u],h =>
        simp only[List.map_cons,List.map_nil]at h
        obtain⟨hv,w1,g1,jA9⟩:=jQn (ty:=type) g (ev x (by simp[Op.operands,Call.operands])) (ev y (by simp[Op.operands,Call.operands])) h
        exact⟨β,v,w1,Ext.refl β,hv,g1,.inl (by simp[execOp,resolve,invoke,builtin,jA9])⟩
      | [],_,h=>simp[jEh]at h
      | [_],_,h=>simp[jEh]at h
      | _ :: _ :: _ :: _,_,h=>simp[jEh]at h
      | [_,_],[],h=>simp[jEh]at h
      | [_,_],[_],h=>simp[jEh]at h
      | [_,_],_ :: _ :: _ :: _,h=>simp[jEh]at h
 | _=>simp at h
theorem jZf (g:Good P base w0 β E w){ng:Nat}(hg:Glob ng β){ts:Slots}{tmps:Array Value}(ht:VRs β ts.toL tmps.toList){o:Oper}{v:Value}(h:opE P ng ts o E=some (v,E1)) :
 OK P base w0 β E1 v (execOp (evA tmps) o) w:=by
 unfold opE at h
 split at h
 ·rename_i r hr
  cases h
  exact jZP g hg ht hr
 ·exact jZE g hg ht h
theorem jS1 (g:Good P base w0 β E w){src dst:TypeId}{x x':Value}(hx:VR β x x'){v:Value}(h:jSA P E src dst x=some (v,E1)) :
 ∃β1 v' w1,Ext β β1∧VR β1 v v'∧Good P base w0 β1 E1 w1∧(convert src dst x').run P w=.ok v' w1:=by
 unfold jSA at h
 split at h
 case h_2=>cases h
 rename_i s
 have:=hx.stringInv
 subst this
 split at h
 case h_2=>cases h
 rename_i e hs hd
 split at h
 case h_2=>cases h
 rename_i he
 split at h
 case isFalse=>cases h
 rename_i hsz
 cases h
 have hge:=grownCap_ge w s.size 0 e
 let bs:List Value:=s.data.toList.map fun b=>.int .u8 b.toNat
 let row:Array Value:=bytesRow s (grownCap w s.size 0 e)
 have jA4:row.toList=bs++List.replicate (grownCap w s.size 0 e-s.size) (.int .u8 0):=by simp[row,bs,bytesRow]
 have hbs:bs.length=s.size:=by simp[bs]
 have hrs:row.size=grownCap w s.size 0 e:=by
  have:=congrArg List.length jA4
  simp only[Array.length_toList,List.length_append,List.length_replicate,hbs]at this
  omega
 let w1:World:=w.drew.alloc (.cells row e (row.size,row.size+1))
 have hx1:=Ext.put g.fresh (⟨w.heap.size,0,bs.length,jF2 P e,grownCap w s.size 0 e-s.size⟩:Loc)
 have hw1:w1.heap=w.heap.push (.cells row e (row.size,row.size+1)):=rfl
 have g1:Good P base w0 (β.put E.n ⟨w.heap.size,0,bs.length,jF2 P e,grownCap w s.size 0 e-s.size⟩) (E.push (.cells bs e false false)) w1:=by
  refine g.put (by rw[hw1];simp) ?_ ?_ g.ge (by rw[hw1];simp) ?_
  ·intro i hi hlt
   rw[hw1]
   simp[Array.getElem?_push_lt,hlt]
  ·intro i li ei _
   have:=g.lt _ _ ei
   show li.blk≠w.heap.size
   omega
  ·refine⟨rfl,rfl,row,e,_,by rw[hw1];simp;rfl,?_,?_,⟨fun h=>(by cases h),fun h=>by cases h⟩⟩
   ·show 0+bs.length+(grownCap w s.size 0 e-s.size)*jF2 P e≤row.size
    rw[hsz,hrs,hbs];omega
   ·intro i u hu
    have hlt:=(List.getElem?_eq_some_iff.1 hu).1
    refine⟨u,?_,?_⟩
    ·show row[0+i]? = some u
     rw[Nat.zero_add,←Array.getElem?_toList,jA4,List.getElem?_append_left hlt,hu]
    ·have:jAn u=true:=by
      have hm:=List.mem_of_getElem? hu
      simp only[bs,List.mem_map]at hm
      obtain⟨b,_,rfl⟩:=hm
      rfl
     exact .scalar this
 refine⟨_,.slice (some ⟨w.heap.size,0,none⟩) s.size (grownCap w s.size 0 e),w1,hx1,VR.slice (AR.new (⟨w.heap.size,0,bs.length,jF2 P e,grownCap w s.size 0 e-s.size⟩:Loc) E.n β rfl) (.inr ⟨_,Map.put_same _ _ _,?_,?_⟩),g1,?_⟩
 ·show 0+s.size*jF2 P e=bs.length
  rw[hsz,hbs];omega
 ·show grownCap w s.size 0 e=s.size+(grownCap w s.size 0 e-s.size)
  omega
 ·exact run_bytes_of_string w src dst e s hs hd he
end
end
end Go.Eng
