/-
  A CLOSED RUN, HELD AGAINST THE MODEL (1): what an abstract memory is, and when a world of the model is as it says.
  The verifier's own text; it names nothing of any program.
-/
import Derived.Test.YtldapapdolkiaaaGreatDoorEngT
import Derived.Calls
namespace Go.Eng
set_option linter.unusedVariables false
structure Loc where
 blk:Nat
 off:Nat
 size:Nat
 es:Nat
 slack:Nat
inductive EB where
 | cells (c:List Value) (t:TypeId) (own:Bool) (fx:Bool)
 | obj (o:Obj)
 | dead
structure EM where
 n:Nat
 t:Tr EB
noncomputable def EM.get (E:EM)(k:Nat):EB:=EM.rec (motive:=fun _=>EB) (fun n t=>Bool.rec (motive:=fun _=>EB) .dead (t.get .dead k) (Nat.blt k n)) E
noncomputable def EM.set (E:EM)(k:Nat)(b:EB):EM:=EM.rec (motive:=fun _=>EM) (fun n t=>⟨n,t.set .dead b k⟩) E
noncomputable def EM.push (E:EM)(b:EB):EM:=EM.rec (motive:=fun _=>EM) (fun n t=>force (n+1) fun m=>⟨m,t.set .dead b n⟩) E
theorem EM.get_eq (E:EM)(k:Nat):E.get k=if k<E.n then E.t.get .dead k else .dead:=by
 show Bool.rec (motive:=fun _=>EB) .dead (E.t.get .dead k) (Nat.blt k E.n)=_
 by_cases h:k<E.n
 ·rw[if_pos h,show Nat.blt k E.n=true from Nat.ble_eq_true_of_le h]
 ·rw[if_neg h,jLP h]
theorem EM.push_eq (E:EM)(b:EB):E.push b=⟨E.n+1,E.t.set .dead b E.n⟩:=rfl
abbrev Map:=Nat→Option Loc
def Ext (β β':Map):Prop:=∀k l,β k=some l→β' k=some l
theorem Ext.refl (β:Map):Ext β β:=fun _ _ h=>h
theorem Ext.trans {a b c:Map}(h:Ext a b)(k:Ext b c):Ext a c:=fun i l e=>k i l (h i l e)
def Map.put (β:Map)(k:Nat)(l:Loc):Map:=fun i=>if i=k then some l else β i
theorem Map.put_same (β:Map)(k:Nat)(l:Loc):(β.put k l) k=some l:=by simp[Map.put]
theorem Map.put_other (β:Map){k i:Nat}(l:Loc)(h:i≠k):(β.put k l) i=β i:=by simp[Map.put,h]
theorem Ext.put {β:Map}{k:Nat}(h:β k=none)(l:Loc):Ext β (β.put k l):=by
 intro i l' e
 have:i≠k:=by intro he;subst he;rw[h]at e;cases e
 rw[Map.put_other β l this];exact e
def jAn:Value→Bool
 | .bool _ | .int _ _ | .float _ _ | .complex _ _ _ | .string _ | .pointer none | .slice none _ _ | .map none | .chan none | .nilFunc | .nilIface=>true
 | _=>false
def AR (β:Map)(a a':Addr):Prop:=∃l,β a.block=some l∧a.spot=none∧a'=⟨l.blk,l.off+a.off,none⟩
inductive FnR (β:Map):Fn→Fn→Prop
 | func (f:FuncId):FnR β (.func f) (.func f)
 | method (n:String):FnR β (.method n) (.method n)
 | yield {k:Nat} {l:Loc} (h:β k=some l):FnR β (.yield k) (.yield l.blk)
def jZL (β:Map)(a:Addr)(cap cap':Nat):Prop:=cap'=cap∨∃l,β a.block=some l∧a.off+cap*l.es=l.size∧cap'=cap+l.slack
mutual
inductive VR (β:Map):Value→Value→Prop
 | scalar {v:Value} (h:jAn v=true):VR β v v
 | ptr {a a':Addr} (h:AR β a a'):VR β (.pointer (some a)) (.pointer (some a'))
 | slice {a a':Addr} {len cap cap':Nat} (h:AR β a a') (hc:jZL β a cap cap'):VR β (.slice (some a) len cap) (.slice (some a') len cap')
 | empty {b o:Nat} {a':Addr} {cap':Nat}:VR β (.slice (some ⟨b,o,some 0⟩) 0 0) (.slice (some a') 0 cap')
 | agg {cs cs':Array Value} (h:VRs β cs.toList cs'.toList):VR β (.agg cs) (.agg cs')
 | tuple {cs cs':Array Value} (h:VRs β cs.toList cs'.toList):VR β (.tuple cs) (.tuple cs')
 | func {f f':Fn} {a a' c c':Array Value} (hf:FnR β f f') (ha:VRs β a.toList a'.toList) (hc:VRs β c.toList c'.toList):VR β (.func f a c) (.func f' a' c')
 | iface {t:TypeId} {v v':Value} (h:VR β v v'):VR β (.iface t v) (.iface t v')
 | map {k:Nat} {l:Loc} (h:β k=some l):VR β (.map (some k)) (.map (some l.blk))
 | unk {k:IntKind} {n:Int}:VR β (.chan (some 0)) (.int k n)
inductive VRs (β:Map):List Value→List Value→Prop
 | nil:VRs β [] []
 | cons {v v':Value} {r r':List Value} (h:VR β v v') (t:VRs β r r'):VRs β (v :: r) (v' :: r')
end
theorem AR.ext {β β':Map}(h:Ext β β'){a a':Addr}(k:AR β a a'):AR β' a a':=by
 obtain⟨l,hl,hs,he⟩:=k
 exact⟨l,h _ _ hl,hs,he⟩
theorem FnR.ext {β β':Map}(h:Ext β β'){f f':Fn}(k:FnR β f f'):FnR β' f f':=by
 cases k with
 | func f=>exact .func f
 | method n=>exact .method n
 | yield e=>exact .yield (h _ _ e)
theorem jZL.ext {β β':Map}(h:Ext β β'){a:Addr}{c c':Nat}(k:jZL β a c c'):jZL β' a c c':=by
 rcases k with k | ⟨l,hl,hr⟩
 ·exact .inl k
 ·exact .inr ⟨l,h _ _ hl,hr⟩
mutual
theorem VR.ext {β β':Map}(h:Ext β β'):∀ {v v':Value},VR β v v'→VR β' v v'
 | _,_,.scalar e=>.scalar e
 | _,_,.ptr e=>.ptr (e.ext h)
 | _,_,.slice e c=>.slice (e.ext h) (c.ext h)
 | _,_,.empty=>.empty
 | _,_,.agg e=>.agg (VRs.ext h e)
 | _,_,.tuple e=>.tuple (VRs.ext h e)
 | _,_,.func f a c=>.func (f.ext h) (VRs.ext h a) (VRs.ext h c)
 | _,_,.iface e=>.iface (VR.ext h e)
 | _,_,.map e=>.map (h _ _ e)
 | _,_,.unk=>.unk
theorem VRs.ext {β β':Map}(h:Ext β β'):∀ {r r':List Value},VRs β r r'→VRs β' r r'
 | _,_,.nil=>.nil
 | _,_,.cons e t=>.cons (VR.ext h e) (VRs.ext h t)
end
theorem VRs.length {β:Map}:∀ {r r':List Value},VRs β r r'→r.length=r'.length
 | _,_,.nil=>rfl
 | _,_,.cons _ t=>by simp[VRs.length t]
theorem VRs.get {β:Map}:∀ {r r':List Value},VRs β r r'→∀ {i:Nat} {v:Value},r[i]? = some v→∃v',r'[i]? = some v'∧VR β v v'
 | _,_,.nil,i,v,h=>by simp at h
 | _,_,.cons e t,0,v,h=>by simp at h;subst h;exact⟨_,rfl,e⟩
 | _,_,.cons e t,i+1,v,h=>by simpa using VRs.get t (by simpa using h)
theorem VRs.getNone {β:Map}{r r':List Value}(h:VRs β r r'){i:Nat}(hi:r[i]? = none):r'[i]? = none:=by
 rw[List.getElem?_eq_none_iff]at hi ⊢
 rw[←h.length];exact hi
theorem VRs.set {β:Map}:∀ {r r':List Value},VRs β r r'→∀ (i:Nat) {v v':Value},VR β v v'→VRs β (r.set i v) (r'.set i v')
 | _,_,.nil,i,v,v',h=>.nil
 | _,_,.cons e t,0,v,v',h=>.cons h t
 | _,_,.cons e t,i+1,v,v',h=>.cons e (VRs.set t i h)
theorem VRs.append {β:Map}:∀ {r r' s s':List Value},VRs β r r'→VRs β s s'→VRs β (r++s) (r'++s')
 | _,_,_,_,.nil,k=>k
 | _,_,_,_,.cons e t,k=>.cons e (VRs.append t k)
theorem VRs.drop {β:Map}:∀ {r r':List Value},VRs β r r'→∀n,VRs β (r.drop n) (r'.drop n)
 | _,_,.nil,n=>by simp;exact .nil
 | _,_,.cons e t,0=>.cons e t
 | _,_,.cons e t,n+1=>VRs.drop t n
theorem VRs.take {β:Map}:∀ {r r':List Value},VRs β r r'→∀n,VRs β (r.take n) (r'.take n)
 | _,_,.nil,n=>by simp;exact .nil
 | _,_,.cons e t,0=>.nil
 | _,_,.cons e t,n+1=>.cons e (VRs.take t n)
theorem VRs.refl {β:Map}:∀ {r:List Value},r.all jAn=true→VRs β r r
 | [],_=>.nil
 | v :: r,h=>by
   simp only[List.all_cons,Bool.and_eq_true]at h
   exact .cons (.scalar h.1) (VRs.refl h.2)
theorem VRs.of_get {β:Map}:∀ {r r':List Value},r.length=r'.length→(∀ (i:Nat) (v v':Value),r[i]? = some v→r'[i]? = some v'→VR β v v')→VRs β r r'
 | [],[],_,_=>.nil
 | [],_ :: _,h,_=>by simp at h
 | _ :: _,[],h,_=>by simp at h
 | v :: r,v' :: r',h,k=>.cons (k 0 v v' rfl rfl) (VRs.of_get (by simpa using h) fun i a b ha hb=>k (i+1) a b (by simpa using ha) (by simpa using hb))
theorem jGi (β:Map):VR β undef undef:=.tuple .nil
def jBl:Value→Bool
 | .agg cs=>cs.toList.all jAn
 | .tuple cs=>cs.toList.all jAn
 | .func (.func _) a c=>a.isEmpty && c.isEmpty
 | v=>jAn v
theorem VR.flat {β:Map}{v:Value}(h:jBl v=true):VR β v v:=by
 cases v with
 | agg cs=>exact .agg (VRs.refl h)
 | tuple cs=>exact .tuple (VRs.refl h)
 | func f a c =>
   cases f with
   | func g =>
     simp only[jBl,Bool.and_eq_true,Array.isEmpty_iff]at h
     obtain⟨rfl,rfl⟩:=h
     exact .func (.func g) .nil .nil
   | _=>exact .scalar h
 | _=>exact .scalar h
theorem VR.cells {β:Map}{v v':Value}(h:VR β v v'):VRs β v.cells.toList v'.cells.toList:=by
 cases h with
 | agg h=>exact h
 | scalar h =>
   cases v <;> simp[jAn]at h <;> exact .cons (.scalar (by simp[jAn, *])) .nil
 | ptr h=>exact .cons (.ptr h) .nil
 | slice h c=>exact .cons (.slice h c) .nil
 | empty=>exact .cons .empty .nil
 | tuple h=>exact .cons (.tuple h) .nil
 | func a b c=>exact .cons (.func a b c) .nil
 | iface h=>exact .cons (.iface h) .nil
 | map h=>exact .cons (.map h) .nil
 | unk=>exact .cons .unk .nil
end Go.Eng
