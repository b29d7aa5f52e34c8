/-
  A CLOSED RUN, HELD AGAINST THE MODEL (10b): which operations of a region are ready, by recursors.
-/
import Derived.Test.YtldapapdolkiaaaGreatDoorEngK
import Derived.Orders
namespace Go.Eng
noncomputable section
def jOx (d:Bool)(l:List Bool):Nat→Bool:=List.rec (motive:=fun _=>Nat→Bool) (fun _=>d) (fun a _ ih n=>Nat.rec (motive:=fun _=>Bool) a (fun m _=>ih m) n) l
theorem jO4 (d:Bool):∀ (l:List Bool) (i:Nat),jOx d l i=l.getD i d
 | [],i=>by simp[jOx]
 | a :: r,0=>rfl
 | a :: r,i+1=>by
   show jOx d r i=_
   rw[jO4 d r i];simp
def jXj (bl:List Bool)(l:List Edge):Bool:=List.rec (motive:=fun _=>Bool) true (fun e _ ih=>Bool.rec (motive:=fun _=>Bool) false ih (!(Region.binds .any e) || jOx false bl e.on)) l
theorem jSv (bl:List Bool):∀l:List Edge,jXj bl l=l.all fun e=>!(Region.binds .any e) || jOx false bl e.on
 | []=>rfl
 | e :: r=>by
   show Bool.rec (motive:=fun _=>Bool) false (jXj bl r) (!(Region.binds .any e) || jOx false bl e.on)=_
   rw[jSv bl r,List.all_cons]
   cases (!(Region.binds .any e) || jOx false bl e.on) <;> rfl
def goR (bl:List Bool)(l:List Oper):List Bool→Nat→List Nat :=
 List.rec (motive:=fun _=>List Bool→Nat→List Nat) (fun _ _=>[]) (fun o _ ih cur k=>List.rec (motive:=fun _=>List Nat) []
  (fun b r _=>Bool.rec (motive:=fun _=>List Nat) (Bool.rec (motive:=fun _=>List Nat) (ih r (k+1)) (k :: ih r (k+1)) (jXj bl o.after.toList)) (ih r (k+1)) b) cur) l
def jHv (ops:Array Oper)(listed:Array Bool):List Nat:=goR listed.toList ops.toList listed.toList 0
def okR (ops:Array Oper)(listed:Array Bool)(j:Nat):Bool:=!(listed.getD j true) && (((ops[j]?).map fun o=>o.after.all fun e=>!(Region.binds .any e) || listed.getD e.on false).getD false)
theorem jTc (ops:Array Oper)(listed:Array Bool):Region.ready .any ops listed=(List.range ops.size).filter (okR ops listed):=rfl
theorem jEX (a:Array Bool)(i:Nat)(d:Bool):a.getD i d=a.toList.getD i d:=by
 simp[Array.getD_eq_getD_getElem?,List.getD_eq_getElem?_getD]
theorem jWX {ops:Array Oper}{listed:Array Bool}:∀ (l:List Oper) (cur:List Bool) (k:Nat),ops.toList.drop k=l→listed.toList.drop k=cur→goR listed.toList l cur k=(List.range' k l.length).filter (okR ops listed)
 | [],_,_,_,_=>rfl
 | o :: r,[],k,h,h2=>by
   show []=_
   symm
   rw[List.filter_eq_nil_iff]
   intro j hj
   have hk:k≤j:=(List.mem_range'_1.1 hj).1
   have hl:listed.toList.length≤k:=List.drop_eq_nil_iff.1 h2
   have:listed.getD j true=true:=by
    rw[jEX,List.getD_eq_getElem?_getD,List.getElem?_eq_none (by omega)];rfl
   simp[okR,this]
 | o :: r,b :: s,k,h,h2=>by
   have ho:ops[k]? = some o:=by
    have:=congrArg List.head? h
    rw[List.head?_drop]at this
    simpa using this
   have hb:listed.getD k true=b:=by
    have:=congrArg List.head? h2
    rw[List.head?_drop]at this
    rw[jEX,List.getD_eq_getElem?_getD,this];rfl
   have hr:ops.toList.drop (k+1)=r:=by
    have:=congrArg List.tail h
    simpa using this
   have hs:listed.toList.drop (k+1)=s:=by
    have:=congrArg List.tail h2
    simpa using this
   have ih:=jWX r s (k+1) hr hs
   show Bool.rec (motive:=fun _=>List Nat) (Bool.rec (motive:=fun _=>List Nat) (goR listed.toList r s (k+1)) (k :: goR listed.toList r s (k+1)) (jXj listed.toList o.after.toList)) (goR listed.toList r s (k+1)) b=_
   rw[ih]
   have ha:jXj listed.toList o.after.toList=o.after.all fun e=>!(Region.binds .any e) || listed.getD e.on false:=by
    rw[jSv,Array.all_toList]
    congr 1
    funext e
    rw[jO4,jEX]
   show _=(k :: List.range' (k+1) r.length).filter (okR ops listed)
   rw[List.filter_cons]
   have hk:okR ops listed k=(!b && jXj listed.toList o.after.toList):=by
    unfold okR
    rw[hb,ho,ha];rfl
   rw[hk]
   cases b with
   | true=>rfl
   | false =>
     cases jXj listed.toList o.after.toList <;> rfl
theorem jEd (ops:Array Oper)(listed:Array Bool):jHv ops listed=Region.ready .any ops listed:=by
 unfold jHv
 rw[jWX ops.toList listed.toList 0 rfl rfl,jTc,List.range_eq_range',Array.length_toList]
def jP0 (ops:Array Oper)(i:Nat)(oi:Oper)(l:List Oper):List Bool→Nat→Bool :=
 List.rec (motive:=fun _=>List Bool→Nat→Bool) (fun _ _=>true) (fun oj _ ih cur k=>List.rec (motive:=fun _=>Bool) true
  (fun b r _=>Bool.rec (motive:=fun _=>Bool) false (ih r (k+1)) (Bool.rec (motive:=fun _=>Bool)
    (Bool.rec (motive:=fun _=>Bool) (oj.after.any (fun e=>Region.binds .any e && e.on == i) || oi.apart ops oj) true (Nat.beq k i)) true b)) cur) l
def jVP (ops:Array Oper)(listed:Array Bool)(i:Nat):Bool :=
 match ops[i]? with
 | none=>false
 | some oi=>jP0 ops i oi ops.toList listed.toList 0
theorem jLY {ops:Array Oper}{listed:Array Bool}{i:Nat}{oi:Oper}:∀ (l:List Oper) (cur:List Bool) (k:Nat),ops.toList.drop k=l→listed.toList.drop k=cur→jP0 ops i oi l cur k=true →
  ∀j,k≤j→(j == i || listed.getD j true || match ops[j]? with
   | some oj=>oj.after.any (fun e=>Region.binds .any e && e.on == i) || oi.apart ops oj
   | none=>true)=true
 | [],_,k,h,_,_,j,hj=>by
   have hl:ops.toList.length≤k:=List.drop_eq_nil_iff.1 h
   have:ops[j]? = none:=Array.getElem?_eq_none (by simpa using Nat.le_trans hl hj)
   rw[this];simp
 | _ :: _,[],k,_,h2,_,j,hj=>by
   have hl:listed.toList.length≤k:=List.drop_eq_nil_iff.1 h2
   have:listed.getD j true=true:=by
    rw[jEX,List.getD_eq_getElem?_getD,List.getElem?_eq_none (by omega)];rfl
   rw[this];simp
 | o :: r,b :: s,k,h,h2,hf,j,hj=>by
   have ho:ops[k]? = some o:=by
    have:=congrArg List.head? h
    rw[List.head?_drop]at this
    simpa using this
   have hb:listed.getD k true=b:=by
    have:=congrArg List.head? h2
    rw[List.head?_drop]at this
    rw[jEX,List.getD_eq_getElem?_getD,this];rfl
   have hr:ops.toList.drop (k+1)=r:=by
    have:=congrArg List.tail h
    simpa using this
   have hs:listed.toList.drop (k+1)=s:=by
    have:=congrArg List.tail h2
    simpa using this
   have hf:Bool.rec (motive:=fun _=>Bool) false (jP0 ops i oi r s (k+1)) (Bool.rec (motive:=fun _=>Bool)
    (Bool.rec (motive:=fun _=>Bool) (o.after.any (fun e=>Region.binds .any e && e.on == i) || oi.apart ops o) true (Nat.beq k i)) true b)=true:=hf
   rcases Nat.eq_or_lt_of_le hj with e | e
   ·subst e
    rw[ho,hb]
    simp only
    cases b with
    | true=>simp
    | false =>
      by_cases hki:k=i
      ·simp[hki]
      ·have hq:Nat.beq k i=false:=by
        cases e:Nat.beq k i with
        | false=>rfl
        | true=>exact absurd (Nat.eq_of_beq_eq_true e) hki
       rw[hq]at hf
       cases hc:(o.after.any (fun e=>Region.binds .any e && e.on == i) || oi.apart ops o) with
       | true=>simp
       | false=>rw[hc]at hf;exact absurd hf (by simp)
   ·have jNy:jP0 ops i oi r s (k+1)=true:=by
     revert hf
     generalize (Bool.rec (motive:=fun _=>Bool) (Bool.rec (motive:=fun _=>Bool) (o.after.any (fun e=>Region.binds .any e && e.on == i) || oi.apart ops o) true (Nat.beq k i)) true b)=q
     cases q with
     | true=>exact fun h=>h
     | false=>exact fun h=>absurd h (by simp)
    exact jLY r s (k+1) hr hs jNy j e
theorem jPv {ops:Array Oper}{listed:Array Bool}{i:Nat}(h:jVP ops listed i=true):Region.free .any ops listed i=true:=by
 unfold jVP at h
 unfold Region.free
 cases ho:ops[i]? with
 | none=>rw[ho]at h;cases h
 | some oi =>
   rw[ho]at h
   simp only at h ⊢
   exact List.all_eq_true.2 fun j _=>jLY ops.toList listed.toList 0 rfl rfl h j (Nat.zero_le _)
end
end Go.Eng
