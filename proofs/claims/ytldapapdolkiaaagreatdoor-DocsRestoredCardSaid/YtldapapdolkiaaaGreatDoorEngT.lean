/-
  A CLOSED RUN, HELD AGAINST THE MODEL (0): trees for slots and blocks, spelt by their recursors: the kernel runs them quickly.
-/
import GoSem.Step
namespace Go.Eng
set_option linter.unusedVariables false
inductive Tr (α:Type) where
 | leaf
 | node (v:α) (l r:Tr α)
section
variable {α:Type}
noncomputable def Tr.get (d:α)(t:Tr α):Nat→α :=
 Tr.rec (motive:=fun _=>Nat→α) (fun _=>d) (fun v _ _ gl gr n=>Bool.rec (motive:=fun _=>α) (Bool.rec (motive:=fun _=>α) (gr (n / 2-1)) (gl (n / 2)) (Nat.beq (n % 2) 1)) v (Nat.beq n 0)) t
noncomputable def Tr.val (d:α)(t:Tr α):α:=Tr.rec (motive:=fun _=>α) d (fun v _ _ _ _=>v) t
noncomputable def Tr.left (t:Tr α):Tr α:=Tr.rec (motive:=fun _=>Tr α) .leaf (fun _ l _ _ _=>l) t
noncomputable def Tr.right (t:Tr α):Tr α:=Tr.rec (motive:=fun _=>Tr α) .leaf (fun _ _ r _ _=>r) t
noncomputable def Tr.setF (d x:α)(fuel:Nat):Tr α→Nat→Tr α :=
 Nat.rec (motive:=fun _=>Tr α→Nat→Tr α) (fun t _=>t) (fun _ ih t n=>Tr.rec (motive:=fun _=>Tr α)
  (Bool.rec (motive:=fun _=>Tr α) (Bool.rec (motive:=fun _=>Tr α) (.node d .leaf (ih .leaf (n / 2-1))) (.node d (ih .leaf (n / 2)) .leaf) (Nat.beq (n % 2) 1)) (.node x .leaf .leaf) (Nat.beq n 0))
  (fun v l r _ _=>Bool.rec (motive:=fun _=>Tr α) (Bool.rec (motive:=fun _=>Tr α) (.node v l (ih r (n / 2-1))) (.node v (ih l (n / 2)) r) (Nat.beq (n % 2) 1)) (.node x l r) (Nat.beq n 0)) t) fuel
noncomputable def Tr.set (d x:α)(t:Tr α)(n:Nat):Tr α:=t.setF d x (n+1) n
theorem Tr.get_leaf (d:α)(n:Nat):(Tr.leaf:Tr α).get d n=d:=rfl
theorem Tr.get_node (d v:α)(l r:Tr α)(n:Nat):(Tr.node v l r).get d n=if n=0 then v else if n % 2=1 then l.get d (n / 2) else r.get d (n / 2-1):=by
 show Bool.rec (motive:=fun _=>α) (Bool.rec (motive:=fun _=>α) (r.get d (n / 2-1)) (l.get d (n / 2)) (Nat.beq (n % 2) 1)) v (Nat.beq n 0)=_
 by_cases h:n=0
 ·subst h;rfl
 ·have h0:Nat.beq n 0=false:=by cases n with | zero=>exact absurd rfl h | succ n=>rfl
  rw[h0,if_neg h]
  by_cases h1:n % 2=1
  ·rw[if_pos h1,h1];rfl
  ·have h2:n % 2=0:=by omega
   rw[if_neg h1,h2];rfl
theorem Tr.setF_succ (d x:α)(f:Nat)(t:Tr α)(n:Nat):t.setF d x (f+1) n=if n=0 then .node x t.left t.right else if n % 2=1 then .node (t.val d) (t.left.setF d x f (n / 2)) t.right else .node (t.val d) t.left (t.right.setF d x f (n / 2-1)):=by
 have hs:t.setF d x (f+1) n=Bool.rec (motive:=fun _=>Tr α) (Bool.rec (motive:=fun _=>Tr α) (.node (t.val d) t.left (t.right.setF d x f (n / 2-1))) (.node (t.val d) (t.left.setF d x f (n / 2)) t.right) (Nat.beq (n % 2) 1)) (.node x t.left t.right) (Nat.beq n 0):=by
  cases t <;> rfl
 rw[hs]
 by_cases h:n=0
 ·subst h;rfl
 ·have h0:Nat.beq n 0=false:=by cases n with | zero=>exact absurd rfl h | succ n=>rfl
  rw[h0,if_neg h]
  by_cases h1:n % 2=1
  ·rw[if_pos h1,h1];rfl
  ·have h2:n % 2=0:=by omega
   rw[if_neg h1,h2];rfl
theorem Tr.get_parts (d:α)(t:Tr α)(n:Nat):t.get d n=if n=0 then t.val d else if n % 2=1 then t.left.get d (n / 2) else t.right.get d (n / 2-1):=by
 cases t with
 | leaf =>
   show d=_
   split
   ·rfl
   ·split <;> rfl
 | node v l r=>exact Tr.get_node d v l r n
theorem Tr.get_setF_same (d x:α):∀ (f:Nat) (t:Tr α) (n:Nat),n<f→(t.setF d x f n).get d n=x
 | 0,_,_,h=>absurd h (Nat.not_lt_zero _)
 | f+1,t,n,h=>by
   rw[Tr.setF_succ]
   by_cases h0:n=0
   ·rw[if_pos h0,Tr.get_node,if_pos h0]
   ·rw[if_neg h0]
    by_cases h1:n % 2=1
    ·rw[if_pos h1,Tr.get_node,if_neg h0,if_pos h1]
     exact Tr.get_setF_same d x f _ _ (by omega)
    ·rw[if_neg h1,Tr.get_node,if_neg h0,if_neg h1]
     exact Tr.get_setF_same d x f _ _ (by omega)
theorem Tr.get_setF_other (d x:α):∀ (f:Nat) (t:Tr α) (n m:Nat),n≠m→(t.setF d x f n).get d m=t.get d m
 | 0,_,_,_,_=>rfl
 | f+1,t,n,m,h=>by
   rw[Tr.setF_succ,Tr.get_parts d t m]
   by_cases h0:n=0
   ·rw[if_pos h0,Tr.get_node]
    have:m≠0:=by omega
    simp only[this,if_false]
   ·rw[if_neg h0]
    by_cases h1:n % 2=1
    ·rw[if_pos h1,Tr.get_node]
     by_cases m0:m=0
     ·simp only[m0,if_true]
     ·simp only[m0,if_false]
      by_cases m1:m % 2=1
      ·simp only[m1,if_true]
       exact Tr.get_setF_other d x f _ _ _ (by omega)
      ·simp only[m1,if_false]
    ·rw[if_neg h1,Tr.get_node]
     by_cases m0:m=0
     ·simp only[m0,if_true]
     ·simp only[m0,if_false]
      by_cases m1:m % 2=1
      ·simp only[m1,if_true]
      ·simp only[m1,if_false]
       exact Tr.get_setF_other d x f _ _ _ (by omega)
theorem Tr.get_set_same (d x:α)(t:Tr α)(n:Nat):(t.set d x n).get d n=x:=Tr.get_setF_same d x _ t n (by omega)
theorem Tr.get_set_other (d x:α)(t:Tr α){n m:Nat}(h:n≠m):(t.set d x n).get d m=t.get d m:=Tr.get_setF_other d x _ t n m h
noncomputable def Tr.lay (d:α)(t:Tr α)(n:Nat)(l:List α):Tr α :=
 List.rec (motive:=fun _=>Nat→Tr α→Tr α) (fun _ t=>t) (fun a _ ih n t=>ih (n+1) (t.set d a n)) l n t
theorem Tr.lay_cons (d:α)(t:Tr α)(n:Nat)(a:α)(r:List α):t.lay d n (a :: r)=(t.set d a n).lay d (n+1) r:=rfl
theorem Tr.lay_nil (d:α)(t:Tr α)(n:Nat):t.lay d n []=t:=rfl
theorem Tr.get_lay (d:α):∀ (l:List α) (t:Tr α) (n m:Nat),(t.lay d n l).get d m=if n≤m∧m<n+l.length then l.getD (m-n) d else t.get d m
 | [],t,n,m=>by
   rw[Tr.lay_nil]
   have:¬(n≤m∧m<n+([]:List α).length):=by simp
   rw[if_neg this]
 | a :: r,t,n,m=>by
   rw[Tr.lay_cons,Tr.get_lay d r]
   by_cases h:n+1≤m∧m<n+1+r.length
   ·rw[if_pos h]
    have h2:n≤m∧m<n+(a :: r).length:=by simp;omega
    rw[if_pos h2]
    obtain⟨k,rfl⟩:=Nat.exists_eq_add_of_le h.1
    have e1:n+1+k-(n+1)=k:=by omega
    have e2:n+1+k-n=k+1:=by omega
    rw[e1,e2];rfl
   ·rw[if_neg h]
    by_cases hm:m=n
    ·subst hm
     have h2:m≤m∧m<m+(a :: r).length:=by simp
     rw[if_pos h2,Tr.get_set_same,Nat.sub_self];rfl
    ·have h2:¬(n≤m∧m<n+(a :: r).length):=by simp;omega
     rw[if_neg h2,Tr.get_set_other _ _ _ (Ne.symm hm)]
theorem Tr.setF_comm (d x y:α):∀ (f g:Nat) (t:Tr α) (n m:Nat),n≠m→(t.setF d x f n).setF d y g m=(t.setF d y g m).setF d x f n
 | 0,_,_,_,_,_=>rfl
 | _+1,0,_,_,_,_=>rfl
 | f+1,g+1,t,n,m,h=>by
   rw[Tr.setF_succ,Tr.setF_succ,Tr.setF_succ,Tr.setF_succ]
   by_cases n0:n=0
   ·have m0:m≠0:=by omega
    simp only[n0,m0,if_true,if_false]
    by_cases m1:m % 2=1
    ·simp only[m1,if_true];rfl
    ·simp only[m1,if_false];rfl
   ·simp only[n0,if_false]
    by_cases m0:m=0
    ·simp only[m0,if_true]
     by_cases n1:n % 2=1
     ·simp only[n1,if_true];rfl
     ·simp only[n1,if_false];rfl
    ·simp only[m0,if_false]
     by_cases n1:n % 2=1
     ·simp only[n1,if_true]
      by_cases m1:m % 2=1
      ·simp only[m1,if_true]
       have hc:=Tr.setF_comm d x y f g t.left (n / 2) (m / 2) (by omega)
       show Tr.node _ ((t.left.setF d x f (n / 2)).setF d y g (m / 2)) _=Tr.node _ ((t.left.setF d y g (m / 2)).setF d x f (n / 2)) _
       rw[hc];rfl
      ·simp only[m1,if_false];rfl
     ·simp only[n1,if_false]
      by_cases m1:m % 2=1
      ·simp only[m1,if_true];rfl
      ·simp only[m1,if_false]
       have hc:=Tr.setF_comm d x y f g t.right (n / 2-1) (m / 2-1) (by omega)
       show Tr.node _ _ ((t.right.setF d x f (n / 2-1)).setF d y g (m / 2-1))=Tr.node _ _ ((t.right.setF d y g (m / 2-1)).setF d x f (n / 2-1))
       rw[hc];rfl
theorem Tr.set_comm (d x y:α)(t:Tr α){n m:Nat}(h:n≠m):(t.set d x n).set d y m=(t.set d y m).set d x n:=Tr.setF_comm d x y _ _ t n m h
noncomputable def Tr.eqT (e:α→α→Bool)(t:Tr α):Tr α→Bool :=
 Tr.rec (motive:=fun _=>Tr α→Bool) (fun u=>Tr.rec (motive:=fun _=>Bool) true (fun _ _ _ _ _=>false) u)
  (fun v _ _ el er u=>Tr.rec (motive:=fun _=>Bool) false (fun v' l' r' _ _=>e v v' && (el l' && er r')) u) t
theorem Tr.eqT_ok {e:α→α→Bool}(h:∀a b,e a b=true→a=b):∀ {t u:Tr α},t.eqT e u=true→t=u
 | .leaf,.leaf,_=>rfl
 | .leaf,.node _ _ _,k=>by cases k
 | .node _ _ _,.leaf,k=>by cases k
 | .node v l r,.node v' l' r',k=>by
   have k:(e v v' && (l.eqT e l' && r.eqT e r'))=true:=k
   simp only[Bool.and_eq_true]at k
   rw[h _ _ k.1,Tr.eqT_ok h k.2.1,Tr.eqT_ok h k.2.2]
end
/-! Lists and strings, by recursors. -/
section
variable {α:Type}
noncomputable def jU0 (l:List α):Nat→Option α:=List.rec (motive:=fun _=>Nat→Option α) (fun _=>none) (fun a _ ih n=>Nat.rec (motive:=fun _=>Option α) (some a) (fun m _=>ih m) n) l
theorem jQc:∀ (l:List α) (i:Nat),jU0 l i=l[i]?
 | [],i=>by simp[jU0]
 | a :: r,0=>rfl
 | a :: r,i+1=>by
   show jU0 r i=_
   rw[jQc r i];rfl
noncomputable def llen (l:List α):Nat:=List.rec (motive:=fun _=>Nat) 0 (fun _ _ ih=>Nat.succ ih) l
theorem jGT:∀l:List α,llen l=l.length
 | []=>rfl
 | a :: r=>by
   show Nat.succ (llen r)=_
   rw[jGT r];rfl
noncomputable def ldrop (n:Nat)(l:List α):List α:=Nat.rec (motive:=fun _=>List α→List α) (fun l=>l) (fun _ ih l=>List.rec (motive:=fun _=>List α) [] (fun _ r _=>ih r) l) n l
theorem jLc:∀ (n:Nat) (l:List α),ldrop n l=l.drop n
 | 0,l=>rfl
 | n+1,[]=>rfl
 | n+1,a :: r=>by
   show ldrop n r=_
   rw[jLc n r];rfl
noncomputable def lset (l:List α)(n:Nat)(v:α):List α:=List.rec (motive:=fun _=>Nat→List α) (fun _=>[]) (fun a r ih n=>Nat.rec (motive:=fun _=>List α) (v :: r) (fun m _=>a :: ih m) n) l n
theorem jRX (v:α):∀ (l:List α) (n:Nat),lset l n v=l.set n v
 | [],n=>rfl
 | a :: r,0=>rfl
 | a :: r,n+1=>by
   show a :: lset r n v=_
   rw[jRX v r n];rfl
end
noncomputable def bget (s:ByteArray)(i:Nat):Option UInt8:=jU0 s.data.toList i
theorem jX0 (s:ByteArray)(i:Nat):bget s i=s[i]?:=by
 unfold bget
 rw[jQc]
 cases s with
 | mk a =>
   show a.toList[i]? = _
   rw[Array.getElem?_toList]
   by_cases h:i<a.size
   ·have h2:i<(ByteArray.mk a).size:=h
    rw[Array.getElem?_eq_getElem h,getElem?_pos _ i h2];rfl
   ·have h2:¬i<(ByteArray.mk a).size:=h
    rw[Array.getElem?_eq_none (by omega),getElem?_neg _ i h2]
noncomputable def lapp {α:Type}(l m:List α):List α:=List.rec (motive:=fun _=>List α) m (fun a _ ih=>a :: ih) l
theorem jOq {α:Type}(m:List α):∀l:List α,lapp l m=l++m
 | []=>rfl
 | a :: r=>by
   show a :: lapp r m=_
   rw[jOq m r];rfl
noncomputable def jZd (l:List UInt8):List UInt8→Bool :=
 List.rec (motive:=fun _=>List UInt8→Bool) (fun m=>List.rec (motive:=fun _=>Bool) true (fun _ _ _=>false) m)
  (fun a _ ih m=>List.rec (motive:=fun _=>Bool) false (fun b r _=>Bool.rec (motive:=fun _=>Bool) false (ih r) (Nat.beq a.toNat b.toNat)) m) l
theorem jLf:∀l m:List UInt8,jZd l m=(l == m)
 | [],[]=>rfl
 | [],_ :: _=>rfl
 | _ :: _,[]=>rfl
 | a :: r,b :: s=>by
   show Bool.rec (motive:=fun _=>Bool) false (jZd r s) (Nat.beq a.toNat b.toNat)=(a == b && r == s)
   rw[jLf r s]
   by_cases h:a=b
   ·subst h
    have:Nat.beq a.toNat a.toNat=true:=Nat.beq_refl _
    rw[this];simp
   ·have:Nat.beq a.toNat b.toNat=false:=by
     cases e:Nat.beq a.toNat b.toNat with
     | false=>rfl
     | true=>exact absurd (UInt8.toNat_inj.1 (Nat.eq_of_beq_eq_true e)) h
    rw[this]
    simp[h]
noncomputable def bapp (a b:ByteArray):ByteArray:=⟨⟨lapp a.data.toList b.data.toList⟩⟩
theorem jXT (a b:ByteArray):bapp a b=a++b:=by
 unfold bapp
 rw[jOq]
 apply ByteArray.ext
 apply Array.ext'
 simp
noncomputable def ltake {α:Type}(n:Nat)(l:List α):List α:=Nat.rec (motive:=fun _=>List α→List α) (fun _=>[]) (fun _ ih l=>List.rec (motive:=fun _=>List α) [] (fun a r _=>a :: ih r) l) n l
theorem jOZ {α:Type}:∀ (n:Nat) (l:List α),ltake n l=l.take n
 | 0,l=>rfl
 | n+1,[]=>rfl
 | n+1,a :: r=>by
   show a :: ltake n r=_
   rw[jOZ n r];rfl
noncomputable def bcut (s:ByteArray)(l h:Nat):ByteArray:=⟨⟨ltake (h-l) (ldrop l s.data.toList)⟩⟩
theorem jXR (s:ByteArray)(l h:Nat):bcut s l h=s.extract l h:=by
 unfold bcut
 rw[jOZ,jLc]
 apply ByteArray.ext
 apply Array.ext'
 simp[ByteArray.data_extract]
theorem jSc (s:ByteArray):llen s.data.toList=s.size:=by rw[jGT];rfl
structure Slots where
 n:Nat
 t:Tr Value
noncomputable def Slots.get (s:Slots)(i:Nat):Value:=Slots.rec (motive:=fun _=>Value) (fun n t=>Bool.rec (motive:=fun _=>Value) undef (t.get undef i) (Nat.blt i n)) s
theorem jLP {i n:Nat}(h:¬i<n):Nat.blt i n=false:=by
 cases e:Nat.blt i n with
 | false=>rfl
 | true=>exact absurd (Nat.le_of_ble_eq_true e) h
theorem Slots.get_eq (s:Slots)(i:Nat):s.get i=if i<s.n then s.t.get undef i else undef:=by
 show Bool.rec (motive:=fun _=>Value) undef (s.t.get undef i) (Nat.blt i s.n)=_
 by_cases h:i<s.n
 ·rw[if_pos h,show Nat.blt i s.n=true from Nat.ble_eq_true_of_le h]
 ·rw[if_neg h,jLP h]
noncomputable def Slots.put (s:Slots)(i:Nat)(v:Value):Slots:=Slots.rec (motive:=fun _=>Slots) (fun n t=>⟨n,t.set undef v i⟩) s
noncomputable def Slots.toL (s:Slots):List Value:=(List.range s.n).map fun i=>s.t.get undef i
noncomputable def force {α:Type}(n:Nat)(f:Nat→α):α:=Nat.rec (motive:=fun _=>α) (f 0) (fun k _=>f (Nat.succ k)) n
theorem jOT {α:Type}(n:Nat)(f:Nat→α):force n f=f n:=by cases n <;> rfl
noncomputable def Slots.ofL (args:List Value)(more:Nat):Slots:=force (args.length+more) fun n=>⟨n,Tr.lay undef .leaf 0 args⟩
theorem Slots.toL_get? (s:Slots)(i:Nat):s.toL[i]? = if i<s.n then some (s.t.get undef i) else none:=by
 unfold Slots.toL
 by_cases h:i<s.n
 ·simp[h]
 ·simp[h]
theorem Slots.toL_get (s:Slots)(i:Nat):s.toL.getD i undef=s.get i:=by
 rw[List.getD_eq_getElem?_getD,Slots.toL_get?,Slots.get_eq]
 split <;> rfl
theorem Slots.toL_put (s:Slots)(i:Nat)(v:Value):(s.put i v).toL=s.toL.set i v:=by
 apply List.ext_getElem?
 intro j
 rw[Slots.toL_get?,List.getElem?_set]
 show (if j<s.n then some ((s.t.set undef v i).get undef j) else none)=_
 have jBi:s.toL.length=s.n:=by simp[Slots.toL]
 by_cases hij:i=j
 ·subst hij
  rw[if_pos rfl,jBi,Tr.get_set_same]
 ·rw[if_neg hij,Slots.toL_get?,Tr.get_set_other _ _ _ hij]
theorem Slots.toL_ofL (args:List Value)(more:Nat):(Slots.ofL args more).toL=args++List.replicate more undef:=by
 unfold Slots.ofL
 rw[jOT]
 apply List.ext_getElem?
 intro j
 rw[Slots.toL_get?]
 show (if j<args.length+more then some ((Tr.lay undef .leaf 0 args).get undef j) else none)=_
 rw[Tr.get_lay,Tr.get_leaf,List.getElem?_append]
 by_cases h:j<args.length
 ·have h1:0≤j∧j<0+args.length:=by omega
  have h2:j<args.length+more:=by omega
  rw[if_pos h1,if_pos h2,if_pos h,Nat.sub_zero,List.getD_eq_getElem?_getD]
  simp[h]
 ·have h1:¬(0≤j∧j<0+args.length):=by omega
  rw[if_neg h1,if_neg h]
  by_cases h2:j<args.length+more
  ·have h3:j-args.length<more:=by omega
   rw[if_pos h2,List.getElem?_replicate,if_pos h3]
  ·have h3:¬j-args.length<more:=by omega
   rw[if_neg h2,List.getElem?_replicate,if_neg h3]
theorem Slots.get_put_other (s:Slots){i j:Nat}(h:i≠j)(v:Value):(s.put i v).get j=s.get j:=by
 rw[Slots.get_eq,Slots.get_eq]
 show (if j<s.n then (s.t.set undef v i).get undef j else undef)=(if j<s.n then s.t.get undef j else undef)
 rw[Tr.get_set_other _ _ _ h]
theorem Slots.put_comm (s:Slots){i j:Nat}(h:i≠j)(v u:Value):(s.put i v).put j u=(s.put j u).put i v:=by
 show (⟨s.n,(s.t.set undef v i).set undef u j⟩:Slots)=⟨s.n,(s.t.set undef u j).set undef v i⟩
 rw[Tr.set_comm _ _ _ _ h]
end Go.Eng
