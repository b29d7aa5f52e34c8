/- Text and names as the specification tells them. What a piece has wrong by itself and by those ahead of it, as the specification tells it. Where carried tags stand, as the specification tells it. Which lists of pieces are valid, as the specification tells it. How lists of pieces are written, and their texts, as the specification tells it. Write by the specification; the guard on sizes; and the law over any list of pieces, given that its examples are true. -/
import Derived.Test.YtldapapdolkiaaaGreatDoorDpB
import Derived.Laws.Cover4
namespace Go.Proofs.YtldapapdolkiaaaGreatDoor
set_option maxHeartbeats 64000000
open Go Go.RowKit Go.Lib
set_option maxRecDepth 100000
def jAi (s:ByteArray):List Nat:=jBy s.data.toList.length s.data.toList
def jQx (r:Nat):Value:=.int .i32 (r:Int)
theorem jBc:∀ (n:Nat) (l:List UInt8),(jBy n l).length≤n:=by
 intro n
 induction n with
 | zero=>intro l;simp[jBy]
 | succ n ih =>
    intro l;simp only[jBy];split
    ·simp
    ·have:=ih (l.drop (decodeL l).2);simp;omega
def jTD (s:ByteArray)(k:Nat):Prop:=∀i r,(jAi s)[i]? = some r→i<k→ctl r=false
theorem jTD.succ {s:ByteArray}{k r:Nat}(h:jTD s k)(hk:(jAi s)[k]? = some r)(hc:ctl r=false):jTD s (k+1):=by
 intro i q hi hik
 by_cases e:i=k
 ·subst e;rw[hk]at hi;cases hi;exact hc
 ·exact h i q hi (by omega)
end Go.Proofs.YtldapapdolkiaaaGreatDoor
namespace Go.Proofs.YtldapapdolkiaaaGreatDoor
set_option maxHeartbeats 64000000
open Go Go.RowKit
set_option maxRecDepth 100000
def jSM (x a:Pc)(i:Nat):Int :=
 if x.k<1∨5<x.k then 1
 else if x.c=true∧x.k≠2∧x.k≠3 then 1
 else if x.k=1∧(x.s.size=0∨jBK x.s=false∨(0<i∧a.k=1)) then 4
 else if x.k≠1∧jDi x.s=false then 5 else 0
end Go.Proofs.YtldapapdolkiaaaGreatDoor
namespace Go.Proofs.YtldapapdolkiaaaGreatDoor
set_option maxHeartbeats 64000000
open Go Go.RowKit
set_option maxRecDepth 100000
def jV7 (l:List Pc)(i:Nat):Int:=if jRA l i=true then 8 else 0
def jUa (l:List Pc)(i k:Nat):Prop:=∀m,m<k→jJJ (l.getD m nil) (l.getD i nil)=false
theorem jUa.succ {l:List Pc}{i k:Nat}(h:jUa l i k)(hk:jJJ (l.getD k nil) (l.getD i nil)=false):jUa l i (k+1):=by
 intro m hm
 by_cases e:m=k
 ·subst e;exact hk
 ·exact h m (by omega)
end Go.Proofs.YtldapapdolkiaaaGreatDoor
namespace Go.Proofs.YtldapapdolkiaaaGreatDoor
set_option maxHeartbeats 64000000
open Go Go.RowKit
set_option maxRecDepth 100000
def jB9 (B:Nat)(v:Value)(op:List ByteArray)(w:World):Prop:=w.ownsRow B 9 1 v op.length (op.map Value.string)
theorem jB9.step {B:Nat}{v:Value}{op:List ByteArray}{w w':World}(hb:Below w.heap.size w w')(h:jB9 B v op w):jB9 B v op w':=jAZ hb h
theorem jB9.form {B:Nat}{v:Value}{op:List ByteArray}{w:World}(h:jB9 B v op w):∃ao cap,v=.slice ao op.length cap:=by
 rcases h.2 with ⟨hv,h0⟩ | ⟨g,cap,cur,hv,_⟩
 ·exact⟨none,0,by rw[hv,h0]⟩
 ·exact⟨_,_,hv⟩
end Go.Proofs.YtldapapdolkiaaaGreatDoor
namespace Go.Proofs.YtldapapdolkiaaaGreatDoor
set_option maxHeartbeats 64000000
open Go Go.RowKit
set_option maxRecDepth 100000
theorem jRO (l:List UInt8)(s:ByteArray):bytes l++s=bytes (l++s.data.toList):=by
 rw[jKd s,jMZ];rfl
theorem jJ5 (l:List UInt8):(bytes l).size=l.length:=by unfold bytes;simp[ByteArray.size]
theorem jMI (l:List Pc)(v:Value)(w:World)(hv:jBe w v l)(hb:bulk l≤10000) :
 Calls Tryz.prog 31 #[v] w fun e w'=>e=.returned (.string (bytes (jEC l)))∧w'=w:=by
 obtain⟨p,cap,rfl,hl,hc,jA4⟩:=hv
 unfold maxLen at hc
 have ag:=Tryz.isAgg76
 have zg:=Tryz.sizeOf76
 have HR:=Lib.hid jA4
 clear jA4
 go_enter Tryz.func31,Tryz.ntmps31
 go_wp2
 go_loop [3,4] (fun o i=>∃k:Nat,k≤l.length∧i=.int .i64 k∧o=.string (bytes (jEC (l.take k)))) (fun _ i=>l.length-(intOf i).toNat)
 case atStart=>exact⟨0,Nat.zero_le _,rfl,rfl⟩
 case round =>
  obtain⟨k,hk,rfl,rfl⟩:=hrel
  by_cases hlt:k<l.length
  ·obtain⟨A,rfl,hA,jAj⟩:=HR.out (by omega)
   obtain⟨x0,x1,x2⟩:=jAU hA jAj hlt (Below.refl _ w)
   have jBi:=jHn (l.take k)
   have hbt:=jCR l k
   have hsz:=jBJ hlt
   have HF:=Lib.hid (jNY l k hlt)
   have hbs:=jJ5 (jEC (l.take k))
   clear jAj
   generalize l.getD k nil=x at x0 x1 x2 hsz HF
   by_cases hk1:x.k=1
   ·rw[if_pos hk1]at HF
    have hkb:(x.k == 1)=true:=by simpa using hk1
    clear hk1
    go_wp2
    go_round
    case rel=>exact⟨k+1,by omega,by go_num,congrArg Value.string (by rw[HF.out,jRO])⟩
    case measure=>simp[intOf];omega
   ·rw[if_neg hk1,List.append_nil]at HF
    have hkb:(x.k == 1)=false:=by simpa using hk1
    clear hk1
    go_wp2
    go_round
    case rel=>exact⟨k+1,by omega,by go_num,congrArg Value.string (by rw[HF.out])⟩
    case measure=>simp[intOf];omega
  ·have hE:l.take k=l:=List.take_of_length_le (by omega)
   rw[hE]
   go_wp2
   go_ret
   exact⟨rfl,rfl⟩
end Go.Proofs.YtldapapdolkiaaaGreatDoor
namespace Go.Proofs.YtldapapdolkiaaaGreatDoor
set_option maxHeartbeats 64000000
open Go Go.RowKit
set_option maxRecDepth 100000
def cnt (l:List Pc)(k:Nat):Nat:=l.length+((l.take k).map fun x=>x.s.size).sum
theorem jLa (l:List Pc):cnt l 0=l.length:=by simp[cnt]
theorem jPT (l:List Pc)(k:Nat)(hk:k<l.length):cnt l (k+1)=cnt l k+(l.getD k nil).s.size:=by
 unfold cnt
 rw[jAS l k hk]
 simp only[List.map_append,List.sum_append,List.map_cons,List.map_nil,List.sum_cons,List.sum_nil,Nat.add_zero]
 omega
theorem jSl (l:List Pc):cnt l l.length=bulk l:=by unfold cnt bulk;rw[List.take_length]
def jXY (l:List Pc)(e:Ending):Prop:=∃b,e=.returned (.bool b)∧(b=false→bulk l≤2500)
def jT8 (l:List Pc)(n i:Value):Prop:=(n=.int .i64 0∧i=.int .i64 0)∨(i=.int .i64 1∧∃m:Nat,n=.int .i64 m∧(m=bulk l∨5000≤m)∧m≤500000000000000)
theorem jPe (l:List Pc)(v:Value)(g:Nat)(w:World)(hG:w.cell? ⟨g,0,none⟩=some v)(hv:jBe w v l)(hsz:∀x ∈ l,x.s.size≤140737488355328)(hll:l.length≤140737488355328) :
 Calls Tryz.prog 18 #[.slice (some ⟨g,0,none⟩) 1 1] w fun e w'=>jXY l e∧w'=w:=by
 obtain⟨p,cap,rfl,hl,hc,jA4⟩:=hv
 unfold maxLen at hc
 have ag:=Tryz.isAgg76
 have zg:=Tryz.sizeOf76
 have HR:=Lib.hid jA4
 have HSZ:=Lib.hid hsz
 clear jA4 hsz
 go_enter Tryz.func18,Tryz.ntmps18
 go_wp2
 go_loop [3,4] (fun n i=>jT8 l n i) (fun _ i=>1-(intOf i).toNat)
 case atStart=>exact .inl ⟨rfl,rfl⟩
 case round =>
  rcases hrel with ⟨rfl,rfl⟩ | ⟨rfl,m,rfl,hm,hmb⟩
  ·go_wp2
   go_loop [3,5] (fun n k=>∃j:Nat,j≤l.length∧k=.int .i64 j∧n=.int .i64 (cnt l j)∧Hid (cnt l j≤500000000000000)) (fun _ k=>l.length-(intOf k).toNat)
   case atStart=>exact⟨0,Nat.zero_le _,rfl,by rw[jLa],by show _≤_;rw[jLa];omega⟩
   case round =>
    obtain⟨j,hj,rfl,rfl,HN⟩:=hrel
    by_cases hlt:j<l.length
    ·by_cases h5:cnt l j<5000
     ·obtain⟨A,rfl,hA,jAj⟩:=HR.out (by omega)
      obtain⟨x0,x1,x2⟩:=jAU hA jAj hlt (Below.refl _ w)
      have hcs:=jPT l j hlt
      have hsb:=HSZ.out _ (jLx hlt)
      clear jAj x0 x2
      generalize l.getD j nil=x at x1 hcs hsb
      have h5i:(cnt l j:Int)<5000:=by omega
      have HCS:=Lib.hid hcs
      clear hcs
      generalize cnt l j=q at h5 h5i HCS
      go_wp2
      go_round
      case rel=>exact⟨j+1,by omega,by go_num,by rw[HCS.out];go_num,by show _≤_;rw[HCS.out];omega⟩
      case measure=>simp[intOf];omega
     ·have h5i:¬(cnt l j:Int)<5000:=by omega
      have HM:=Lib.hid (show jT8 l (.int .i64 (cnt l j)) (.int .i64 1) from .inr ⟨rfl,cnt l j,rfl,.inr (by omega),HN.out⟩)
      obtain⟨A,rfl,hA,jAj⟩:=HR.out (by omega)
      clear jAj
      generalize cnt l j=q at h5 h5i HM
      go_wp2
      go_round
      case rel=>exact HM.out
      case measure=>simp[intOf]
    ·have hjl:j=l.length:=by omega
     have HM:=Lib.hid (show jT8 l (.int .i64 (cnt l j)) (.int .i64 1) from .inr ⟨rfl,cnt l j,rfl,.inl (by rw[hjl,jSl]),HN.out⟩)
     generalize cnt l j=q at HM
     go_wp2
     go_round
     case rel=>exact HM.out
     case measure=>simp[intOf]
  ·have HM:=Lib.hid hm
   clear hm
   go_wp2
   go_ret
   exact⟨⟨_,rfl,fun h=>by simp at h;rcases HM.out with h' | h' <;> omega⟩,rfl⟩
end Go.Proofs.YtldapapdolkiaaaGreatDoor
