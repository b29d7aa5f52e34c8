/- Glue by the specification: what a part closes and opens between parts. Glue, by the specification. the guard on sizes, over several lists. each unit and each tag by itself, by the specification. the units of a list, by the specification. -/
import Derived.Test.YtldapapdolkiaaaGreatDoorGlB
import Derived.Test.YtldapapdolkiaaaGreatDoorDqA
namespace Go.Proofs.YtldapapdolkiaaaGreatDoor
open Go Go.RowKit Go.Lib
set_option maxRecDepth 100000
end Go.Proofs.YtldapapdolkiaaaGreatDoor
namespace Go.Proofs.YtldapapdolkiaaaGreatDoor
open Go Go.RowKit Go.Lib
set_option maxRecDepth 100000
end Go.Proofs.YtldapapdolkiaaaGreatDoor
namespace Go.Proofs.YtldapapdolkiaaaGreatDoor
open Go Go.RowKit Go.Lib
set_option maxRecDepth 100000
def LongsEnd (ps:List (List Pc))(e:Ending):Prop:=∃b,e=.returned (.bool b)∧(b=false→jCT ps≤2500)
def jWE (ps:List (List Pc))(i m:Nat):Prop:=(m=jCT (ps.take i)∨5000≤m)∧m≤i*300000000000000+5000
def jRw (ps:List (List Pc))(l:List Pc)(i j m:Nat):Prop:=(m=jCT (ps.take i)+cnt l j∨5000≤m)∧m≤i*300000000000000+150000000010000
theorem jWE.in {ps:List (List Pc)}{l:List Pc}{i m:Nat}(h:jWE ps i m)(hl:l.length≤140737488355328):jRw ps l i 0 (m+l.length):=by
 unfold jWE at h
 unfold jRw
 rw[jLa]
 omega
theorem jRw.step {ps:List (List Pc)}{l:List Pc}{i j m:Nat}(h:jRw ps l i j m)(hj:j<l.length)(hm:m<5000)(hs:(l.getD j nil).s.size≤140737488355328):jRw ps l i (j+1) (m+(l.getD j nil).s.size):=by
 unfold jRw at *
 rw[jPT l j hj]
 omega
theorem jRw.out {ps:List (List Pc)}{i m:Nat}(hi:i<ps.length)(h:jRw ps (ps.getD i []) i (ps.getD i []).length m):jWE ps (i+1) m:=by
 unfold jRw jWE at *
 rw[jSl]at h
 rw[jC7 hi]
 omega
theorem jRw.le {ps:List (List Pc)}{l:List Pc}{i j m:Nat}(h:jRw ps l i j m)(hi:i≤30):m≤10000000000000000:=by
 unfold jRw at h
 omega
theorem jWE.le {ps:List (List Pc)}{i m:Nat}(h:jWE ps i m)(hi:i≤30):m≤10000000000000000:=by
 unfold jWE at h
 omega
end Go.Proofs.YtldapapdolkiaaaGreatDoor
namespace Go.Proofs.YtldapapdolkiaaaGreatDoor
open Go Go.RowKit Go.Lib
set_option maxRecDepth 100000
theorem jD9 (r:Int):(Utf8.encode r).size≤4:=by
 unfold Utf8.encode
 dsimp only
 split <;> (try split) <;> (try split) <;> (try split) <;> simp[ByteArray.size]
def jFp (r:Nat):Pc:=⟨1,Utf8.encode (r:Int),false⟩
def unP (x:Pc):List Pc:=if x.k=1 then (jAi x.s).map jFp else [x]
def jB8 (l:List Pc)(k:Nat):List Pc:=(l.take k).flatMap unP
def jAh (l:List Pc):List Pc:=l.flatMap unP
theorem jW8 (x:Pc):(unP x).length≤x.s.size+1:=by
 unfold unP
 split
 ·rw[List.length_map]
  have:=jBc x.s.data.toList.length x.s.data.toList
  have h2:(jAi x.s).length≤x.s.size:=this
  omega
 ·simp
theorem jFo:∀l:List Pc,(l.flatMap unP).length≤bulk l
 | []=>by simp
 | x :: l=>by
   rw[List.flatMap_cons,List.length_append,jBY]
   have h1:=jFo l
   have h2:=jW8 x
   omega
end Go.Proofs.YtldapapdolkiaaaGreatDoor
namespace Go.Proofs.YtldapapdolkiaaaGreatDoor
open Go Go.RowKit Go.Lib
set_option maxRecDepth 100000
def unN (x:Pc):Nat:=if x.k=5 then 1 else if x.k=1 then (jAi x.s).length else 0
def jR5 (l:List Pc)(k:Nat):Nat:=((l.take k).map unN).sum
def jAW (l:List Pc):Nat:=(l.map unN).sum
theorem jZl (x:Pc):unN x≤x.s.size+1:=by
 unfold unN
 split
 ·omega
 ·split
  ·have h2:(jAi x.s).length≤x.s.size:=jBc _ _
   omega
  ·omega
theorem jHA:∀l:List Pc,(l.map unN).sum≤bulk l
 | []=>by simp
 | x :: l=>by
   rw[List.map_cons,List.sum_cons,jBY]
   have h1:=jHA l
   have h2:=jZl x
   omega
theorem jBV (w:World)(a b:Value)(t:TypeId):∀j u,[a,b][j]? = some u→(w.alloc (.cells #[a,b] t)).cell? ((⟨w.heap.size,0,none⟩:Addr).add j)=some u:=by
 intro j x hj
 match j,hj with
 | 0,hj=>simp at hj;subst hj;simp[Addr.add]
 | 1,hj=>simp at hj;subst hj;simp[Addr.add]
theorem one2 (a:Int)(c:Bool):∀u ∈ ([.int .i32 a,.bool c]:List Value),u.oneCell'=true:=by intro u hu;simp at hu;rcases hu with rfl | rfl <;> rfl
def jQR (B:Nat)(v:Value)(n:Nat)(w:World):Prop:=∃xs,w.ownsRow B 190 2 v n xs
theorem jQR.step {B:Nat}{v:Value}{n:Nat}{w w':World}(hb:Below w.heap.size w w')(h:jQR B v n w):jQR B v n w':=by
 obtain⟨xs,h⟩:=h
 exact⟨xs,jAZ hb h⟩
theorem jQR.form {B:Nat}{v:Value}{n:Nat}{w:World}(h:jQR B v n w):∃ao cap,v=.slice ao n cap:=by
 obtain⟨xs,h⟩:=h
 rcases h.2 with ⟨hv,h0⟩ | ⟨g,cap,cur,hv,_⟩
 ·subst h0
  exact⟨none,0,hv⟩
 ·exact⟨_,_,hv⟩
def unE (l:List Pc):Nat:=if jAu l=0 then jAW l else 0
end Go.Proofs.YtldapapdolkiaaaGreatDoor
