/- Segments as data. No run of any program here. A list of segments in memory. Which lists of segments are equal, as the specification tells it. Which lists of segments are too long to be tried. Restore as data: the segments of each block, whether they fit the document, the first error, the blocks. No run of any program here. What the row's condition says of an argument that is a list of segments. -/
import Derived.Test.YtldapapdolkiaaaGreatDoorDoA
import Derived.Test.YtldapapdolkiaaaGreatDoorBrA
import Derived.Test.YtldapapdolkiaaaGreatDoorRwA
import Derived.Test.YtldapapdolkiaaaGreatDoorDqA
import Derived.Test.YtldapapdolkiaaaGreatDoorGlB
import Derived.Test.YtldapapdolkiaaaGreatDoorDqB
import Derived.Deep.SlicePairs
namespace Go.Proofs.YtldapapdolkiaaaGreatDoor
open Go Go.RowKit Go.Lib
set_option maxRecDepth 100000
structure Sg where
 b:Int
 l:List Pc
def jCf:Sg:=⟨0,[]⟩
def plcs (R:List Rl)(l:List Pc):List Int:=(jGN R (jCa l)).map fun p:Nat=>(p:Int)
def jOY (R:List Rl)(b:Bk):Int:=if b.k=6 then 0 else ctE b.l (plcs R b.l)
def jXO (R:List Rl)(i:Nat)(b:Bk):List Sg:=if b.k=6 then [] else (ctR b.l (plcs R b.l)).map fun q=>⟨(i:Int),q⟩
def jDV (R:List Rl)(bs:List Bk):Nat→Int
 | 0=>0
 | k+1=>if jDV R bs k≠0 then jDV R bs k else jOY R (bs.getD k jBp)
def jBZ (R:List Rl)(bs:List Bk):Nat→List Sg
 | 0=>[]
 | k+1=>jBZ R bs k++jXO R k (bs.getD k jBp)
def sgE (bs:List Bk)(R:List Rl):Int:=if jFz bs≠0 then jFz bs else if jDw R≠0 then jDw R else jDV R bs bs.length
def sgL (bs:List Bk)(R:List Rl):List Sg:=if sgE bs R=0 then jBZ R bs bs.length else []
theorem jIo {R:List Rl}{bs:List Bk}{k:Nat}(h:jDV R bs k≠0):∀d,jDV R bs (k+d)=jDV R bs k
 | 0=>rfl
 | d+1=>by
   have ih:=jIo h d
   show jDV R bs (k+d+1)=_
   rw[jDV,ih,if_pos h]
theorem jGV {R:List Rl}{bs:List Bk}{k:Nat}(h:jDV R bs k=0):jDV R bs (k+1)=jOY R (bs.getD k jBp):=by rw[jDV,if_neg (by simp[h])]
theorem jSw {R:List Rl}{bs:List Bk}{k:Nat}(hk:k<bs.length)(h:jDV R bs k=0)(he:jOY R (bs.getD k jBp)≠0):jDV R bs bs.length=jOY R (bs.getD k jBp):=by
 have h1:=jGV h
 have h2:=jIo (R:=R) (bs:=bs) (k:=k+1) (by rw[h1];exact he) (bs.length-(k+1))
 rw[show bs.length=k+1+(bs.length-(k+1)) by omega,h2,h1]
end Go.Proofs.YtldapapdolkiaaaGreatDoor
namespace Go.Proofs.YtldapapdolkiaaaGreatDoor
open Go Go.RowKit
set_option maxRecDepth 100000
theorem jS0:(Tryz.prog.info? 41).map (fun i=>(i.zero,i.size,i.bytes))=some (some (.agg #[.int .i64 0,.slice none 0 0]),2,32):=by kernel_rfl
def sgF (bs:List Sg)(us:List Value)(i j:Nat):Value:=if j=0 then .int .i64 (bs.getD i jCf).b else us.getD i jJN
def jEy (w:World)(v:Value)(bs:List Sg):Prop :=
 ∃us:List Value,us.length=bs.length∧jAO w.heap.size w v bs.length 2 (sgF bs us)∧∀i,i<bs.length→jBe w (us.getD i jJN) (bs.getD i jCf).l
theorem jEy.step {w w':World}{v:Value}{bs:List Sg}(hb:Below w.heap.size w w')(h:jEy w v bs):jEy w' v bs:=by
 obtain⟨us,h1,h2,h3⟩:=h
 exact⟨us,h1,(jAO.below hb h2).mono hb.size,fun i hi=>(h3 i hi).step hb⟩
theorem jSO (w:World):jEy w (.slice none 0 0) []:=⟨[],rfl,⟨none,0,rfl,by simp,by simp,fun h=>absurd h (by simp)⟩,fun i hi=>absurd hi (by simp)⟩
def cells2g:List Sg→List Value→List Value
 | b :: bs,u :: us=>.int .i64 b.b :: u :: cells2g bs us
 | _,_=>[]
theorem jHC:∀ {bs:List Sg} {us:List Value},us.length=bs.length→(cells2g bs us).length=bs.length*2
 | [],[],_=>rfl
 | b :: bs,u :: us,h=>by
   have:=jHC (bs:=bs) (us:=us) (by simpa using h)
   simp only[cells2g,List.length_cons,this];omega
theorem jIe:∀ {bs:List Sg} {us:List Value} (b:Sg) (u:Value),us.length=bs.length→cells2g (bs++[b]) (us++[u])=cells2g bs us++[.int .i64 b.b,u]
 | [],[],_,_,_=>rfl
 | c :: bs,x :: us,b,u,h=>by
   have:=jIe (bs:=bs) (us:=us) b u (by simpa using h)
   simp only[List.cons_append,cells2g,this]
theorem jIN:∀ (bs:List Sg) (us:List Value) (i j:Nat),us.length=bs.length→i<bs.length→j<2→(cells2g bs us)[i*2+j]? = some (sgF bs us i j)
 | b :: bs,u :: us,0,j,_,_,hj=>by
   match j,hj with
   | 0,_=>rfl
   | 1,_=>rfl
 | b :: bs,u :: us,i+1,j,h,hi,hj=>by
   have:=jIN bs us i j (by simpa using h) (by simpa using hi) hj
   rw[show (i+1)*2+j=i*2+j+1+1 by omega]
   exact this
def jCr (B:Nat)(v:Value)(bs:List Sg)(w:World):Prop :=
 ∃us:List Value,us.length=bs.length∧w.ownsRow B 41 2 v bs.length (cells2g bs us)∧∀i,i<bs.length→jA7 0 (us.getD i jJN) (bs.getD i jCf).l w
theorem jCr.nil (B:Nat)(w:World):jCr B (.slice none 0 0) [] w:=⟨[],rfl,World.ownsRow_nil _ _ _ _,fun i hi=>absurd hi (by simp)⟩
theorem jCr.step {B:Nat}{v:Value}{bs:List Sg}{w w':World}(hb:Below w.heap.size w w')(h:jCr B v bs w):jCr B v bs w':=by
 obtain⟨us,h1,h2,h3⟩:=h
 exact⟨us,h1,jAZ hb h2,fun i hi=>(h3 i hi).step hb⟩
theorem jCr.form {B:Nat}{v:Value}{bs:List Sg}{w:World}(h:jCr B v bs w):∃ao cap,v=.slice ao bs.length cap:=by
 obtain⟨us,_,h,_⟩:=h
 rcases h.2 with ⟨hv,h0⟩ | ⟨g,cap,cur,hv,_⟩
 ·exact⟨none,0,by rw[hv,h0]⟩
 ·exact⟨_,_,hv⟩
theorem jCr.at {B:Nat}{v:Value}{bs:List Sg}{w:World}(h:jCr B v bs w):jEy w v bs:=by
 obtain⟨us,h1,h2,h3⟩:=h
 refine⟨us,h1,?_,fun i hi=>(h3 i hi).at⟩
 have hc:=h2
 rcases h2.2 with ⟨rfl,h0⟩ | ⟨g,cap,cur,rfl,hg,hh,hn,hm,_⟩
 ·exact⟨none,0,by rw[h0],by omega,by unfold maxLen;omega,fun h=>by omega⟩
 ·refine⟨some ⟨g,0,none⟩,cap,rfl,hn,hm,fun _=>⟨_,rfl,lt_of_block hh,fun i j hi hj=>?_⟩⟩
  exact World.ownsRow.cells hc (g:=g) rfl _ _ (jIN bs us i j h1 hi hj)
theorem jAm {w wr:World}{v:Value}{t:TypeId}(h:Below (w.heap.size+1) (w.alloc (.cells #[v] t)) wr):wr.cell? ⟨w.heap.size,0,none⟩=some v∧Below w.heap.size w wr :=
 ⟨(h.cell (p:=⟨w.heap.size,0,none⟩) (Nat.lt_succ_self _)).trans (jGg w v t).1,(jAb _).trans (h.mono (Nat.le_succ _))⟩
theorem jRm {w wr:World}{o:Obj}(h:Below (w.heap.size+1) (w.alloc o) wr):w.heap.size+1≤wr.heap.size:=by have:=h.size;simpa using this
theorem jAC {w wr w':World}{o:Obj}(h:Below (w.heap.size+1) (w.alloc o) wr)(hb:Below wr.heap.size wr w'):Below (w.heap.size+1) (w.alloc o) w':=h.trans (hb.mono (jRm h))
theorem jCW {B:Nat}{e:TypeId}{z n:Nat}{v:Value}{xs:List Value}{w:World}(h:w.ownsRow B e z v n xs):w.ownsRow 0 e z v n xs :=
 ⟨h.1,h.2.imp id fun ⟨g,cap,cur,e,_,r⟩=>⟨g,cap,cur,e,Nat.zero_le _,r⟩⟩
theorem jCr.more {B:Nat}{v v3 u:Value}{o:List Sg}{us:List Value}{b:Sg}{w w':World}(he:us.length=o.length)(ho:w.ownsRow B 41 2 v o.length (cells2g o us))(hp:∀i,i<o.length→jA7 0 (us.getD i jJN) (o.getD i jCf).l w)(hu:jA7 0 u b.l w)
 (hg:w.grownBy w' v.ownBlock) (h3:w'.ownsRow B 41 2 v3 (o.length+1) (cells2g o us++[.int .i64 b.b,u])):jCr B v3 (o++[b]) w':=by
 refine⟨us++[u],by simp[he],?_,fun i hi=>?_⟩
 ·rw[jIe b u he,List.length_append];exact h3
 ·by_cases hl:i<o.length
  ·have h1:(us++[u]).getD i jJN=us.getD i jJN:=by rw[List.getD_eq_getElem?_getD,List.getD_eq_getElem?_getD,List.getElem?_append_left (by omega)]
   have h2:(o++[b]).getD i jCf=o.getD i jCf:=by rw[List.getD_eq_getElem?_getD,List.getD_eq_getElem?_getD,List.getElem?_append_left hl]
   rw[h1,h2]
   exact (hp i hl).kept hg (jBX (hp i hl) (jCW ho) (by decide))
  ·have hl2:i=o.length:=by simp at hi;omega
   subst hl2
   have h1:(us++[u]).getD o.length jJN=u:=by rw[List.getD_eq_getElem?_getD,←he];simp
   have h2:(o++[b]).getD o.length jCf=b:=by rw[List.getD_eq_getElem?_getD];simp
   rw[h1,h2]
   exact hu.kept hg (jBX hu (jCW ho) (by decide))
end Go.Proofs.YtldapapdolkiaaaGreatDoor
namespace Go.Proofs.YtldapapdolkiaaaGreatDoor
open Go Go.RowKit
set_option maxRecDepth 100000
def jV6 (x y:Sg):Bool:=decide (x.b=y.b) && jRB x.l y.l
def eqG (bs cs:List Sg)(k:Nat):Prop:=∀i,i<k→jV6 (bs.getD i jCf) (cs.getD i jCf)=true
def jWV (bs cs:List Sg):Bool:=decide (bs.length=cs.length) && (List.range bs.length).all fun i=>jV6 (bs.getD i jCf) (cs.getD i jCf)
theorem jCS {w:World}{A:Addr}{bs:List Sg}{us:List Value}{k:Nat}{wr:World}(hA:A.block<w.heap.size)(jAj:∀i j,i<bs.length→j<2→w.cell? (A.add (i*2+j))=some (sgF bs us i j))(hlt:k<bs.length)(hb:Below w.heap.size w wr) :
 wr.cell? (A.add (k*2))=some (.int .i64 (bs.getD k jCf).b)∧wr.cell? { block:=(A.add (k*2)).block,off:=(A.add (k*2)).off+1 }=some (us.getD k jJN):=by
 have hAb:(A.add (k*2)).block<w.heap.size:=by rw[add_block];exact hA
 refine⟨?_,?_⟩
 ·rw[hb.cell hAb];have:=jAj k 0 hlt (by omega);simpa [sgF] using this
 ·rw[hb.cell (p:={ block:=(A.add (k*2)).block,off:=(A.add (k*2)).off+1 }) hAb];have:=jBq (by omega) (jAj k 1 hlt (by omega));simpa [sgF] using this
end Go.Proofs.YtldapapdolkiaaaGreatDoor
namespace Go.Proofs.YtldapapdolkiaaaGreatDoor
open Go Go.RowKit Go.Lib
set_option maxRecDepth 100000
def jVk (S:List Sg)(k:Nat):Nat:=((S.take k).map fun s=>1+s.l.length).sum
theorem jWl {S:List Sg}{k:Nat}(hk:k<S.length):S.getD k jCf ∈ S:=by
 rw[List.getD_eq_getElem?_getD,List.getElem?_eq_getElem hk];exact List.getElem_mem hk
def Few3 (S:List Sg):Prop:=S.length≤3000∧∀i,i<S.length→bulk (S.getD i jCf).l≤2500
def jXl (S:List Sg)(e:Ending):Prop:=∃b,e=.returned (.bool b)∧(b=false→Few3 S)
end Go.Proofs.YtldapapdolkiaaaGreatDoor
namespace Go.Proofs.YtldapapdolkiaaaGreatDoor
open Go Go.RowKit Go.Lib
set_option maxRecDepth 100000
def jAe (S:List Sg)(n:Nat):List (List Pc):=(S.filter fun s=>decide (s.b=(n:Int))).map Sg.l
theorem qBg (n:Nat):jAe [] n=[]:=rfl
theorem jKE (S:List Sg)(s:Sg)(n:Nat):jAe (S++[s]) n=if s.b=(n:Int) then jAe S n++[s.l] else jAe S n:=by
 unfold jAe
 rw[List.filter_append,List.map_append]
 by_cases h:s.b=(n:Int)
 ·rw[if_pos h];simp[h]
 ·rw[if_neg h];simp[h]
theorem jSa {S:List Sg}{n:Nat}{q:List Pc}(h:q ∈ jAe S n):∃s ∈ S,s.l=q∧s.b=(n:Int):=by
 unfold jAe at h
 obtain⟨s,hs,rfl⟩:=List.mem_map.1 h
 have h2:=List.mem_filter.1 hs
 exact⟨s,h2.1,rfl,by simpa using h2.2⟩
theorem jJk (S:List Sg)(n:Nat):(jAe S n).length≤S.length:=by
 unfold jAe
 rw[List.length_map]
 exact List.length_filter_le _ _
theorem qBJ {S:List Sg}{n:Nat}:jAe S n≠[]↔∃s ∈ S,s.b=(n:Int):=by
 constructor
 ·intro h
  obtain⟨q,hq⟩:=List.exists_mem_of_ne_nil _ h
  obtain⟨s,hs,_,hb⟩:=jSa hq
  exact⟨s,hs,hb⟩
 ·rintro ⟨s,hs,hb⟩ e
  have:s.l ∈ jAe S n:=List.mem_map.2 ⟨s,List.mem_filter.2 ⟨hs,by simpa using hb⟩,rfl⟩
  rw[e]at this
  cases this
def jLH (K:List Bk)(p:Int)(s:Sg):Bool:=decide (p≤s.b) && decide (s.b<(K.length:Int)) && decide ((K.getD s.b.toNat jBp).k≠6)
def jE5 (K:List Bk)(S:List Sg):Nat→Bool
 | 0=>true
 | k+1=>jE5 K S k && jLH K (if k=0 then 0 else (S.getD (k-1) jCf).b) (S.getD k jCf)
theorem jMq {K:List Bk}{S:List Sg}{k:Nat}(h:jE5 K S k=false):∀d,jE5 K S (k+d)=false
 | 0=>h
 | d+1=>by
   show (jE5 K S (k+d) && _)=false
   rw[jMq h d]
   rfl
theorem jMs {K:List Bk}{S:List Sg}{k:Nat}(hk:k<S.length)(h:jLH K (if k=0 then 0 else (S.getD (k-1) jCf).b) (S.getD k jCf)=false):jE5 K S S.length=false:=by
 have h1:jE5 K S (k+1)=false:=by show (_ && _)=false;rw[h,Bool.and_false]
 have h2:=jMq h1 (S.length-(k+1))
 rwa [show k+1+(S.length-(k+1))=S.length by omega]at h2
def jTr (K:List Bk)(S:List Sg)(n:Nat):Bool:=decide ((K.getD n jBp).k=6) || decide (jAe S n≠[])
def jFU (K:List Bk)(S:List Sg):Nat→Bool
 | 0=>true
 | k+1=>jFU K S k && jTr K S k
theorem jIM {K:List Bk}{S:List Sg}{k:Nat}(h:jFU K S k=false):∀d,jFU K S (k+d)=false
 | 0=>h
 | d+1=>by
   show (jFU K S (k+d) && _)=false
   rw[jIM h d]
   rfl
theorem jI6 {K:List Bk}{S:List Sg}{k:Nat}(hk:k<K.length)(h:jTr K S k=false):jFU K S K.length=false:=by
 have h1:jFU K S (k+1)=false:=by show (_ && _)=false;rw[h,Bool.and_false]
 have h2:=jIM h1 (K.length-(k+1))
 rwa [show k+1+(K.length-(k+1))=K.length by omega]at h2
def jJK (K:List Bk)(S:List Sg):Bool:=jE5 K S S.length && jFU K S K.length
def rbE (K:List Bk)(S:List Sg)(n:Nat):Int :=
 if (K.getD n jBp).k=6 then 0 else if jCA (jAe S n)≠0 then jCA (jAe S n) else if jC9 (jCb (jAe S n))=false then 8 else 0
def rbL (K:List Bk)(S:List Sg)(n:Nat):Bk:=if (K.getD n jBp).k=6 then K.getD n jBp else ⟨(K.getD n jBp).k,jCb (jAe S n)⟩
def jJU (K:List Bk)(S:List Sg):Nat→Int
 | 0=>0
 | k+1=>if jJU K S k≠0 then jJU K S k else rbE K S k
def jQB (K:List Bk)(S:List Sg)(k:Nat):List Bk:=(List.range k).map (rbL K S)
theorem jNb (K:List Bk)(S:List Sg)(k:Nat):jQB K S (k+1)=jQB K S k++[rbL K S k]:=by
 unfold jQB
 rw[List.range_succ,List.map_append]
 rfl
def rsE (K:List Bk)(S:List Sg):Int:=if jFz K≠0 then jFz K else if jJK K S=false then 1 else jJU K S K.length
def rsL (K:List Bk)(S:List Sg):List Bk:=if rsE K S=0 then jQB K S K.length else []
theorem jKC {K:List Bk}{S:List Sg}{k:Nat}(h:jJU K S k≠0):∀d,jJU K S (k+d)=jJU K S k
 | 0=>rfl
 | d+1=>by
   have ih:=jKC h d
   show jJU K S (k+d+1)=_
   rw[jJU,ih,if_pos h]
theorem jJB {K:List Bk}{S:List Sg}{k:Nat}(h:jJU K S k=0):jJU K S (k+1)=rbE K S k:=by rw[jJU,if_neg (by simp[h])]
theorem jV2 {K:List Bk}{S:List Sg}{k:Nat}(hk:k<K.length)(h:jJU K S k=0)(he:rbE K S k≠0):jJU K S K.length=rbE K S k:=by
 have h1:=jJB h
 have h2:=jKC (K:=K) (S:=S) (k:=k+1) (by rw[h1];exact he) (K.length-(k+1))
 rw[show K.length=k+1+(K.length-(k+1)) by omega,h2,h1]
theorem Few3.parts {S:List Sg}(h:Few3 S)(n:Nat):(jAe S n).length≤3000∧∀q ∈ jAe S n,bulk q≤2500:=by
 refine⟨Nat.le_trans (jJk S n) h.1,fun q hq=>?_⟩
 obtain⟨s,hs,rfl,_⟩:=jSa hq
 obtain⟨i,hi,rfl⟩:=List.getElem_of_mem hs
 have:=h.2 i hi
 rwa [List.getD_eq_getElem?_getD,List.getElem?_eq_getElem hi]at this
def FewR (S:List Sg):Prop:=S.length≤1000000∧∀n,(jAe S n).length≤3000∧jCT (jAe S n)≤8000000∧∀i,i<(jAe S n).length→bulk ((jAe S n).getD i [])≤100000
theorem jGy (n:Nat):∀ {ps:List (List Pc)},(∀q ∈ ps,bulk q≤n)→jCT ps≤ps.length*n
 | [],_=>by simp[jCT]
 | p :: ps,h=>by
   have h1:=jGy n (ps:=ps) fun q hq=>h q (List.mem_cons_of_mem _ hq)
   have h2:=h p List.mem_cons_self
   have e:jCT (p :: ps)=bulk p+jCT ps:=by simp[jCT]
   rw[e,List.length_cons,Nat.add_mul]
   omega
theorem Few3.rest {S:List Sg}(h:Few3 S):FewR S:=by
 refine⟨by have:=h.1;omega,fun n=>?_⟩
 obtain⟨h1,h2⟩:=h.parts n
 have h3:=jGy 2500 h2
 refine⟨h1,by omega,fun i hi=>?_⟩
 have:=h2 ((jAe S n).getD i []) (by rw[List.getD_eq_getElem?_getD,List.getElem?_eq_getElem hi];exact List.getElem_mem hi)
 omega
end Go.Proofs.YtldapapdolkiaaaGreatDoor
namespace Go.Proofs.YtldapapdolkiaaaGreatDoor
open Go Go.RowKit Go.Lib
set_option maxRecDepth 100000
structure jZp (bs:List Sg):Prop where
 nums:∀b ∈ bs,-9223372036854775808≤b.b∧b.b≤9223372036854775807
 sizes:∀b ∈ bs,(∀x ∈ b.l,x.s.size≤140737488355328)∧b.l.length≤140737488355328
 len:bs.length≤140737488355328
section
variable {H:Type} {enc:TypeId × Value→H} {W:World} {sp:Nat→Bool} {held:Bool}
end
end Go.Proofs.YtldapapdolkiaaaGreatDoor
