/- The specification's patterns and units in memory; how many units a pattern takes. The specification's questions about a unit. The specification's questions about a unit: inWord, mark. The specification's units in memory; its edge. The specification's test of one unit. The specification's units of a list, with what they are. The specification's items of a pattern. Whether items fit the units behind a place, by the specification. The first error of break rules, by the specification. -/
import Derived.Test.YtldapapdolkiaaaGreatDoorBrE
namespace Go.Proofs.YtldapapdolkiaaaGreatDoor
open Go Go.RowKit Go.Lib
set_option maxRecDepth 100000
def fF (X:List Ft)(i j:Nat):Value:=if j=0 then .bool (X.getD i jFm).c else .int .i32 ((X.getD i jFm).r:Int)
def jRi (w:World)(v:Value)(X:List Ft):Prop:=jAO w.heap.size w v X.length 2 (fF X)
theorem jRi.step {w w':World}{v:Value}{X:List Ft}(hb:Below w.heap.size w w')(h:jRi w v X):jRi w' v X:=(jAO.below hb h).mono hb.size
theorem jRi.form {w:World}{v:Value}{X:List Ft}(h:jRi w v X):∃p cap,v=.slice p X.length cap∧X.length≤cap∧cap≤maxLen:=by
 obtain⟨p,cap,e,h1,h2,_⟩:=h
 exact⟨p,cap,e,h1,h2⟩
theorem jRi.get {w:World}{p:Option Addr}{n cap:Nat}{X:List Ft}(h:jRi w (.slice p n cap) X){i:Nat}(hi:i<X.length):∃A,p=some A∧w.cell? (A.add (i*2))=some (.bool (X.getD i jFm).c)∧w.cell? { block:=(A.add (i*2)).block,off:=(A.add (i*2)).off+1 }=some (.int .i32 ((X.getD i jFm).r:Int)):=by
 obtain⟨p',cap',e,_,_,h3⟩:=h
 injection e with e1 e2 e3
 subst e1
 obtain⟨A,rfl,hA,hc⟩:=h3 (by omega)
 exact⟨A,rfl,hc i 0 hi (by omega),jBq (by omega) (hc i 1 hi (by omega))⟩
end Go.Proofs.YtldapapdolkiaaaGreatDoor
namespace Go.Proofs.YtldapapdolkiaaaGreatDoor
open Go Go.RowKit Go.Lib
set_option maxRecDepth 100000
def suV (u:Un):Value:=.agg #[.int .i32 (u.r:Int),.bool u.h]
end Go.Proofs.YtldapapdolkiaaaGreatDoor
namespace Go.Proofs.YtldapapdolkiaaaGreatDoor
open Go Go.RowKit Go.Lib
set_option maxRecDepth 100000
end Go.Proofs.YtldapapdolkiaaaGreatDoor
namespace Go.Proofs.YtldapapdolkiaaaGreatDoor
open Go Go.RowKit Go.Lib
set_option maxRecDepth 100000
def suF (L:List Un)(i j:Nat):Value:=if j=0 then .int .i32 ((L.getD i jFs).r:Int) else .bool (L.getD i jFs).h
def jRy (w:World)(v:Value)(L:List Un):Prop:=jAO w.heap.size w v L.length 2 (suF L)
theorem jRy.step {w w':World}{v:Value}{L:List Un}(hb:Below w.heap.size w w')(h:jRy w v L):jRy w' v L:=(jAO.below hb h).mono hb.size
theorem jRy.get {w:World}{p:Option Addr}{n cap:Nat}{L:List Un}(h:jRy w (.slice p n cap) L){i:Nat}(hi:i<L.length):∃A,p=some A∧A.block<w.heap.size∧w.cell? (A.add (i*2))=some (.int .i32 ((L.getD i jFs).r:Int))∧w.cell? { block:=(A.add (i*2)).block,off:=(A.add (i*2)).off+1 }=some (.bool (L.getD i jFs).h):=by
 obtain⟨p',cap',e,_,_,h3⟩:=h
 injection e with e1 e2 e3
 subst e1
 obtain⟨A,rfl,hA,hc⟩:=h3 (by omega)
 exact⟨A,rfl,hA,hc i 0 hi (by omega),jBq (by omega) (hc i 1 hi (by omega))⟩
theorem jRy.form {w:World}{v:Value}{L:List Un}(h:jRy w v L):∃p cap,v=.slice p L.length cap∧L.length≤cap∧cap≤maxLen:=by
 obtain⟨p,cap,e,h1,h2,_⟩:=h
 exact⟨p,cap,e,h1,h2⟩
end Go.Proofs.YtldapapdolkiaaaGreatDoor
namespace Go.Proofs.YtldapapdolkiaaaGreatDoor
open Go Go.RowKit Go.Lib
set_option maxRecDepth 100000
end Go.Proofs.YtldapapdolkiaaaGreatDoor
namespace Go.Proofs.YtldapapdolkiaaaGreatDoor
open Go Go.RowKit Go.Lib
set_option maxRecDepth 100000
theorem jWS {B sz n:Nat}{t:TypeId}{v:Value}{xs:List Value}{w:World}{f:Nat→Nat→Value}(h:w.ownsRow B t sz v n xs)(hx:∀i j,i<n→j<sz→xs[i*sz+j]? = some (f i j)):jAO w.heap.size w v n sz f:=by
 have hc:=h
 rcases h.2 with ⟨rfl,h0⟩ | ⟨g,cap,cur,rfl,hg,hh,hn,hm,_⟩
 ·exact⟨none,0,by rw[h0],by omega,by unfold maxLen;omega,fun h=>by omega⟩
 ·exact⟨some ⟨g,0,none⟩,cap,rfl,hn,hm,fun _=>⟨_,rfl,lt_of_block hh,fun i j hi hj=>World.ownsRow.cells hc (g:=g) rfl _ _ (hx i j hi hj)⟩⟩
theorem jLb {α:Type}(g:α→List Value)(sz:Nat)(hg:∀a,(g a).length=sz)(d:α):∀ (us:List α) (i j:Nat),i<us.length→j<sz→(us.flatMap g)[i*sz+j]? = (g (us.getD i d))[j]?
 | [],i,j,hi,hj=>by cases hi
 | u :: us,0,j,_,hj=>by
   rw[List.flatMap_cons,Nat.zero_mul,Nat.zero_add,List.getElem?_append_left (by rw[hg];exact hj)]
   rfl
 | u :: us,i+1,j,hi,hj=>by
   have h:=jLb g sz hg d us i j (by rw[List.length_cons]at hi;omega) hj
   have e:(i+1)*sz+j=sz+(i*sz+j):=by rw[Nat.succ_mul];omega
   rw[List.flatMap_cons,List.getElem?_append_right (by rw[hg];omega),hg,e,show sz+(i*sz+j)-sz=i*sz+j by omega,h]
   rfl
def jGO (L:List Un):List Value:=L.flatMap fun u=>[.int .i32 (u.r:Int),.bool u.h]
theorem jOv (L:List Un)(r:Nat)(h:Bool):jGO (L++[⟨r,h⟩])=jGO L++[.int .i32 (r:Int),.bool h]:=by unfold jGO;rw[List.flatMap_append];rfl
def jDB (B:Nat)(v:Value)(L:List Un)(w:World):Prop:=w.ownsRow B 190 2 v L.length (jGO L)
theorem jDB.step {B:Nat}{v:Value}{L:List Un}{w w':World}(hb:Below w.heap.size w w')(h:jDB B v L w):jDB B v L w':=jAZ hb h
theorem jDB.form {B:Nat}{v:Value}{L:List Un}{w:World}(h:jDB B v L w):∃ao cap,v=.slice ao L.length cap:=by
 rcases h.2 with ⟨hv,h0⟩ | ⟨g,cap,cur,hv,_⟩
 ·exact⟨none,0,by rw[hv,h0]⟩
 ·exact⟨_,_,hv⟩
theorem jDB.more {B:Nat}{v:Value}{L:List Un}{r:Nat}{h:Bool}{w:World}(hr:w.ownsRow B 190 2 v (L.length+1) (jGO L++[.int .i32 (r:Int),.bool h])):jDB B v (L++[⟨r,h⟩]) w:=by
 unfold jDB
 rw[jOv,List.length_append,List.length_singleton]
 exact hr
theorem jDB.at {B:Nat}{v:Value}{L:List Un}{w:World}(h:jDB B v L w):jRy w v L:=by
 refine jWS h fun i j hi hj=>?_
 unfold jGO
 rw[jLb _ 2 (fun _=>rfl) jFs L i j hi hj]
 match j,hj with
 | 0,_=>rfl
 | 1,_=>rfl
def jGE (l:List Pc)(k:Nat):List Un:=(l.take k).flatMap jWK
def unR (r:Nat):Un:=⟨r,false⟩
end Go.Proofs.YtldapapdolkiaaaGreatDoor
namespace Go.Proofs.YtldapapdolkiaaaGreatDoor
open Go Go.RowKit Go.Lib
set_option maxRecDepth 100000
def jHb (X:List Ft):List Value:=X.flatMap fun x=>[.bool x.c,.int .i32 (x.r:Int)]
theorem jNK (X:List Ft)(c:Bool)(r:Nat):jHb (X++[⟨c,r⟩])=jHb X++[.bool c,.int .i32 (r:Int)]:=by unfold jHb;rw[List.flatMap_append];rfl
def jDW (B:Nat)(v:Value)(X:List Ft)(w:World):Prop:=w.ownsRow B 208 2 v X.length (jHb X)
theorem jDW.form {B:Nat}{v:Value}{X:List Ft}{w:World}(h:jDW B v X w):∃ao cap,v=.slice ao X.length cap:=by
 rcases h.2 with ⟨hv,h0⟩ | ⟨g,cap,cur,hv,_⟩
 ·exact⟨none,0,by rw[hv,h0]⟩
 ·exact⟨_,_,hv⟩
theorem jDW.more {B:Nat}{v:Value}{X:List Ft}{c:Bool}{r:Nat}{w:World}(hr:w.ownsRow B 208 2 v (X.length+1) (jHb X++[.bool c,.int .i32 (r:Int)])):jDW B v (X++[⟨c,r⟩]) w:=by
 unfold jDW
 rw[jNK,List.length_append,List.length_singleton]
 exact hr
theorem jDW.at {B:Nat}{v:Value}{X:List Ft}{w:World}(h:jDW B v X w):jRi w v X:=by
 refine jWS h fun i j hi hj=>?_
 unfold jHb
 rw[jLb _ 2 (fun _=>rfl) jFm X i j hi hj]
 match j,hj with
 | 0,_=>rfl
 | 1,_=>rfl
def jRS (s:ByteArray)(w:World)(e:Ending)(w':World):Prop:=(∃u,e=.returned (.tuple #[u,.bool (jGm s).isSome])∧jRi w' u (items s))∧Below w.heap.size w w'
end Go.Proofs.YtldapapdolkiaaaGreatDoor
namespace Go.Proofs.YtldapapdolkiaaaGreatDoor
open Go Go.RowKit Go.Lib
set_option maxRecDepth 100000
theorem jIY (w:World)(n:Nat):Below w.heap.size w (w.drewN n):=⟨rfl,rfl,rfl,Nat.le_refl _,fun _ _=>rfl⟩
end Go.Proofs.YtldapapdolkiaaaGreatDoor
namespace Go.Proofs.YtldapapdolkiaaaGreatDoor
open Go Go.RowKit Go.Lib
set_option maxRecDepth 100000
def two (b a:ByteArray)(j:Nat):ByteArray:=if j=0 then b else a
end Go.Proofs.YtldapapdolkiaaaGreatDoor
