/- What the row's condition says of the listed tables and of the argument: the tables' cells, a list of pieces. DocsPieces returns true for any list of pieces, in every world that the row speaks of: which lists are valid, how they are written, and their texts, are what the specification tells; the layer's examples are a closed run. No condition but the row's own. -/
import Derived.Test.YtldapapdolkiaaaGreatDoorDqA
import Derived.Test.YtldapapdolkiaaaGreatDoorReads4
import Derived.Test.YtldapapdolkiaaaGreatDoorRows
import Derived.Lib.LaidU8T
import Derived.Deep.Slices
import Derived.ChangeSame
import Derived.SizedLaws
import Derived.Test.YtldapapdolkiaaaGreatDoorCards
import Derived.Test.YtldapapdolkiaaaGreatDoorTie
import Derived.Lib.LaidIn
import Derived.ProofKit
import Derived.OpenShut
import Derived.Carry
import Derived.Deep.DeepHandedRow
import Derived.Lib.LaidTab
namespace Go.Proofs.YtldapapdolkiaaaGreatDoor
open Go Go.RowKit Go.Lib
set_option maxRecDepth 100000
def clZ:List Int:=[0,0,0,0,0,0,0,0,0,0,0,0,0,0,0,0,0,0,0,0,0,0,0,0,0,0,0,0,0,0,0,0,3,4,4,4,4,4,4,4,4,4,4,4,4,4,4,4,2,2,2,2,2,2,2,2,2,2,4,4,4,4,4,4,4,1,1,1,1,1,1,1,1,1,1,1,1,1,1,1,1,1,1,1,1,1,1,1,1,1,1,4,4,4,4,4,4,1,1,1,1,1,1,1,1,1,1,1,1,1,1,1,1,1,1,1,1,1,1,1,1,1,1,4,4,4,4,0]
theorem jJb:clZ.map (fun z=>Value.int .u8 z)=clL:=by kernel_rfl
theorem jTX:ntA.toList=ntL:=by kernel_rfl
theorem jXB:∀c,c<128→(clZ.getD c 0=0↔ctl c=true):=by decide +kernel
theorem jIP {P:Program}{w:World}{n:String}{g:Nat}{cs:Array Value}(hg:P.globalNamed n=some g)(h:w.var? P n=some cs):∃t fr,w.heap[g]? = some (.cells cs t fr):=by
 simp only[World.var?,hg,Option.bind_some]at h
 split at h
 ·rename_i cs' t fr e
  cases h
  exact⟨t,fr,e⟩
 ·cases h
theorem jVF:(Rows.laid_truchman_docs_classes:DataW Unit)=tabData .u8 clZ:=by kernel_rfl
theorem jQl:(Rows.laid_unicode_utf8_first:DataW Unit)=firstData:=by kernel_rfl
theorem jWf:(Rows.laid_unicode_utf8_acceptRanges:DataW Unit)=acceptData:=by kernel_rfl
theorem jQa {w:World}(h:VarReads Tryz.prog w "truchman/docs.classes" (Rows.laid_truchman_docs_classes:DataW Unit)):∃cs t fr,w.heap[1]? = some (.cells cs t fr)∧cs.toList=clL:=by
 rw[jVF]at h
 obtain⟨g,t,cs,fuel,p,hg,hty,qA3,hd⟩:=h
 obtain rfl:=Option.some.inj ((show Tryz.prog.globalNamed "truchman/docs.classes" = some 1 by kernel_rfl).symm.trans hg)
 obtain rfl:=Option.some.inj ((show (Tryz.prog.globals[1]?).map (·.type)=some 220 by kernel_rfl).symm.trans hty)
 have hcs:=cells_of_tab Tryz.underlying220 Tryz.underlying186 (by kernel_rfl) (by kernel_rfl) hd
 obtain⟨t,fr,e⟩:=jIP hg qA3
 exact⟨cs,t,fr,e,by rw[hcs,jJb]⟩
theorem jZk {w:World}{cs:Array Value}{t:TypeId}{fr:Nat × Nat}(h:w.heap[1]? = some (.cells cs t fr))(e:cs.toList=clL):Cls w:=by
 intro c hc
 have hl:c<clZ.length:=hc
 refine⟨clZ.getD c 0,?_,jXB c hc⟩
 rw[Lib.cell_of_heap h c,←Array.getElem?_toList,e,←jJb,List.getElem?_map,List.getD_eq_getElem?_getD,List.getElem?_eq_getElem hl]
 rfl
section
variable {H:Type} {enc:TypeId × Value→H} {W:World} {base:Nat} {sp:Nat→Bool} {held:Bool}
theorem jFB {cs:List Value}{n:Nat}{v:Value}(h:(cs.drop n).take 1=[v]):cs[n]? = some v:=by
 have:=congrArg (·[0]?) h
 simpa [List.getElem?_take,List.getElem?_drop] using this
theorem jGZ {fuel:Nat}{cs:List Value}{a:Int}{b:Bool}{x y:List UInt8}{p:List MemPlace}(h:DataW.trod enc Tryz.prog W base sp held fuel 218 cs=some (.agg [.lit (.int .u8 a),.lit (.bool b),.lit (.string x),.lit (.string y)],p)) :
 cs=[.int .u8 a,.bool b,.string ⟨x.toArray⟩,.string ⟨y.toArray⟩]:=by
 obtain⟨xs,n,_,hx,hl,hxl,hf⟩:=DataW.trod_struct Tryz.underlying218 h
 have h4:cs.length=4:=hl.trans (by kernel_rfl)
 have hxs:xs.map (·.1)=[.lit (.int .u8 a),.lit (.bool b),.lit (.string x),.lit (.string y)]:=by
  have:=congrArg Prod.fst hx
  simpa using this.symm
 match xs,hxs with
 | [y0,y1,y2,y3],hxs =>
   simp at hxs
   obtain⟨e0,e1,e2,e3⟩:=hxs
   have f0:DataW.trod enc Tryz.prog W base sp held n 74 ((cs.drop 0).take (Tryz.prog.cellsOf 74))=some y0:=hf 0 _ rfl
   have f1:DataW.trod enc Tryz.prog W base sp held n 4 ((cs.drop 1).take (Tryz.prog.cellsOf 4))=some y1:=hf 1 _ rfl
   have f2:DataW.trod enc Tryz.prog W base sp held n 9 ((cs.drop 2).take (Tryz.prog.cellsOf 9))=some y2:=hf 2 _ rfl
   have f3:DataW.trod enc Tryz.prog W base sp held n 9 ((cs.drop 3).take (Tryz.prog.cellsOf 9))=some y3:=hf 3 _ rfl
   rw[show Tryz.prog.cellsOf 74=1 by kernel_rfl]at f0
   rw[show Tryz.prog.cellsOf 4=1 by kernel_rfl]at f1
   rw[show Tryz.prog.cellsOf 9=1 by kernel_rfl]at f2 f3
   obtain⟨z,c0,g0,_⟩:=DataW.trod_int Tryz.underlying74 f0
   obtain⟨z1,c1,g1⟩:=DataW.trod_bool Tryz.underlying4 f1
   obtain⟨z2,c2,g2,_⟩:=DataW.trod_string Tryz.underlying9 f2
   obtain⟨z3,c3,g3,_⟩:=DataW.trod_string Tryz.underlying9 f3
   rw[g0]at e0
   rw[g1]at e1
   rw[g2]at e2
   rw[g3]at e3
   simp at e0 e1 e2 e3
   subst e0 e1
   have k0:=jFB c0
   have k1:=jFB c1
   have k2:=jFB c2
   have k3:=jFB c3
   match cs,h4 with
   | [q0,q1,q2,q3],_ =>
     simp at k0 k1 k2 k3
     subst k0 k1 k2 k3
     subst e2 e3
     rfl
theorem jX1 {fuel:Nat}{cs:List Value}{d:DataW H}{p:List MemPlace}(h:DataW.trod enc Tryz.prog W base sp held fuel 76 cs=some (d,p)) :
 ∃x:Pc,cs=[.int .u8 x.k,.string x.s,.bool x.c]∧d=.agg [.lit (.int .u8 x.k),.lit (.string x.s.data.toList),.lit (.bool x.c)]:=by
 obtain⟨xs,n,_,hx,hl,hxl,hf⟩:=DataW.trod_struct Tryz.underlying76 h
 have h3:cs.length=3:=hl.trans (by kernel_rfl)
 have hx3:xs.length=3:=hxl
 match xs,hx3 with
 | [y0,y1,y2],_ =>
   have f0:DataW.trod enc Tryz.prog W base sp held n 74 ((cs.drop 0).take (Tryz.prog.cellsOf 74))=some y0:=hf 0 _ rfl
   have f1:DataW.trod enc Tryz.prog W base sp held n 9 ((cs.drop 1).take (Tryz.prog.cellsOf 9))=some y1:=hf 1 _ rfl
   have f2:DataW.trod enc Tryz.prog W base sp held n 4 ((cs.drop 2).take (Tryz.prog.cellsOf 4))=some y2:=hf 2 _ rfl
   rw[show Tryz.prog.cellsOf 74=1 by kernel_rfl]at f0
   rw[show Tryz.prog.cellsOf 9=1 by kernel_rfl]at f1
   rw[show Tryz.prog.cellsOf 4=1 by kernel_rfl]at f2
   obtain⟨z,c0,g0,_⟩:=DataW.trod_int Tryz.underlying74 f0
   obtain⟨z1,c1,g1,_⟩:=DataW.trod_string Tryz.underlying9 f1
   obtain⟨z2,c2,g2⟩:=DataW.trod_bool Tryz.underlying4 f2
   have hd:d=.agg [y0.1,y1.1,y2.1]:=by
    have:=congrArg Prod.fst hx
    simpa using this
   have k0:=jFB c0
   have k1:=jFB c1
   have k2:=jFB c2
   refine⟨⟨z,z1,z2⟩,?_,by rw[hd,g0,g1,g2]⟩
   match cs,h3 with
   | [q0,q1,q2],_ =>
     simp at k0 k1 k2
     subst k0 k1 k2
     rfl
theorem jDp {e:TypeId}{l:List (DataW H)}{d:DataW H}(hd:d ∈ l){n:Nat}(hn:n ∈ d.weights Tryz.prog e):n ∈ DataW.weightsAll Tryz.prog e l:=by
 induction l with
 | nil=>cases hd
 | cons x l ih =>
   simp only[DataW.weightsAll,List.mem_append]
   rcases List.mem_cons.1 hd with rfl | h
   ·exact .inl hn
   ·exact .inr (ih h)
theorem jO1 {fuel:Nat}{cs:List Value}{d:DataW H}{p:List MemPlace}(h:DataW.trod enc Tryz.prog W 0 sp held fuel 39 cs=some (d,p))
 (hw:∀n ∈ d.weights Tryz.prog 39,n≤reachBytes) :
 ∃ (l:List Pc) (v:Value),cs=[v]∧jBe W v l∧(∀x ∈ l,x.s.size≤140737488355328)∧l.length≤140737488355328:=by
 have hr:reachBytes≤140737488355328:=by decide
 rcases Go.Deep.open_slice Tryz.underlying39 h with ⟨rfl,_⟩ | ⟨a,len,cap,m,n,D,Pl,rfl,_,hl,hm,hmm,hx,hel⟩
 ·exact⟨[],_,rfl,⟨none,0,rfl,by simp,by simp,fun h=>absurd h (by simp)⟩,by simp,by simp⟩
 ·have hlm:len≤m:=by rw[hmm];split <;> omega
  have c3:Tryz.prog.cellsOf 76=3:=by kernel_rfl
  rw[c3]at hel
  have wl:∀ (x:Pc) (d:DataW H),d=.agg [.lit (.int .u8 x.k),.lit (.string x.s.data.toList),.lit (.bool x.c)]→x.s.data.toList.length ∈ d.weights Tryz.prog 76:=by
   rintro x d rfl
   simp[DataW.weights,Tryz.underlying76,DataW.weightsEach]
  have each:∀i:Fin len,∃x:Pc,(∃cs',W.cells? 0 (a.add (i.1*3)) 3=some cs'∧cs'=[.int .u8 x.k,.string x.s,.bool x.c])∧D i.1=.agg [.lit (.int .u8 x.k),.lit (.string x.s.data.toList),.lit (.bool x.c)]:=fun i=>by
   obtain⟨cs',h1,h2⟩:=hel i.1 (by have:=i.2;omega)
   obtain⟨x,hx1,hx2⟩:=jX1 h2
   exact⟨x,⟨cs',h1,hx1⟩,hx2⟩
  have hd:d=.slice ((List.range len).map D) ((List.range (m-len)).map fun j=>D (len+j)):=congrArg Prod.fst hx
  have hwl:∀n ∈ (((List.range len).map D).length+((List.range (m-len)).map fun j=>D (len+j)).length)*Tryz.prog.bytesOf 76 :: (DataW.weightsAll Tryz.prog 76 ((List.range len).map D)++DataW.weightsAll Tryz.prog 76 ((List.range (m-len)).map fun j=>D (len+j))),n≤reachBytes:=by
   intro n hn
   apply hw
   rw[hd]
   simp only[DataW.weights,Tryz.underlying39]
   exact hn
  refine⟨List.ofFn fun i=>Classical.choose (each i),_,rfl,⟨some a,cap,by simp,by simpa using hl,hm,fun h0=>⟨a,rfl,?_,?_⟩⟩,?_,?_⟩
  ·have h0':0<len:=by simpa using h0
   obtain⟨⟨cs',h1,hcs⟩,_⟩:=Classical.choose_spec (each ⟨0,h0'⟩)
   obtain⟨_,jBi,hcl⟩:=World.cells?_some h1
   have:=hcl 0 (by omega)
   rw[List.getElem?_eq_getElem (by omega)]at this
   have hb:=World.block_lt_of_cell? W _ this
   rwa [add_block,add_block]at hb
  ·intro i j hi hj
   have hi':i<len:=by simpa using hi
   obtain⟨⟨cs',h1,hcs⟩,_⟩:=Classical.choose_spec (each ⟨i,hi'⟩)
   obtain⟨_,jBi,hcl⟩:=World.cells?_some h1
   have e1:=hcl j hj
   rw[Go.Deep.add_add]at e1
   rw[e1,hcs]
   have hg:(List.ofFn fun i=>Classical.choose (each i)).getD i nil=Classical.choose (each ⟨i,hi'⟩):=by
    rw[List.getD_eq_getElem?_getD,List.getElem?_eq_getElem hi]
    simp
   unfold pcF
   rw[hg]
   match j,hj with
   | 0,_=>simp
   | 1,_=>simp
   | 2,_=>simp
  ·intro x hx
   obtain⟨i,hi,rfl⟩:=List.getElem_of_mem hx
   have hi':i<len:=by simpa using hi
   obtain⟨_,hD⟩:=Classical.choose_spec (each ⟨i,hi'⟩)
   have jFu:D i ∈ (List.range len).map D:=List.mem_map.2 ⟨i,List.mem_range.2 hi',rfl⟩
   have key:=hwl _ (List.mem_cons_of_mem _ (List.mem_append_left _ (jDp jFu (wl _ _ hD))))
   have e:(List.ofFn fun i=>Classical.choose (each i))[i]=Classical.choose (each ⟨i,hi'⟩):=by simp
   rw[e]
   rw[jBb]at key
   omega
  ·have key:=hwl _ (List.mem_cons_self ..)
   have hby:1≤Tryz.prog.bytesOf 76:=by decide +kernel
   simp only[List.length_map,List.length_range,List.length_ofFn]at key ⊢
   have:len*1≤(len+(m-len))*Tryz.prog.bytesOf 76:=Nat.mul_le_mul (by omega) hby
   omega
end
end Go.Proofs.YtldapapdolkiaaaGreatDoor
namespace Go.Proofs.YtldapapdolkiaaaGreatDoor
open Go Go.Eng Go.ChangeShapes Go.WideShapes Go.ChangeAt Go.ChangeMaps Go.RowKit Go.Lib
set_option maxRecDepth 100000
theorem own:ownKnob Tryz.prog.godebug=none:=by kernel_rfl
def jVH (h:Array Obj)(g:Nat)(vs:Array Value):Array Obj:=h.modify g fun
 | .cells _ t frozen=>.cells vs t frozen
 | o=>o
noncomputable def jUW (h:Array Obj):Array Obj :=
 jVH (jVH (jVH (jVH
  h
  0 ntA) 1 (clZ.map fun z=>Value.int .u8 z).toArray) 2 (firstTab.map fun z=>Value.int .u8 z).toArray) 3 ((List.range 16).flatMap fun i=>[Value.int .u8 (accLo i),Value.int .u8 (accHi i)]).toArray
noncomputable def jEP (os:Os):World :=
 { World.holding Tryz.prog os ⟨#[],#[],[]⟩ with heap:=jUW (World.holding Tryz.prog os ⟨#[],#[],[]⟩).heap }
theorem jWs:Tryz.prog.globals.size=5:=by kernel_rfl
theorem begunmore:decide (5<(begin Tryz.prog (fun _ _=>0) default).world.heap.size)=true:=by kernel_rfl
theorem blocks {W:World}(hs:W.ShapedOpen Tryz.prog):5≤W.heap.size:=by
 obtain⟨o,_,ho,_⟩:=hs.2 5 (by rw[jWs];exact Nat.le_refl _) (of_decide_eq_true begunmore)
 have:=(Array.getElem?_eq_some_iff.1 ho).1
 omega
theorem jKT:laidOutB Tryz.prog=true:=by kernel_rfl
theorem jUQ {w:World}(h:VarReads Tryz.prog w "truchman/docs.notations" (Rows.laid_truchman_docs_notations:DataW Unit)):∃cs t fr,w.heap[0]? = some (.cells cs t fr)∧cs=ntA:=by
 obtain⟨g,t,cs,fuel,p,hg,hty,qA3,hd⟩:=h
 obtain rfl:=Option.some.inj ((show Tryz.prog.globalNamed "truchman/docs.notations" = some 0 by kernel_rfl).symm.trans hg)
 obtain rfl:=Option.some.inj ((show (Tryz.prog.globals[0]?).map (·.type)=some 219 by kernel_rfl).symm.trans hty)
 obtain⟨t,fr,e⟩:=jIP hg qA3
 refine⟨cs,t,fr,e,?_⟩
 have el:=fun i hi=>array_elem Tryz.underlying219 hd i hi
 have c4:Tryz.prog.cellsOf 218=4:=by kernel_rfl
 have hl:cs.toList.length=24:=by
  cases fuel with
  | zero=>simp[DataW.trod]at hd
  | succ fuel =>
    simp only[DataW.trod,Tryz.underlying219]at hd
    split at hd
    ·rename_i hl
     rw[hl];kernel_rfl
    ·cases hd
 rw[c4]at el
 obtain⟨_,d0,_,q0,e0⟩:=el 0 (by omega)
 obtain⟨_,d1,_,q1,e1⟩:=el 1 (by omega)
 obtain⟨_,d2,_,q2,e2⟩:=el 2 (by omega)
 obtain⟨_,d3,_,q3,e3⟩:=el 3 (by omega)
 obtain⟨_,d4,_,q4,e4⟩:=el 4 (by omega)
 obtain⟨_,d5,_,q5,e5⟩:=el 5 (by omega)
 cases q0;cases q1;cases q2;cases q3;cases q4;cases q5
 have r0:=jGZ e0
 have r1:=jGZ e1
 have r2:=jGZ e2
 have r3:=jGZ e3
 have r4:=jGZ e4
 have r5:=jGZ e5
 apply Array.ext'
 generalize cs.toList=L at hl r0 r1 r2 r3 r4 r5
 have key:∀ (L:List Value),L.length=24→L=(L.drop (0*4)).take 4++((L.drop (1*4)).take 4++((L.drop (2*4)).take 4++((L.drop (3*4)).take 4++((L.drop (4*4)).take 4++(L.drop (5*4)).take 4)))):=by
  intro L hL
  match L,hL with
  | [a0,a1,a2,a3,a4,a5,a6,a7,a8,a9,b0,b1,b2,b3,b4,b5,b6,b7,b8,b9,c0,c1,c2,c3],_=>rfl
 rw[key L hl,r0,r1,r2,r3,r4,r5]
 rfl
theorem jXD {w:World}(h1:VarReads Tryz.prog w "unicode/utf8.first" (Rows.laid_unicode_utf8_first:DataW Unit))(h2:VarReads Tryz.prog w "unicode/utf8.acceptRanges" (Rows.laid_unicode_utf8_acceptRanges:DataW Unit)):Lib.Utf8Tabs (laysValid_ren.g 3) (laysValid_ren.g 4) w:=by
 rw[jQl]at h1
 rw[jWf]at h2
 exact utf8Tabs_of_readsT (U8Types.of196 laysValid) ⟨by kernel_rfl,by kernel_rfl,by kernel_rfl,by kernel_rfl,by kernel_rfl,by kernel_rfl,by kernel_rfl⟩ h1 h2
theorem tables {W:World}(h5:5≤W.heap.size)(hn:VarReads Tryz.prog W "truchman/docs.notations" (Rows.laid_truchman_docs_notations:DataW Unit))(hc:VarReads Tryz.prog W "truchman/docs.classes" (Rows.laid_truchman_docs_classes:DataW Unit))
 (h1:VarReads Tryz.prog W "unicode/utf8.first" (Rows.laid_unicode_utf8_first:DataW Unit)) (h2:VarReads Tryz.prog W "unicode/utf8.acceptRanges" (Rows.laid_unicode_utf8_acceptRanges:DataW Unit)) :
 Tabs W∧Nts W∧∀w',Below W.heap.size W w'→Calls Tryz.prog 10 #[] w' fun e w''=>e=.returned (.bool true)∧Below w'.heap.size w' w'':=by
 obtain⟨c0,t0,f0,e0,rfl⟩:=jUQ hn
 obtain⟨c1,t1,f1,e1,r1⟩:=jQa hc
 refine⟨⟨jZk e1 r1,jXD h1 h2,h5⟩,⟨h5,t0,f0,e0⟩,fun w' hb=>?_⟩
 exact jNT w' (Nat.le_trans h5 hb.size) (by rw[hb.block 0 (by omega)];exact e0) (by rw[hb.block 1 (by omega)];exact e1) jTX r1
end Go.Proofs.YtldapapdolkiaaaGreatDoor
