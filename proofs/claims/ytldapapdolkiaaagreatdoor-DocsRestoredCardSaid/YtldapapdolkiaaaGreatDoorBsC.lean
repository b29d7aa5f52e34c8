/- Whether there is a break at a place, by the specification. Breaks and Fits, by the specification. Fits, by the specification. The guard on rules; two lists of numbers compared. Break rules as arguments, opened; the table of classes in full. -/
import Derived.Test.YtldapapdolkiaaaGreatDoorBsA
import Derived.Test.YtldapapdolkiaaaGreatDoorBrE
import Derived.Test.YtldapapdolkiaaaGreatDoorDqB
namespace Go.Proofs.YtldapapdolkiaaaGreatDoor
set_option maxHeartbeats 64000000
open Go Go.RowKit Go.Lib
set_option maxRecDepth 100000
end Go.Proofs.YtldapapdolkiaaaGreatDoor
namespace Go.Proofs.YtldapapdolkiaaaGreatDoor
set_option maxHeartbeats 64000000
open Go Go.RowKit Go.Lib
set_option maxRecDepth 100000
def brF (R:List Rl)(L:List Un)(p:Nat):Bool:=decide (0<p) && jCp R L p
end Go.Proofs.YtldapapdolkiaaaGreatDoor
namespace Go.Proofs.YtldapapdolkiaaaGreatDoor
set_option maxHeartbeats 64000000
open Go Go.RowKit Go.Lib
set_option maxRecDepth 100000
end Go.Proofs.YtldapapdolkiaaaGreatDoor
namespace Go.Proofs.YtldapapdolkiaaaGreatDoor
set_option maxHeartbeats 64000000
open Go Go.RowKit Go.Lib
set_option maxRecDepth 100000
def rlB (x:Rl):Nat:=x.b.size+x.a.size
def jKZ (R:List Rl)(k:Nat):Nat:=R.length+((R.take k).map rlB).sum
theorem jMg {R:List Rl}{k:Nat}(h:k<R.length):jKZ R (k+1)=jKZ R k+rlB (R.getD k jHI):=by
 unfold jKZ
 rw[List.take_add_one,List.getElem?_eq_getElem h,List.map_append,List.sum_append,List.getD_eq_getElem?_getD,List.getElem?_eq_getElem h]
 simp
 omega
theorem jSD {R:List Rl}(hz:∀x ∈ R,x.b.size≤140737488355328∧x.a.size≤140737488355328):∀k,k≤R.length→jKZ R k≤R.length+k*281474976710656
 | 0,_=>by simp[jKZ]
 | k+1,hk=>by
   have h1:=jSD hz k (by omega)
   have h2:=hz (R.getD k jHI) (by rw[List.getD_eq_getElem?_getD,List.getElem?_eq_getElem (by omega)];exact List.getElem_mem _)
   rw[jMg (by omega)]
   unfold rlB
   omega
theorem jX7 {l:List Nat}{n:Nat}(h:n ∈ l):n≤l.sum:=by
 induction l with
 | nil=>cases h
 | cons a l ih =>
   rw[List.sum_cons]
   rcases List.mem_cons.1 h with rfl | h
   ·omega
   ·have:=ih h;omega
theorem jXi {R:List Rl}(h:jKZ R (min 100 R.length)≤600):SzR R:=by
 intro hl x hx
 rw[Nat.min_eq_right (by omega)]at h
 unfold jKZ at h
 rw[List.take_length]at h
 have:=jX7 (List.mem_map.2 ⟨x,hx,rfl⟩:rlB x ∈ R.map rlB)
 unfold rlB at this h
 omega
def jT9 (R:List Rl)(e:Ending):Prop:=e=.returned (.bool (decide (600<jKZ R (min 100 R.length))))
theorem jQ8 (R:List Rl)(v:Value)(w:World)(hv:jB5 w v R)(hz:∀x ∈ R,x.b.size≤140737488355328∧x.a.size≤140737488355328)(hl:R.length≤140737488355328) :
 Calls Tryz.prog 8 #[v] w fun e w'=>jT9 R e∧Below w.heap.size w w':=by
 have ar:=Tryz.isAgg72
 have zr:=Tryz.sizeOf72
 have HV:=hid hv
 have HZ:=hid (fun k hk=>@jSD R hz k hk)
 obtain⟨p,cap,rfl,hlc,hc,jA4⟩:=hv
 clear jA4 hz
 unfold maxLen at hc
 go_enter Tryz.func8,Tryz.ntmps8
 go_wp2
 go_loopw [3,4] (fun n i wr=>∃k:Nat,i=.int .i64 k∧n=.int .i64 (jKZ R k:Nat)∧k≤R.length∧k≤100∧Hid (Below w.heap.size w wr)) (fun _ i _=>R.length-(RowKit.intOf i).toNat)
 case atStart=>exact⟨0,rfl,by simp[jKZ],Nat.zero_le _,Nat.zero_le _,Below.refl _ _⟩
 case round =>
  obtain⟨k,rfl,rfl,hk,hk2,HB⟩:=hrel
  by_cases hlt:k<R.length
  ·have hki:(k:Int)<(R.length:Int):=by omega
   have hk0:(0:Int)≤(k:Int):=by omega
   by_cases qAT:k<100
   ·have h100I:(k:Int)<100:=by omega
    obtain⟨A,rfl,x0,x1,x2⟩:=(HV.out.step HB.out).get hlt
    have hsz:=HZ.out (k+1) (by omega)
    have hS:=jMg hlt
    unfold rlB at hS
    clear x2
    obtain⟨m2,hm2⟩:∃m2,m2=jKZ R (k+1):=⟨_,rfl⟩
    rw[←hm2]at hsz hS
    have HM2:=hid hm2
    clear hm2
    generalize jKZ R k=m at *
    generalize R.getD k jHI=x at *
    obtain⟨xb,xa,xk⟩:=x
    dsimp only at x0 x1 hS
    have h1:IntKind.i64.wrap ((m:Int)+(xb.size:Int))=((m+xb.size:Nat):Int):=by rw[IntKind.wrap_i64];omega
    have h2:IntKind.i64.wrap (((m+xb.size:Nat):Int)+(xa.size:Int))=(m2:Int):=by rw[IntKind.wrap_i64];omega
    go_wp2
    go_quiet (fail)
    go_wp2
    go_roundw
    case rel=>exact⟨k+1,by go_num,by rw[←HM2.out];go_num,by omega,by omega,jAa HB.out (jIY _ _)⟩
    case measure=>simp[RowKit.intOf];omega
   ·obtain rfl:k=100:=by omega
    have HE:=hid (show jKZ R (min 100 R.length)=jKZ R 100 by rw[Nat.min_eq_left (by omega)])
    go_wp2
    go_ret
    exact⟨jAc (by rw[HE.out];simp;omega),HB.out⟩
  ·have hki:¬(k:Int)<(R.length:Int):=by omega
   obtain rfl:k=R.length:=by omega
   have HE:=hid (show jKZ R (min 100 R.length)=jKZ R R.length by rw[Nat.min_eq_right (by omega)])
   go_wp2
   go_ret
   exact⟨jAc (by rw[HE.out];simp;omega),HB.out⟩
end Go.Proofs.YtldapapdolkiaaaGreatDoor
namespace Go.Proofs.YtldapapdolkiaaaGreatDoor
set_option maxHeartbeats 64000000
open Go Go.Eng Go.ChangeShapes Go.WideShapes Go.ChangeAt Go.ChangeMaps Go.RowKit Go.Lib
set_option maxRecDepth 100000
theorem clZ_R:∀c,c<128→clZ.getD c 0=jH4 c:=by decide +kernel
theorem jXS {w:World}(h:VarReads Tryz.prog w "truchman/docs.classes" (Rows.laid_truchman_docs_classes:DataW Unit)):jGn jH4 w:=by
 obtain⟨cs,t,fr,e,r⟩:=jQa h
 intro c hc
 have hl:c<clZ.length:=hc
 rw[←clZ_R c hc,Lib.cell_of_heap e c,←Array.getElem?_toList,r,←jJb,List.getElem?_map,List.getD_eq_getElem?_getD,List.getElem?_eq_getElem hl]
 rfl
section
variable {H:Type} {enc:TypeId × Value→H} {W:World} {base:Nat} {sp:Nat→Bool} {held:Bool}
theorem jYm {fuel:Nat}{cs:List Value}{d:DataW H}{p:List MemPlace}(h:DataW.trod enc Tryz.prog W base sp held fuel 72 cs=some (d,p)) :
 ∃x:Rl,cs=[.string x.b,.string x.a,.bool x.k]∧d=.agg [.lit (.string x.b.data.toList),.lit (.string x.a.data.toList),.lit (.bool x.k)]:=by
 obtain⟨xs,n,_,hx,hl,hxl,hf⟩:=DataW.trod_struct Tryz.underlying72 h
 have h3:cs.length=3:=hl.trans (by kernel_rfl)
 have hx3:xs.length=3:=hxl
 match xs,hx3 with
 | [y0,y1,y2],_ =>
   have f0:DataW.trod enc Tryz.prog W base sp held n 9 ((cs.drop 0).take (Tryz.prog.cellsOf 9))=some y0:=hf 0 _ rfl
   have f1:DataW.trod enc Tryz.prog W base sp held n 9 ((cs.drop 1).take (Tryz.prog.cellsOf 9))=some y1:=hf 1 _ rfl
   have f2:DataW.trod enc Tryz.prog W base sp held n 4 ((cs.drop 2).take (Tryz.prog.cellsOf 4))=some y2:=hf 2 _ rfl
   rw[show Tryz.prog.cellsOf 9=1 by kernel_rfl]at f0 f1
   rw[show Tryz.prog.cellsOf 4=1 by kernel_rfl]at f2
   obtain⟨z,c0,g0,_⟩:=DataW.trod_string Tryz.underlying9 f0
   obtain⟨z1,c1,g1,_⟩:=DataW.trod_string Tryz.underlying9 f1
   obtain⟨z2,c2,g2⟩:=DataW.trod_bool Tryz.underlying4 f2
   have hd:d=.agg [y0.1,y1.1,y2.1]:=by
    have:=congrArg Prod.fst hx
    simpa using this
   have k0:=jFB c0
   have k1:=jFB c1
   have k2:=jFB c2
   refine⟨⟨z,z1,z2⟩,?_,by rw[hd,g0,g1,g2]⟩
   match cs,h3 with
   | [q0,q1,q2],_ =>
     simp at k0 k1 k2
     subst k0 k1 k2
     rfl
theorem jQ6 {fuel:Nat}{cs:List Value}{d:DataW H}{p:List MemPlace}(h:DataW.trod enc Tryz.prog W 0 sp held fuel 25 cs=some (d,p))
 (hw:∀n ∈ d.weights Tryz.prog 25,n≤reachBytes) :
 ∃ (l:List Rl) (v:Value),cs=[v]∧jB5 W v l∧(∀x ∈ l,x.b.size≤140737488355328∧x.a.size≤140737488355328)∧l.length≤140737488355328:=by
 have hr:reachBytes≤140737488355328:=by decide
 rcases Go.Deep.open_slice Tryz.underlying25 h with ⟨rfl,_⟩ | ⟨a,len,cap,m,n,D,Pl,rfl,_,hl,hm,hmm,hx,hel⟩
 ·exact⟨[],_,rfl,⟨none,0,rfl,by simp,by simp,fun h=>absurd h (by simp)⟩,by simp,by simp⟩
 ·have hlm:len≤m:=by rw[hmm];split <;> omega
  have c3:Tryz.prog.cellsOf 72=3:=by kernel_rfl
  rw[c3]at hel
  have wl:∀ (x:Rl) (d:DataW H),d=.agg [.lit (.string x.b.data.toList),.lit (.string x.a.data.toList),.lit (.bool x.k)]→x.b.data.toList.length ∈ d.weights Tryz.prog 72∧x.a.data.toList.length ∈ d.weights Tryz.prog 72:=by
   rintro x d rfl
   simp[DataW.weights,Tryz.underlying72,DataW.weightsEach]
  have each:∀i:Fin len,∃x:Rl,(∃cs',W.cells? 0 (a.add (i.1*3)) 3=some cs'∧cs'=[.string x.b,.string x.a,.bool x.k])∧D i.1=.agg [.lit (.string x.b.data.toList),.lit (.string x.a.data.toList),.lit (.bool x.k)]:=fun i=>by
   obtain⟨cs',h1,h2⟩:=hel i.1 (by have:=i.2;omega)
   obtain⟨x,hx1,hx2⟩:=jYm h2
   exact⟨x,⟨cs',h1,hx1⟩,hx2⟩
  have hd:d=.slice ((List.range len).map D) ((List.range (m-len)).map fun j=>D (len+j)):=congrArg Prod.fst hx
  have hwl:∀n ∈ (((List.range len).map D).length+((List.range (m-len)).map fun j=>D (len+j)).length)*Tryz.prog.bytesOf 72 :: (DataW.weightsAll Tryz.prog 72 ((List.range len).map D)++DataW.weightsAll Tryz.prog 72 ((List.range (m-len)).map fun j=>D (len+j))),n≤reachBytes:=by
   intro n hn
   apply hw
   rw[hd]
   simp only[DataW.weights,Tryz.underlying25]
   exact hn
  refine⟨List.ofFn fun i=>Classical.choose (each i),_,rfl,⟨some a,cap,by simp,by simpa using hl,hm,fun h0=>⟨a,rfl,?_,?_⟩⟩,?_,?_⟩
  ·have h0':0<len:=by simpa using h0
   obtain⟨⟨cs',h1,hcs⟩,_⟩:=Classical.choose_spec (each ⟨0,h0'⟩)
   obtain⟨_,jBi,hcl⟩:=World.cells?_some h1
   have:=hcl 0 (by omega)
   rw[List.getElem?_eq_getElem (by omega)]at this
   have hb:=World.block_lt_of_cell? W _ this
   rwa [add_block,add_block]at hb
  ·intro i j hi hj
   have hi':i<len:=by simpa using hi
   obtain⟨⟨cs',h1,hcs⟩,_⟩:=Classical.choose_spec (each ⟨i,hi'⟩)
   obtain⟨_,jBi,hcl⟩:=World.cells?_some h1
   have e1:=hcl j hj
   rw[Go.Deep.add_add]at e1
   rw[e1,hcs]
   have hg:(List.ofFn fun i=>Classical.choose (each i)).getD i jHI=Classical.choose (each ⟨i,hi'⟩):=by
    rw[List.getD_eq_getElem?_getD,List.getElem?_eq_getElem hi]
    simp
   unfold rF
   rw[hg]
   match j,hj with
   | 0,_=>simp
   | 1,_=>simp
   | 2,_=>simp
  ·intro x hx
   obtain⟨i,hi,rfl⟩:=List.getElem_of_mem hx
   have hi':i<len:=by simpa using hi
   obtain⟨_,hD⟩:=Classical.choose_spec (each ⟨i,hi'⟩)
   have jFu:D i ∈ (List.range len).map D:=List.mem_map.2 ⟨i,List.mem_range.2 hi',rfl⟩
   have key:=hwl _ (List.mem_cons_of_mem _ (List.mem_append_left _ (jDp jFu (wl _ _ hD).1)))
   have key2:=hwl _ (List.mem_cons_of_mem _ (List.mem_append_left _ (jDp jFu (wl _ _ hD).2)))
   have e:(List.ofFn fun i=>Classical.choose (each i))[i]=Classical.choose (each ⟨i,hi'⟩):=by simp
   rw[e]
   rw[jBb]at key key2
   exact⟨by omega,by omega⟩
  ·have key:=hwl _ (List.mem_cons_self ..)
   have hby:1≤Tryz.prog.bytesOf 72:=by decide +kernel
   simp only[List.length_map,List.length_range,List.length_ofFn]at key ⊢
   have:len*1≤(len+(m-len))*Tryz.prog.bytesOf 72:=Nat.mul_le_mul (by omega) hby
   omega
end
theorem jN2 {W:World}{base:Nat}{v u:Value}(hv:Value.okWide Tryz.prog W .any base 25 v)(h:v.cells.toList=[u]):v=u:=by
 obtain⟨a0,len0,cap0,rfl⟩:=okWide_slice Tryz.underlying25 hv
 simpa [Value.cells] using h
end Go.Proofs.YtldapapdolkiaaaGreatDoor
