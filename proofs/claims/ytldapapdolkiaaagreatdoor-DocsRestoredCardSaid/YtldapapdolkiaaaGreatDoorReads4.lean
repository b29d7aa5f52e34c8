/- 'reads', layer 1's example: it returns true in any world in which the two tables of package docs stand as they were laid, and leaves all memory that was there as it was. -/
import Derived.Test.YtldapapdolkiaaaGreatDoorReads1
import Derived.Test.YtldapapdolkiaaaGreatDoorReads2
import Derived.Test.YtldapapdolkiaaaGreatDoorReads3
namespace Go.Proofs.YtldapapdolkiaaaGreatDoor
open Go Go.Eng Go.RowKit
set_option maxRecDepth 100000
theorem jUG (k:Nat):jWn.get k=if k=0 then .cells ntL 219 false true else if k=1 then .cells clL 220 false true else .dead:=by
 rw[EM.get_eq]
 match k with
 | 0=>rfl
 | 1=>rfl
 | 2=>rfl
 | 3=>rfl
 | 4=>rfl
 | k+5=>rw[if_neg (show ¬k+5<jWn.n from by show ¬k+5<5;omega),if_neg (by omega),if_neg (by omega)]
theorem jRW:∀v ∈ ntL,jAn v=true:=List.all_eq_true.1 (show ntL.all jAn=true by kernel_rfl)
theorem jR1:∀v ∈ clL,jAn v=true:=List.all_eq_true.1 (show clL.all jAn=true by kernel_rfl)
def jTg (k:Nat):Nat:=if k=0 then ntL.length else if k=1 then clL.length else 0
def jWG (k:Nat):TypeId:=if k=0 then 219 else 220
theorem jTs (P:Program){w:World}(hw:5≤w.heap.size){c0 c1:Array Value}{t0 t1:TypeId}{f0 f1:Nat × Nat}
 (h0:w.heap[0]? = some (.cells c0 t0 f0)) (h1:w.heap[1]? = some (.cells c1 t1 f1)) (e0:c0.toList=ntL) (e1:c1.toList=clL):∃β,Good P w.heap.size w β jWn w∧Glob 5 β:=by
 refine⟨fun k=>if k<5 then some ⟨k,0,jTg k,jF2 P (jWG k),0⟩ else none,⟨fun k hk=>⟨_,if_pos hk⟩,?_,?_,?_,?_,fun _ _=>rfl,Nat.le_refl _,rfl,rfl,rfl⟩,?_⟩
 ·intro k l e
  show k<5
  split at e
  ·assumption
  ·cases e
 ·intro k k' l l' e e' _ _ hb
  split at e
  ·split at e'
   ·cases e;cases e';exact hb
   ·cases e'
  ·cases e
 ·intro k l e
  split at e
  ·cases e;show k<_;omega
  ·cases e
 ·intro k l e
  split at e
  ·cases e
   rw[jUG]
   by_cases k0:k=0
   ·subst k0
    rw[if_pos rfl]
    refine⟨rfl,rfl,c0,t0,f0,h0,?_,fun i v hv=>⟨v,?_,.scalar (jRW v (List.mem_of_getElem? hv))⟩,fun h=>(by cases h),fun _=>rfl⟩
    ·show 0+ntL.length+0*_≤_
     rw[←e0];simp
    ·show c0[0+i]? = some v
     rw[Nat.zero_add,←Array.getElem?_toList,e0];exact hv
   ·rw[if_neg k0]
    by_cases k1:k=1
    ·subst k1
     rw[if_pos rfl]
     refine⟨rfl,rfl,c1,t1,f1,h1,?_,fun i v hv=>⟨v,?_,.scalar (jR1 v (List.mem_of_getElem? hv))⟩,fun h=>(by cases h),fun _=>rfl⟩
     ·show 0+clL.length+0*_≤_
      rw[←e1];simp
     ·show c1[0+i]? = some v
      rw[Nat.zero_add,←Array.getElem?_toList,e1];exact hv
    ·rw[if_neg k1];trivial
  ·cases e
 ·intro g hg
  exact⟨⟨g,0,jTg g,jF2 P (jWG g),0⟩,by simp[hg],rfl,rfl⟩
theorem mixes:Tryz.prog.follows .mixedOrders=true:=by kernel_rfl
theorem recovers:Tryz.prog.follows .rangeFuncRecover=true:=by kernel_rfl
theorem plain:jFh Tryz.prog=true:=by kernel_rfl
theorem jQm:Tryz.f10.body=some (Tryz.f10.body.getD .skip):=by kernel_rfl
theorem jLT:∀K ∈ [k522,k1256],K.Sound Tryz.prog 5:=by
 intro K hK
 simp only[List.mem_cons,List.not_mem_nil,or_false]at hK
 rcases hK with rfl | rfl
 ·exact jHt mixes recovers plain (kn:=[]) (by simp) (by simp) jPE
 ·exact jHt mixes recovers plain (kn:=[]) (by simp) (by simp) jLZ
theorem jNW:∀K ∈ [k522,k1256],∃fn b,Tryz.prog.funcs[K.fn]? = some fn∧fn.body=some b:=by
 intro K hK
 simp only[List.mem_cons,List.not_mem_nil,or_false]at hK
 rcases hK with rfl | rfl
 ·exact jI9 jPE
 ·exact jI9 jLZ
theorem jNT (w:World)(hw:5≤w.heap.size){c0 c1:Array Value}{t0 t1:TypeId}{f0 f1:Nat × Nat}
 (h0:w.heap[0]? = some (.cells c0 t0 f0)) (h1:w.heap[1]? = some (.cells c1 t1 f1)) (e0:c0.toList=ntL) (e1:c1.toList=clL) :
 Calls Tryz.prog 10 #[] w fun e w'=>e=.returned (.bool true)∧Below w.heap.size w w':=by
 obtain⟨β,g,hg⟩:=jTs Tryz.prog hw h0 h1 e0 e1
 have h:=jTn
 unfold okB at h
 split at h
 case h_2=>cases h
 rename_i x E1 jA9
 have hx:x=true:=by simpa using h
 subst hx
 obtain⟨β1,v',w1,hx,hv,g1,_,jQg⟩:=(jN6 (base:=w.heap.size) (w0:=w) (ng:=5) mixes recovers plain jLT jNW 1000000).1 _ _ _ _ _ _ _ g hg (jLq Tryz.func10 jQm («as»:=[]) (as':=#[]) .nil (.inl rfl)) jA9
 obtain⟨frE,h1,h2,h3⟩:=jQg rfl rfl
 intro cs
 exact⟨.returned v',w1,frE,⟨by rw[hv.boolInv],g1.below⟩,h3 cs,h1,h2⟩
end Go.Proofs.YtldapapdolkiaaaGreatDoor
