/- Documents as data: blocks, lines, texts. No run of any program here. What a block's pieces are asked, on both sides: is one carried, is one no text. A list of blocks in memory. Which blocks are valid, as the program tells it. What a block asks of its pieces, as the specification tells it. Which lists of pieces, and which documents, are equal, as the specification tells it. Which documents are valid, on both sides. The guard on the size of a document. What the row's condition says of an argument that is a document. -/
import Derived.Test.YtldapapdolkiaaaGreatDoorRwA
import Derived.Lib.IndexBytes
import Derived.Lib.CutLaws
import Derived.Test.YtldapapdolkiaaaGreatDoorDpB
import Derived.Test.YtldapapdolkiaaaGreatDoorDqA
import Derived.Test.YtldapapdolkiaaaGreatDoorDqB
import Derived.Deep.SlicePairs
namespace Go.Proofs.YtldapapdolkiaaaGreatDoor
set_option maxHeartbeats 64000000
open Go Go.Lib
structure Bk where
 k:Int
 l:List Pc
def jC9 (l:List Pc):Bool:=l.all fun x=>!x.c
def jOF (l:List Pc):Bool:=l.all fun x=>decide (x.k=1)
def inE (k:Int)(l:List Pc):Int:=if jC9 l=false then 8 else if k=6∧jOF l=false then 1 else 0
def jBF (b:Bk):Int:=if b.k<1∨6<b.k then 1 else if jAu b.l≠0 then jAu b.l else inE b.k b.l
def jMB:Nat→List UInt8
 | 1=>[104,49]
 | 2=>[104,50]
 | 3=>[104,51]
 | 4=>[112]
 | 5=>[108,105]
 | 6=>[114,97,119]
 | _=>[]
def jWY (w:List UInt8):Nat:=if w=jMB 1 then 1 else if w=jMB 2 then 2 else if w=jMB 3 then 3 else if w=jMB 4 then 4 else if w=jMB 5 then 5 else if w=jMB 6 then 6 else 0
def jZy (l:List UInt8):Option (Nat × List UInt8) :=
 if indexByte l 32=-1 then none else
 if jWY (l.take (indexByte l 32).toNat)=0 then none else some (jWY (l.take (indexByte l 32).toNat),l.drop ((indexByte l 32).toNat+1))
def preB (k:Nat)(l:List UInt8):Prop:=l.take ((jMB k).length+1)=jMB k++[32]
noncomputable def jXX (l:List UInt8):Except Int Bk :=
 match jZy l with
 | none=>.error 4
 | some (k,r)=>if jZb (bytes r)≠0 then .error (jZb (bytes r)) else if inE k (jYi (bytes r))≠0 then .error (inE k (jYi (bytes r))) else .ok ⟨k,jYi (bytes r)⟩
noncomputable def jRC:Nat→List Bk→List UInt8→Except (Nat × Int) (List Bk)
 | _,o,[]=>.ok o
 | 0,o,_ :: _=>.ok o
 | n+1,o,c :: r =>
   if o.length=256 then .error (256,3) else
   if indexByte (c :: r) 10=-1 then .error (o.length,4) else
   match jXX ((c :: r).take (indexByte (c :: r) 10).toNat) with
   | .error e=>.error (o.length,e)
   | .ok b=>jRC n (o++[b]) ((c :: r).drop ((indexByte (c :: r) 10).toNat+1))
noncomputable def jZB (s:List UInt8):Except (Nat × Int) (List Bk):=jRC s.length [] s
def jJi (s:List UInt8)(o:List Bk)(rest:List UInt8):Prop:=rest.length≤s.length∧∀n,rest.length≤n→jRC n o rest=jZB s
theorem jL2:∀ (n m:Nat) (o:List Bk) (l:List UInt8),l.length≤n→l.length≤m→jRC n o l=jRC m o l
 | 0,m,o,[],_,_=>by cases m <;> rfl
 | n+1,0,o,[],_,_=>rfl
 | n+1,m+1,o,[],_,_=>rfl
 | n+1,m+1,o,c :: r,hn,hm=>by
   simp only[List.length_cons]at hn hm
   unfold jRC
   have h:∀o j,jRC n o ((c :: r).drop (j+1))=jRC m o ((c :: r).drop (j+1)):=fun o j=>jL2 n m _ _ (by have:=jD5 (l:=r) (j:=j) c;omega) (by have:=jD5 (l:=r) (j:=j) c;omega)
   simp only[h]
theorem jJi.done {s:List UInt8}{o:List Bk}(h:jJi s o []):jZB s=.ok o:=(h.2 0 (Nat.le_refl _)).symm
theorem jJi.many {s rest:List UInt8}{o:List Bk}(h:jJi s o rest)(hr:rest≠[])(ho:o.length=256):jZB s=.error (256,3):=by
 rw[←h.2 _ (Nat.le_refl _)]
 match rest,hr with
 | c :: r,_ =>
   simp only[List.length_cons,jRC]
   rw[if_pos ho]
theorem jJi.open {s rest:List UInt8}{o:List Bk}(h:jJi s o rest)(hr:rest≠[])(ho:o.length≠256)(hj:indexByte rest 10=-1):jZB s=.error (o.length,4):=by
 rw[←h.2 _ (Nat.le_refl _)]
 match rest,hr with
 | c :: r,_ =>
   simp only[List.length_cons,jRC]
   rw[if_neg ho,if_pos hj]
theorem jJi.bad {s rest:List UInt8}{o:List Bk}{j:Nat}{e:Int}(h:jJi s o rest)(hr:rest≠[])(ho:o.length≠256)(hj:indexByte rest 10=(j:Int))(he:jXX (rest.take j)=.error e):jZB s=.error (o.length,e):=by
 rw[←h.2 _ (Nat.le_refl _)]
 match rest,hr with
 | c :: r,_ =>
   simp only[List.length_cons,jRC]
   rw[if_neg ho,if_neg (by rw[hj];omega),hj]
   simp only[Int.toNat_natCast,he]
theorem jJi.next {s rest:List UInt8}{o:List Bk}{j:Nat}{b:Bk}(h:jJi s o rest)(hr:rest≠[])(ho:o.length≠256)(hj:indexByte rest 10=(j:Int))(he:jXX (rest.take j)=.ok b):jJi s (o++[b]) (rest.drop (j+1)):=by
 refine⟨Nat.le_trans (by rw[List.length_drop];omega) h.1,fun n hn=>?_⟩
 rw[←h.2 (max rest.length (n+1)) (Nat.le_max_left _ _)]
 match rest,hr with
 | c :: r,_ =>
   obtain⟨m,hm⟩:∃m,max (c :: r).length (n+1)=m+1:=⟨max (c :: r).length (n+1)-1,by omega⟩
   rw[hm,jRC,if_neg ho,if_neg (by rw[hj];omega),hj]
   simp only[Int.toNat_natCast,he]
   have:=jD5 (l:=r) (j:=j) c
   simp only[List.length_cons]at hm
   exact jL2 _ _ _ _ hn (by omega)
end Go.Proofs.YtldapapdolkiaaaGreatDoor
namespace Go.Proofs.YtldapapdolkiaaaGreatDoor
set_option maxHeartbeats 64000000
open Go Go.RowKit
set_option maxRecDepth 100000
theorem jDk {B:Nat}{w:World}{A:Addr}{l:List Pc}{k:Nat}{wr:World}(hA:A.block<B)(jAj:∀i j,i<l.length→j<3→w.cell? (A.add (i*3+j))=some (pcF l i j))(hlt:k<l.length)(hb:Below B w wr) :
 wr.cell? (A.add (k*3))=some (.int .u8 (l.getD k nil).k)∧wr.cell? { block:=(A.add (k*3)).block,off:=(A.add (k*3)).off+1 }=some (.string (l.getD k nil).s)∧wr.cell? { block:=(A.add (k*3)).block,off:=(A.add (k*3)).off+2 }=some (.bool (l.getD k nil).c):=by
 have hAb:(A.add (k*3)).block<B:=by rw[add_block];exact hA
 refine⟨?_,?_,?_⟩
 ·rw[hb.cell hAb];have:=jAj k 0 hlt (by omega);simpa [pcF] using this
 ·rw[hb.cell (p:={ block:=(A.add (k*3)).block,off:=(A.add (k*3)).off+1 }) hAb];have:=jBq (by omega) (jAj k 1 hlt (by omega));simpa [pcF] using this
 ·rw[hb.cell (p:={ block:=(A.add (k*3)).block,off:=(A.add (k*3)).off+2 }) hAb];have:=jBq (by omega) (jAj k 2 hlt (by omega));simpa [pcF] using this
def jMl (p:Pc→Bool)(l:List Pc)(k:Nat):Prop:=∀i,i<k→i<l.length→p (l.getD i nil)=false
theorem jMl.succ {p:Pc→Bool}{l:List Pc}{k:Nat}(h:jMl p l k)(hk:p (l.getD k nil)=false):jMl p l (k+1):=fun i hi hl=>by
 rcases Nat.lt_succ_iff_lt_or_eq.1 hi with h' | rfl
 ·exact h i h' hl
 ·exact hk
theorem jPV {p:Pc→Bool}{l:List Pc}{k:Nat}(hk:k<l.length)(h:p (l.getD k nil)=true):l.any p=true :=
 List.any_eq_true.2 ⟨_,jLx hk,h⟩
theorem jK4 {p:Pc→Bool}{l:List Pc}{k:Nat}(h:jMl p l k)(hk:l.length≤k):l.any p=false:=by
 rw[List.any_eq_false]
 intro x hx
 obtain⟨i,hi,rfl⟩:=List.getElem_of_mem hx
 have:=h i (by omega) hi
 rw[List.getD_eq_getElem?_getD,List.getElem?_eq_getElem hi]at this
 simpa using this
def jCm (x:Pc):Bool:=decide (x.k≠1)
theorem jKA (l:List Pc):jC9 l = !(l.any fun x=>x.c):=by
 unfold jC9
 induction l with
 | nil=>rfl
 | cons x l ih=>simp only[List.all_cons,List.any_cons,ih,Bool.not_or]
theorem jNj (l:List Pc):jOF l = !(l.any jCm):=by
 unfold jOF
 induction l with
 | nil=>rfl
 | cons x l ih=>simp only[List.all_cons,List.any_cons,ih,Bool.not_or,jCm];by_cases h:x.k=1 <;> simp[h]
theorem jF7 (x:Pc)(w:World):Calls Tryz.prog 95 #[pcV x] w fun e w'=>e=.returned (.bool x.c)∧Below w.heap.size w w':=by
 obtain⟨k,s,c⟩:=x
 unfold pcV
 have ag:=Tryz.isAgg76
 have zg:=Tryz.sizeOf76
 go_enter Tryz.func95,Tryz.ntmps95
 go_wp2
 go_ret
 exact⟨rfl,jAb _⟩
theorem jHF (x:Pc)(w:World):Calls Tryz.prog 148 #[pcV x] w fun e w'=>e=.returned (.bool (jCm x))∧Below w.heap.size w w':=by
 obtain⟨k,s,c⟩:=x
 unfold pcV jCm
 have ag:=Tryz.isAgg76
 have zg:=Tryz.sizeOf76
 by_cases h:k=1
 all_goals
  go_enter Tryz.func148,Tryz.ntmps148
  go_wp2
  go_ret
  exact⟨jAc (by simp[h]),jAb _⟩
def jZr (b:Bool)(e:Ending):Prop:=∃z:Int,e=.returned (.int .i64 z)∧(b=true→0≤z)∧(b=false→¬0≤z)
theorem jIy (l:List Pc)(v:Value)(w:World)(hv:jBe w v l) :
 Calls Tryz.prog 152 #[v,.func (.func 95) #[] #[]] w fun e w'=>jZr (l.any (fun x=>x.c)) e∧Below w.heap.size w w':=by
 obtain⟨q,cap,rfl,hl,hc,jA4⟩:=hv
 unfold maxLen at hc
 have ag:=Tryz.isAgg76
 have zg:=Tryz.sizeOf76
 have HR:=Lib.hid jA4
 clear jA4
 go_enter Tryz.func152,Tryz.ntmps152
 go_wp2
 go_loopw [5,8] (fun _ i wr=>∃k:Nat,k≤l.length∧i=.int .i64 k∧Hid (jMl (fun x=>x.c) l k)∧Hid (Below w.heap.size w wr)) (fun _ i _=>l.length-(intOf i).toNat)
 case atStart=>exact⟨0,Nat.zero_le _,rfl,fun i h=>by omega,Below.refl _ _⟩
 case round =>
  obtain⟨k,hk,rfl,HN,HB⟩:=hrel
  by_cases hlt:k<l.length
  ·obtain⟨A,rfl,hA,jAj⟩:=HR.out (by omega)
   obtain⟨x0,x1,x2⟩:=jDk hA jAj hlt HB.out
   have HX:=Lib.hid (fun h=>jPV (p:=(fun x=>x.c)) (l:=l) (k:=k) hlt h)
   have HS:=Lib.hid (fun h=>HN.out.succ (k:=k) h)
   clear jAj
   generalize l.getD k nil=x at *
   obtain⟨xk,xs,xc⟩:=x
   cases xc
   ·have HS2:=Lib.hid (HS.out (by rfl))
    have cF:=fun w2=>jF7 ⟨xk,xs,false⟩ w2
    rw[show (⟨xk,xs,false⟩:Pc).c=false by rfl]at cF
    unfold pcV at cF
    go_wp2_with (go_at_call 95;(with_reducible refine (cF _).mono ?_);rintro e w2 ⟨rfl,hb2⟩;have HB2:=Lib.hid (jAa HB.out hb2);clear hb2)
    go_roundw
    case rel=>exact⟨k+1,by omega,by go_num,HS2.out,HB2.out⟩
    case measure=>simp[intOf];omega
   ·have HX2:=Lib.hid (HX.out (by rfl))
    have cF:=fun w2=>jF7 ⟨xk,xs,true⟩ w2
    rw[show (⟨xk,xs,true⟩:Pc).c=true by rfl]at cF
    unfold pcV at cF
    go_wp2_with (go_at_call 95;(with_reducible refine (cF _).mono ?_);rintro e w2 ⟨rfl,hb2⟩;have HB2:=Lib.hid (jAa HB.out hb2);clear hb2)
    go_ret
    exact⟨⟨k,rfl,(fun _=>by omega),(fun h=>by rw[HX2.out]at h;cases h)⟩,HB2.out⟩
  ·have HX:=Lib.hid (jK4 HN.out (by omega))
   go_wp2
   go_ret
   exact⟨⟨-1,rfl,(fun h=>by rw[HX.out]at h;cases h),(fun _=>by omega)⟩,HB.out⟩
theorem jGa (l:List Pc)(v:Value)(w:World)(hv:jBe w v l) :
 Calls Tryz.prog 94 #[v,.func (.func 95) #[] #[]] w fun e w'=>e=.returned (.bool (l.any (fun x=>x.c)))∧Below w.heap.size w w':=by
 have cI:=jIy l v w hv
 obtain⟨q,cap,rfl,hl,hc,jA4⟩:=hv
 clear jA4
 generalize l.any (fun x=>x.c)=b at cI
 cases b
 ·go_enter Tryz.func94,Tryz.ntmps94
  go_wp2_with (go_at_call 152;(with_reducible refine cI.mono ?_);rintro e w2 ⟨⟨z,rfl,h1,h2⟩,hb2⟩;have hz:=h2 rfl;have HB2:=Lib.hid hb2;clear hb2 h1 h2)
  go_ret
  exact⟨jAc (decide_eq_false (by omega)),HB2.out⟩
 ·go_enter Tryz.func94,Tryz.ntmps94
  go_wp2_with (go_at_call 152;(with_reducible refine cI.mono ?_);rintro e w2 ⟨⟨z,rfl,h1,h2⟩,hb2⟩;have hz:=h1 rfl;have HB2:=Lib.hid hb2;clear hb2 h1 h2)
  go_ret
  exact⟨rfl,HB2.out⟩
theorem jJW (l:List Pc)(v:Value)(w:World)(hv:jBe w v l) :
 Calls Tryz.prog 152 #[v,.func (.func 148) #[] #[]] w fun e w'=>jZr (l.any jCm) e∧Below w.heap.size w w':=by
 obtain⟨q,cap,rfl,hl,hc,jA4⟩:=hv
 unfold maxLen at hc
 have ag:=Tryz.isAgg76
 have zg:=Tryz.sizeOf76
 have HR:=Lib.hid jA4
 clear jA4
 go_enter Tryz.func152,Tryz.ntmps152
 go_wp2
 go_loopw [5,8] (fun _ i wr=>∃k:Nat,k≤l.length∧i=.int .i64 k∧Hid (jMl jCm l k)∧Hid (Below w.heap.size w wr)) (fun _ i _=>l.length-(intOf i).toNat)
 case atStart=>exact⟨0,Nat.zero_le _,rfl,fun i h=>by omega,Below.refl _ _⟩
 case round =>
  obtain⟨k,hk,rfl,HN,HB⟩:=hrel
  by_cases hlt:k<l.length
  ·obtain⟨A,rfl,hA,jAj⟩:=HR.out (by omega)
   obtain⟨x0,x1,x2⟩:=jDk hA jAj hlt HB.out
   have HX:=Lib.hid (fun h=>jPV (p:=jCm) (l:=l) (k:=k) hlt h)
   have HS:=Lib.hid (fun h=>HN.out.succ (k:=k) h)
   clear jAj
   generalize l.getD k nil=x at *
   obtain⟨xk,xs,xc⟩:=x
   rcases Decidable.em (xk=1) with rfl | hxk
   ·have HS2:=Lib.hid (HS.out (by simp[jCm]))
    have cF:=fun w2=>jHF ⟨1,xs,xc⟩ w2
    rw[show jCm ⟨1,xs,xc⟩=false by simp[jCm]]at cF
    unfold pcV at cF
    go_wp2_with (go_at_call 148;(with_reducible refine (cF _).mono ?_);rintro e w2 ⟨rfl,hb2⟩;have HB2:=Lib.hid (jAa HB.out hb2);clear hb2)
    go_roundw
    case rel=>exact⟨k+1,by omega,by go_num,HS2.out,HB2.out⟩
    case measure=>simp[intOf];omega
   ·have HX2:=Lib.hid (HX.out (by simp[jCm,hxk]))
    have cF:=fun w2=>jHF ⟨xk,xs,xc⟩ w2
    rw[show jCm ⟨xk,xs,xc⟩=true by simp[jCm,hxk]]at cF
    unfold pcV at cF
    go_wp2_with (go_at_call 148;(with_reducible refine (cF _).mono ?_);rintro e w2 ⟨rfl,hb2⟩;have HB2:=Lib.hid (jAa HB.out hb2);clear hb2)
    go_ret
    exact⟨⟨k,rfl,(fun _=>by omega),(fun h=>by rw[HX2.out]at h;cases h)⟩,HB2.out⟩
  ·have HX:=Lib.hid (jK4 HN.out (by omega))
   go_wp2
   go_ret
   exact⟨⟨-1,rfl,(fun h=>by rw[HX.out]at h;cases h),(fun _=>by omega)⟩,HB.out⟩
theorem jGG (l:List Pc)(v:Value)(w:World)(hv:jBe w v l) :
 Calls Tryz.prog 94 #[v,.func (.func 148) #[] #[]] w fun e w'=>e=.returned (.bool (l.any jCm))∧Below w.heap.size w w':=by
 have cI:=jJW l v w hv
 obtain⟨q,cap,rfl,hl,hc,jA4⟩:=hv
 clear jA4
 generalize l.any jCm=b at cI
 cases b
 ·go_enter Tryz.func94,Tryz.ntmps94
  go_wp2_with (go_at_call 152;(with_reducible refine cI.mono ?_);rintro e w2 ⟨⟨z,rfl,h1,h2⟩,hb2⟩;have hz:=h2 rfl;have HB2:=Lib.hid hb2;clear hb2 h1 h2)
  go_ret
  exact⟨jAc (decide_eq_false (by omega)),HB2.out⟩
 ·go_enter Tryz.func94,Tryz.ntmps94
  go_wp2_with (go_at_call 152;(with_reducible refine cI.mono ?_);rintro e w2 ⟨⟨z,rfl,h1,h2⟩,hb2⟩;have hz:=h1 rfl;have HB2:=Lib.hid hb2;clear hb2 h1 h2)
  go_ret
  exact⟨rfl,HB2.out⟩
theorem jMX (l:List Pc)(v:Value)(w:World)(hv:jBe w v l) :
 Calls Tryz.prog 46 #[v] w fun e w'=>e=.returned (.bool (jC9 l))∧Below w.heap.size w w':=by
 have cC:=jGa l v w hv
 rw[jKA]
 obtain⟨q,cap,rfl,hl,hc,jA4⟩:=hv
 clear jA4
 generalize (l.any fun x=>x.c)=b at cC
 cases b
 all_goals
  go_enter Tryz.func46,Tryz.ntmps46
  go_wp2_with (go_at_call 94;(with_reducible refine cC.mono ?_);rintro e w2 ⟨rfl,hb2⟩;have HB2:=Lib.hid hb2;clear hb2)
  go_ret
  exact⟨rfl,HB2.out⟩
end Go.Proofs.YtldapapdolkiaaaGreatDoor
namespace Go.Proofs.YtldapapdolkiaaaGreatDoor
set_option maxHeartbeats 64000000
open Go Go.RowKit
set_option maxRecDepth 100000
theorem jSb:(Tryz.prog.info? 44).map (fun i=>(i.zero,i.size,i.bytes))=some (some (.agg #[.int .u8 0,.slice none 0 0]),2,32):=by kernel_rfl
def jBp:Bk:=⟨0,[]⟩
def jJN:Value:=.slice none 0 0
def bkF (bs:List Bk)(us:List Value)(i j:Nat):Value:=if j=0 then .int .u8 (bs.getD i jBp).k else us.getD i jJN
def jDr (w:World)(v:Value)(bs:List Bk):Prop :=
 ∃us:List Value,us.length=bs.length∧jAO w.heap.size w v bs.length 2 (bkF bs us)∧∀i,i<bs.length→jBe w (us.getD i jJN) (bs.getD i jBp).l
theorem jDr.step {w w':World}{v:Value}{bs:List Bk}(hb:Below w.heap.size w w')(h:jDr w v bs):jDr w' v bs:=by
 obtain⟨us,h1,h2,h3⟩:=h
 exact⟨us,h1,(jAO.below hb h2).mono hb.size,fun i hi=>(h3 i hi).step hb⟩
theorem jTO (w:World):jDr w (.slice none 0 0) []:=⟨[],rfl,⟨none,0,rfl,by simp,by simp,fun h=>absurd h (by simp)⟩,fun i hi=>absurd hi (by simp)⟩
def cells2:List Bk→List Value→List Value
 | b :: bs,u :: us=>.int .u8 b.k :: u :: cells2 bs us
 | _,_=>[]
theorem jKm:∀ {bs:List Bk} {us:List Value} (b:Bk) (u:Value),us.length=bs.length→cells2 (bs++[b]) (us++[u])=cells2 bs us++[.int .u8 b.k,u]
 | [],[],_,_,_=>rfl
 | c :: bs,x :: us,b,u,h=>by
   have:=jKm (bs:=bs) (us:=us) b u (by simpa using h)
   simp only[List.cons_append,cells2,this]
theorem jKq:∀ (bs:List Bk) (us:List Value) (i j:Nat),us.length=bs.length→i<bs.length→j<2→(cells2 bs us)[i*2+j]? = some (bkF bs us i j)
 | b :: bs,u :: us,0,j,_,_,hj=>by
   match j,hj with
   | 0,_=>rfl
   | 1,_=>rfl
 | b :: bs,u :: us,i+1,j,h,hi,hj=>by
   have:=jKq bs us i j (by simpa using h) (by simpa using hi) hj
   rw[show (i+1)*2+j=i*2+j+1+1 by omega]
   exact this
def jLG (B:Nat)(v:Value)(bs:List Bk)(w:World):Prop :=
 ∃us:List Value,us.length=bs.length∧w.ownsRow B 44 2 v bs.length (cells2 bs us)∧∀i,i<bs.length→jA7 0 (us.getD i jJN) (bs.getD i jBp).l w
theorem jLG.nil (B:Nat)(w:World):jLG B (.slice none 0 0) [] w:=⟨[],rfl,World.ownsRow_nil _ _ _ _,fun i hi=>absurd hi (by simp)⟩
theorem jLG.step {B:Nat}{v:Value}{bs:List Bk}{w w':World}(hb:Below w.heap.size w w')(h:jLG B v bs w):jLG B v bs w':=by
 obtain⟨us,h1,h2,h3⟩:=h
 exact⟨us,h1,jAZ hb h2,fun i hi=>(h3 i hi).step hb⟩
theorem jLG.form {B:Nat}{v:Value}{bs:List Bk}{w:World}(h:jLG B v bs w):∃ao cap,v=.slice ao bs.length cap:=by
 obtain⟨us,_,h,_⟩:=h
 rcases h.2 with ⟨hv,h0⟩ | ⟨g,cap,cur,hv,_⟩
 ·exact⟨none,0,by rw[hv,h0]⟩
 ·exact⟨_,_,hv⟩
theorem jLG.at {B:Nat}{v:Value}{bs:List Bk}{w:World}(h:jLG B v bs w):jDr w v bs:=by
 obtain⟨us,h1,h2,h3⟩:=h
 refine⟨us,h1,?_,fun i hi=>(h3 i hi).at⟩
 have hc:=h2
 rcases h2.2 with ⟨rfl,h0⟩ | ⟨g,cap,cur,rfl,hg,hh,hn,hm,_⟩
 ·exact⟨none,0,by rw[h0],by omega,by unfold maxLen;omega,fun h=>by omega⟩
 ·refine⟨some ⟨g,0,none⟩,cap,rfl,hn,hm,fun _=>⟨_,rfl,lt_of_block hh,fun i j hi hj=>?_⟩⟩
  exact World.ownsRow.cells hc (g:=g) rfl _ _ (jKq bs us i j h1 hi hj)
def jVg (b:Nat)(k:Int)(u:Value)(wr:World):Prop:=wr.cell? ⟨b,0,none⟩=some (.int .u8 k)∧wr.cell? ⟨b,1,none⟩=some u∧b<wr.heap.size
theorem jVg.step {b:Nat}{k:Int}{u:Value}{wr w':World}(hb:Below wr.heap.size wr w')(h:jVg b k u wr):jVg b k u w':=by
 obtain⟨h0,h1,h3⟩:=h
 exact⟨by rw[hb.cell (p:=⟨b,0,none⟩) h3];exact h0,by rw[hb.cell (p:=⟨b,1,none⟩) h3];exact h1,Nat.lt_of_lt_of_le h3 hb.size⟩
theorem jVg.new (w:World)(k:Int)(u:Value)(t:TypeId):jVg w.heap.size k u (w.alloc (.cells #[.int .u8 k,u] t)):=by
 refine⟨?_,?_,?_⟩ <;> simp
end Go.Proofs.YtldapapdolkiaaaGreatDoor
namespace Go.Proofs.YtldapapdolkiaaaGreatDoor
set_option maxHeartbeats 64000000
open Go Go.RowKit
set_option maxRecDepth 100000
theorem jCH {b:Bk}(h:b.k<1∨6<b.k):jBF b=1:=by unfold jBF;rw[if_pos h]
theorem jHz {b:Bk}(h:¬(b.k<1∨6<b.k))(hc:jAu b.l≠0):jBF b=jAu b.l:=by unfold jBF;rw[if_neg h,if_pos hc]
theorem jLO {b:Bk}(h:¬(b.k<1∨6<b.k))(hc:jAu b.l=0)(hw:jC9 b.l=false):jBF b=8:=by unfold jBF inE;rw[if_neg h,if_neg (by simp[hc]),if_pos hw]
theorem jQ4 {b:Bk}(h:¬(b.k<1∨6<b.k))(hc:jAu b.l=0)(hw:jC9 b.l=true):jBF b=if b.k=6∧jOF b.l=false then 1 else 0:=by unfold jBF inE;rw[if_neg h,if_neg (by simp[hc]),if_neg (by simp[hw])]
theorem jJV (b:Bk)(u:Value)(w:World)(hk:0≤b.k)(hu:jBe w u b.l)(hs:∀x ∈ b.l,x.s.size≤maxLen)(hT:Tabs w) :
 Calls Tryz.prog 85 #[.agg #[.int .u8 b.k,u]] w fun e w'=>e=.returned (.int .u8 (jBF b))∧Below w.heap.size w w':=by
 obtain⟨k,l⟩:=b
 simp only at hk hu hs
 have ag:=Tryz.isAgg44
 have zg:=Tryz.sizeOf44
 have hbx:Below w.heap.size w (w.alloc (.cells #[.int .u8 k,u] 44)):=jAb _
 have HBX:=Lib.hid hbx
 have HX:=Lib.hid (jVg.new w k u 44)
 have HU:=Lib.hid (hu.step hbx)
 have HT:=Lib.hid (hT.step hbx)
 have HS:=Lib.hid hs
 obtain⟨q,cap,rfl,_⟩:=hu
 clear hs hT hbx
 by_cases h0:k=0
 ·subst h0
  have HE:=Lib.hid (jCH (b:=⟨0,l⟩) (.inl (by show (0:Int)<1;omega)))
  go_enter Tryz.func85,Tryz.ntmps85
  go_wp2
  go_ret
  exact⟨jAQ HE.out.symm,HBX.out⟩
 by_cases h6:6<k
 ·have hk0:(k == 0)=false:=by simpa using h0
  have HE:=Lib.hid (jCH (b:=⟨k,l⟩) (.inr h6))
  go_enter Tryz.func85,Tryz.ntmps85
  go_wp2
  go_ret
  exact⟨jAQ HE.out.symm,HBX.out⟩
 have hk0:(k == 0)=false:=by simpa using h0
 have hkk:¬((⟨k,l⟩:Bk).k<1∨6<(⟨k,l⟩:Bk).k):=by simp only;omega
 have HKK:=Lib.hid hkk
 have cC:=fun w2 (h:w2=w.alloc (.cells #[.int .u8 k,.slice q l.length cap] 44))=>jB6 l (.slice q l.length cap) w2 (h▸HU.out) HS.out (h▸HT.out)
 by_cases hc:jAu l=0
 ·rw[hc]at cC
  have cW:=fun w2 (h:Below (w.alloc (.cells #[.int .u8 k,.slice q l.length cap] 44)).heap.size (w.alloc (.cells #[.int .u8 k,.slice q l.length cap] 44)) w2)=>jMX l (.slice q l.length cap) w2 (HU.out.step h)
  have cB:=fun w2 (h:Below (w.alloc (.cells #[.int .u8 k,.slice q l.length cap] 44)).heap.size (w.alloc (.cells #[.int .u8 k,.slice q l.length cap] 44)) w2)=>jGG l (.slice q l.length cap) w2 (HU.out.step h)
  have HC:=Lib.hid hc
  have hbb:=jNj l
  cases hw:jC9 l
  ·rw[hw]at cW
   have HE:=Lib.hid (jLO hkk hc hw)
   clear hkk hc hw hbb cB
   go_enter Tryz.func85,Tryz.ntmps85
   go_wp2_with (first
    | (go_at_call 49;(with_reducible refine (cC _ rfl).mono ?_);rintro e w2 ⟨rfl,hb2⟩;have HX2:=Lib.hid (HX.out.step hb2);have HB2:=Lib.hid hb2;have jYQ:=Lib.hid (jAa HBX.out hb2);clear hb2;obtain⟨b0,b1,b2⟩:=HX2.out)
    | (go_at_call 46;(with_reducible refine (cW _ HB2.out).mono ?_);rintro e w3 ⟨rfl,hb3⟩;have qAj:=Lib.hid (jAa jYQ.out hb3);clear hb3))
   go_ret
   exact⟨jAQ HE.out.symm,qAj.out⟩
  ·rw[hw]at cW
   have hE:=jQ4 hkk hc hw
   by_cases h66:k=6
   ·subst h66
    generalize hnt:l.any jCm=nt at cB
    rw[hnt]at hbb
    rw[hbb]at hE
    have HE:=Lib.hid hE
    clear hkk hc hw hbb hnt hE h6
    cases nt
    all_goals
     go_enter Tryz.func85,Tryz.ntmps85
     go_wp2_with (first
      | (go_at_call 49;(with_reducible refine (cC _ rfl).mono ?_);rintro e w2 ⟨rfl,hb2⟩;have HX2:=Lib.hid (HX.out.step hb2);have HB2:=Lib.hid hb2;have jYQ:=Lib.hid (jAa HBX.out hb2);clear hb2;obtain⟨b0,b1,b2⟩:=HX2.out)
      | (go_at_call 46;(with_reducible refine (cW _ HB2.out).mono ?_);rintro e w3 ⟨rfl,hb3⟩;have HX3:=Lib.hid (HX2.out.step hb3);have HB3:=Lib.hid (jAa HB2.out hb3);have qAj:=Lib.hid (jAa jYQ.out hb3);clear hb3 b0 b1 b2;obtain⟨b0,b1,b2⟩:=HX3.out)
      | (go_at_call 94;(with_reducible refine (cB _ HB3.out).mono ?_);rintro e w4 ⟨rfl,hb4⟩;have HBB4:=Lib.hid (jAa qAj.out hb4);clear hb4))
     go_ret
     exact⟨jAQ (by rw[HE.out];simp),HBB4.out⟩
   ·have h66b:(k == 6)=false:=by simpa using h66
    have HE:=Lib.hid hE
    have H6:=Lib.hid h66
    clear hkk hc hw hbb hE cB h66
    go_enter Tryz.func85,Tryz.ntmps85
    go_wp2_with (first
     | (go_at_call 49;(with_reducible refine (cC _ rfl).mono ?_);rintro e w2 ⟨rfl,hb2⟩;have HX2:=Lib.hid (HX.out.step hb2);have HB2:=Lib.hid hb2;have jYQ:=Lib.hid (jAa HBX.out hb2);clear hb2;obtain⟨b0,b1,b2⟩:=HX2.out)
     | (go_at_call 46;(with_reducible refine (cW _ HB2.out).mono ?_);rintro e w3 ⟨rfl,hb3⟩;have HX3:=Lib.hid (HX2.out.step hb3);have qAj:=Lib.hid (jAa jYQ.out hb3);clear hb3 b0 b1 b2;obtain⟨b0,b1,b2⟩:=HX3.out))
    go_ret
    exact⟨jAQ (by rw[HE.out];simp[H6.out]),qAj.out⟩
 ·have HE:=Lib.hid (jHz hkk hc)
  have hE2:jBF ⟨k,l⟩=jAu l:=HE.out
  have HE2:=Lib.hid hE2
  generalize jAu l=Z at cC HE2 hc
  have hz:(Z == 0)=false:=by simpa using hc
  clear hkk hc hE2
  go_enter Tryz.func85,Tryz.ntmps85
  go_wp2_with (go_at_call 49;(with_reducible refine (cC _ rfl).mono ?_);rintro e w2 ⟨rfl,hb2⟩;have HX2:=Lib.hid (HX.out.step hb2);have HB2:=Lib.hid hb2;have jYQ:=Lib.hid (jAa HBX.out hb2);clear hb2;obtain⟨b0,b1,b2⟩:=HX2.out)
  go_ret
  exact⟨jAQ HE2.out.symm,jYQ.out⟩
end Go.Proofs.YtldapapdolkiaaaGreatDoor
namespace Go.Proofs.YtldapapdolkiaaaGreatDoor
set_option maxHeartbeats 64000000
open Go Go.RowKit Go.Lib
set_option maxRecDepth 100000
theorem jDM (w:World)(n:Nat):Below w.heap.size w (w.drewN n):=⟨rfl,rfl,rfl,Nat.le_refl _,fun _ _=>rfl⟩
end Go.Proofs.YtldapapdolkiaaaGreatDoor
namespace Go.Proofs.YtldapapdolkiaaaGreatDoor
set_option maxHeartbeats 64000000
open Go Go.RowKit
set_option maxRecDepth 100000
def jVr (x y:Pc):Bool:=decide (x.k=y.k) && decide (x.s.toList=y.s.toList) && decide (x.c=y.c)
def eqP (l m:List Pc)(k:Nat):Prop:=∀i,i<k→jVr (l.getD i nil) (m.getD i nil)=true
def jRB (l m:List Pc):Bool:=decide (l.length=m.length) && (List.range l.length).all fun i=>jVr (l.getD i nil) (m.getD i nil)
theorem jWm {l m:List Pc}(h:l.length≠m.length):jRB l m=false:=by unfold jRB;simp[h]
theorem jXg {l m:List Pc}{k:Nat}(hk:k<l.length)(h:jVr (l.getD k nil) (m.getD k nil)=false):jRB l m=false:=by
 unfold jRB
 have:(List.range l.length).all (fun i=>jVr (l.getD i nil) (m.getD i nil))=false:=by
  rw[List.all_eq_false]
  exact⟨k,List.mem_range.2 hk,by rw[h];simp⟩
 rw[this,Bool.and_false]
theorem jPK {l m:List Pc}(hl:l.length=m.length)(h:eqP l m l.length):jRB l m=true:=by
 unfold jRB
 rw[decide_eq_true hl,Bool.true_and,List.all_eq_true]
 exact fun i hi=>h i (List.mem_range.1 hi)
theorem jSi (x:Pc):jVr x x=true:=by unfold jVr;simp
theorem jLS (l:List Pc):jRB l l=true:=jPK rfl fun _ _=>jSi _
theorem jII (l m:List Pc)(u v:Value)(w:World)(hu:jBe w u l)(hv:jBe w v m) :
 Calls Tryz.prog 22 #[u,v] w fun e w'=>e=.returned (.bool (jRB l m))∧∃n,w'=w.drewN n:=by
 obtain⟨p,cap,rfl,hl1,hc,jA4⟩:=hu
 obtain⟨q,cap2,rfl,hl2,hc2,jNt⟩:=hv
 unfold maxLen at hc hc2
 have ag:=Tryz.isAgg76
 have zg:=Tryz.sizeOf76
 have HR:=Lib.hid jA4
 have HR2:=Lib.hid jNt
 clear jA4 jNt
 by_cases jBi:l.length=m.length
 ·have HL:=Lib.hid jBi
  have HA:=Lib.hid (fun h=>jPK jBi h)
  rw[←jBi]
  clear jBi
  go_enter Tryz.func22,Tryz.ntmps22
  go_wp2
  go_loopw [5] (fun i wr=>∃k:Nat,k≤l.length∧i=.int .i64 k∧Hid (eqP l m k)∧∃n,wr=w.drewN n) (fun i _=>l.length-(intOf i).toNat)
  case atStart=>exact⟨0,Nat.zero_le _,rfl,fun i h=>by omega,0,rfl⟩
  case round =>
   obtain⟨k,hk,rfl,HE,n,rfl⟩:=hrel
   obtain⟨w1,hw1⟩:∃w1,w1=w.drewN n:=⟨_,rfl⟩
   have HW:=Lib.hid hw1
   by_cases hlt:k<l.length
   ·have jKI:k<m.length:=by have:=HL.out;omega
    obtain⟨A,rfl,hA,jAj⟩:=HR.out (by omega)
    obtain⟨A2,rfl,hA2,jFD⟩:=HR2.out (by omega)
    have hb:Below w.heap.size w w1:=by rw[hw1];exact⟨rfl,rfl,rfl,Nat.le_refl _,fun _ _=>rfl⟩
    obtain⟨x0,x1,x2⟩:=jDk hA jAj hlt hb
    obtain⟨z0,z1,z2⟩:=jDk hA2 jFD jKI hb
    have HF:=Lib.hid (fun h=>jXg (l:=l) (m:=m) (k:=k) hlt h)
    have HS:Hid (jVr (l.getD k nil) (m.getD k nil)=true→eqP l m (k+1)):=fun h i hi=>by
     rcases Nat.lt_succ_iff_lt_or_eq.1 hi with h' | rfl
     ·exact HE.out i h'
     ·exact h
    rw[←hw1]
    clear jAj jFD hw1 hb
    generalize l.getD k nil=x at *
    generalize m.getD k nil=y at *
    obtain⟨xk,xs,xc⟩:=x
    obtain⟨yk,ys,yc⟩:=y
    by_cases e1:xk=yk <;> by_cases e2:xs.toList=ys.toList <;> by_cases e3:xc=yc
    all_goals first
     | (have HF2:=Lib.hid (HF.out (by unfold jVr;simp[e1,e2,e3]))
        clear HF HS
        go_wp2
        go_quiet (fail)
        go_wp2
        go_ret
        exact⟨jAc HF2.out.symm,n+nq,by rw[HW.out,World.drewN_drewN]⟩)
     | (have HS2:=Lib.hid (HS.out (by unfold jVr;simp[e1,e2,e3]))
        clear HF HS
        go_wp2
        go_quiet (fail)
        go_wp2
        go_roundw
        case rel=>exact⟨k+1,by omega,by go_num,HS2.out,n+nq,by rw[HW.out,World.drewN_drewN]⟩
        case measure=>simp[intOf];omega)
   ·have hkl:k=l.length:=by omega
    subst hkl
    rw[←hw1]
    clear hw1
    go_wp2
    go_ret
    exact⟨jAc (HA.out HE.out).symm,n,HW.out⟩
 ·have HX:=Lib.hid (jWm jBi)
  have hlI:((l.length:Int) == (m.length:Int))=false:=by simpa using (show ((l.length:Nat):Int)≠((m.length:Nat):Int) by omega)
  clear jBi
  go_enter Tryz.func22,Tryz.ntmps22
  go_wp2
  go_ret
  exact⟨jAc HX.out.symm,0,rfl⟩
def jWd (x y:Bk):Bool:=decide (x.k=y.k) && jRB x.l y.l
def eqK (bs cs:List Bk)(k:Nat):Prop:=∀i,i<k→jWd (bs.getD i jBp) (cs.getD i jBp)=true
def jWL (bs cs:List Bk):Bool:=decide (bs.length=cs.length) && (List.range bs.length).all fun i=>jWd (bs.getD i jBp) (cs.getD i jBp)
theorem jVn {bs cs:List Bk}(h:bs.length≠cs.length):jWL bs cs=false:=by unfold jWL;simp[h]
theorem jXo {bs cs:List Bk}{k:Nat}(hk:k<bs.length)(h:jWd (bs.getD k jBp) (cs.getD k jBp)=false):jWL bs cs=false:=by
 unfold jWL
 have:(List.range bs.length).all (fun i=>jWd (bs.getD i jBp) (cs.getD i jBp))=false:=by
  rw[List.all_eq_false]
  exact⟨k,List.mem_range.2 hk,by rw[h];simp⟩
 rw[this,Bool.and_false]
theorem jPr {bs cs:List Bk}(hl:bs.length=cs.length)(h:eqK bs cs bs.length):jWL bs cs=true:=by
 unfold jWL
 rw[decide_eq_true hl,Bool.true_and,List.all_eq_true]
 exact fun i hi=>h i (List.mem_range.1 hi)
theorem jTW (bs:List Bk):jWL bs bs=true:=jPr rfl fun i _=>by unfold jWd;rw[jLS];simp
theorem jBv {w:World}{A:Addr}{bs:List Bk}{us:List Value}{k:Nat}{wr:World}(hA:A.block<w.heap.size)(jAj:∀i j,i<bs.length→j<2→w.cell? (A.add (i*2+j))=some (bkF bs us i j))(hlt:k<bs.length)(hb:Below w.heap.size w wr) :
 wr.cell? (A.add (k*2))=some (.int .u8 (bs.getD k jBp).k)∧wr.cell? { block:=(A.add (k*2)).block,off:=(A.add (k*2)).off+1 }=some (us.getD k jJN):=by
 have hAb:(A.add (k*2)).block<w.heap.size:=by rw[add_block];exact hA
 refine⟨?_,?_⟩
 ·rw[hb.cell hAb];have:=jAj k 0 hlt (by omega);simpa [bkF] using this
 ·rw[hb.cell (p:={ block:=(A.add (k*2)).block,off:=(A.add (k*2)).off+1 }) hAb];have:=jBq (by omega) (jAj k 1 hlt (by omega));simpa [bkF] using this
theorem jAX {w w':World}(h:∃n,w'=w.drewN n):Below w.heap.size w w':=by
 obtain⟨n,rfl⟩:=h
 exact⟨rfl,rfl,rfl,Nat.le_refl _,fun _ _=>rfl⟩
def DBox (b:Nat)(v:Value)(w:World):Prop:=w.cell? ⟨b,0,none⟩=some v∧b<w.heap.size
theorem DBox.step {b:Nat}{v:Value}{w w':World}(h:DBox b v w)(hb:Below w.heap.size w w'):DBox b v w' :=
 ⟨by rw[hb.cell (p:=⟨b,0,none⟩) h.2];exact h.1,Nat.lt_of_lt_of_le h.2 hb.size⟩
theorem DBox.two (w:World)(u v:Value)(t t':TypeId):DBox w.heap.size u ((w.alloc (.cells #[u] t)).alloc (.cells #[v] t'))∧DBox (w.heap.size+1) v ((w.alloc (.cells #[u] t)).alloc (.cells #[v] t')):=by
 have h:DBox w.heap.size u (w.alloc (.cells #[u] t)):=⟨by simp,by simp⟩
 refine⟨h.step (jAb _),?_,by simp⟩
 simp
theorem jMS (w:World)(o o':Obj):Below w.heap.size w ((w.alloc o).alloc o'):=((Below.refl _ _).alloc (Nat.le_refl _) _).alloc (by simp) _
theorem jBT {w:World}{u:Value}{l:List Pc}(h:jBe w u l):∃ao cap,u=.slice ao l.length cap:=by
 obtain⟨p,cap,rfl,_⟩:=h
 exact⟨p,cap,rfl⟩
theorem jOH (bs cs:List Bk)(u v:Value)(w:World)(hu:jDr w u bs)(hv:jDr w v cs) :
 Calls Tryz.prog 16 #[.agg #[u],.agg #[v]] w fun e w'=>e=.returned (.bool (jWL bs cs))∧Below w.heap.size w w':=by
 obtain⟨us,hul,⟨p,cap,rfl,hl1,hc,jA4⟩,hup⟩:=hu
 obtain⟨vs,hvl,⟨q,cap2,rfl,hl2,hc2,jNt⟩,hvp⟩:=hv
 unfold maxLen at hc hc2
 have ag:=Tryz.isAgg44
 have zg:=Tryz.sizeOf44
 have ag2:=Tryz.isAgg24
 have zg2:=Tryz.sizeOf24
 have HR:=Lib.hid jA4
 have HR2:=Lib.hid jNt
 have HU:=Lib.hid hup
 have HV:=Lib.hid hvp
 clear jA4 jNt hup hvp
 by_cases jBi:bs.length=cs.length
 ·have HL:=Lib.hid jBi
  have HA:=Lib.hid (fun h=>jPr jBi h)
  rw[←jBi]
  clear jBi
  go_enter Tryz.func16,Tryz.ntmps16
  go_wp2
  go_loopw [5] (fun i wr=>∃k:Nat,k≤bs.length∧i=.int .i64 k∧Hid (eqK bs cs k)∧Hid (DBox w.heap.size (.slice p bs.length cap) wr)∧Hid (DBox (w.heap.size+1) (.slice q bs.length cap2) wr)∧Hid (Below w.heap.size w wr)) (fun i _=>bs.length-(intOf i).toNat)
  case atStart=>exact⟨0,Nat.zero_le _,rfl,fun i h=>by omega,(DBox.two w _ _ _ _).1,(DBox.two w _ _ _ _).2,jMS _ _ _⟩
  case round =>
   obtain⟨k,hk,rfl,HE,H1,H2,HB⟩:=hrel
   have b1:=H1.out.1
   have b2:=H2.out.1
   by_cases hlt:k<bs.length
   ·have jKI:k<cs.length:=by have:=HL.out;omega
    obtain⟨A,rfl,hA,jAj⟩:=HR.out (by omega)
    obtain⟨A2,rfl,hA2,jFD⟩:=HR2.out (by omega)
    obtain⟨x0,x1⟩:=jBv hA jAj hlt HB.out
    obtain⟨z0,z1⟩:=jBv hA2 jFD jKI HB.out
    have hp1:=(HU.out k hlt)
    have hp2:=(HV.out k jKI)
    obtain⟨ao,ca,e1⟩:=jBT hp1
    obtain⟨ao2,ca2,e2⟩:=jBT hp2
    rw[e1]at x1 hp1
    rw[e2]at z1 hp2
    have HF:=Lib.hid (fun h=>jXo (bs:=bs) (cs:=cs) (k:=k) hlt h)
    have HS:Hid (jWd (bs.getD k jBp) (cs.getD k jBp)=true→eqK bs cs (k+1)):=fun h i hi=>by
     rcases Nat.lt_succ_iff_lt_or_eq.1 hi with h' | rfl
     ·exact HE.out i h'
     ·exact h
    have cS:=fun n=>jII (bs.getD k jBp).l (cs.getD k jBp).l _ _ (wr.drewN n) (hp1.step (jAa HB.out (jAX ⟨n,rfl⟩))) (hp2.step (jAa HB.out (jAX ⟨n,rfl⟩)))
    clear jAj jFD hp1 hp2 e1 e2
    generalize bs.getD k jBp=x at *
    generalize cs.getD k jBp=y at *
    obtain⟨xk,xl⟩:=x
    obtain⟨yk,yl⟩:=y
    simp only at x0 x1 z0 z1 cS
    by_cases e1:xk=yk
    ·generalize hsm:jRB xl yl=sm at cS
     subst e1
     cases sm
     ·have HF2:=Lib.hid (HF.out (by unfold jWd;simp[hsm]))
      clear HF HS hsm
      go_wp2
      go_quiet ((go_at_call 22;refine Calls.quiet_of (cS _)))
      go_wp2
      go_ret
      exact⟨jAc HF2.out.symm,jAa HB.out (jAX ⟨nq,rfl⟩)⟩
     ·have HS2:=Lib.hid (HS.out (by unfold jWd;simp[hsm]))
      clear HF HS hsm
      go_wp2
      go_quiet ((go_at_call 22;refine Calls.quiet_of (cS _)))
      go_wp2
      go_roundw
      case rel=>exact⟨k+1,by omega,by go_num,HS2.out,H1.out.step (jAX ⟨nq,rfl⟩),H2.out.step (jAX ⟨nq,rfl⟩),jAa HB.out (jAX ⟨nq,rfl⟩)⟩
      case measure=>simp[intOf];omega
    ·have HF2:=Lib.hid (HF.out (by unfold jWd;simp[e1]))
     have hk1:(xk == yk)=false:=by simpa using e1
     clear HF HS
     go_wp2
     go_quiet (fail)
     go_wp2
     go_ret
     exact⟨jAc HF2.out.symm,jAa HB.out (jAX ⟨nq,rfl⟩)⟩
   ·have hkl:k=bs.length:=by omega
    subst hkl
    go_wp2
    go_ret
    exact⟨jAc (HA.out HE.out).symm,HB.out⟩
 ·have HX:=Lib.hid (jVn jBi)
  have hlI:((bs.length:Int) == (cs.length:Int))=false:=by simpa using (show ((bs.length:Nat):Int)≠((cs.length:Nat):Int) by omega)
  clear jBi
  go_enter Tryz.func16,Tryz.ntmps16
  go_wp2
  go_ret
  exact⟨jAc HX.out.symm,jMS _ _ _⟩
end Go.Proofs.YtldapapdolkiaaaGreatDoor
namespace Go.Proofs.YtldapapdolkiaaaGreatDoor
set_option maxHeartbeats 64000000
open Go Go.RowKit Go.Lib
set_option maxRecDepth 100000
def jGr:List Bk→Int
 | []=>0
 | b :: r=>if jBF b≠0 then jBF b else jGr r
def jFz (bs:List Bk):Int:=if 256<bs.length then 3 else jGr bs
def jKR (bs:List Bk)(k:Nat):Prop:=∀i,i<k→jBF (bs.getD i jBp)=0
theorem jKR.succ {bs:List Bk}{k:Nat}(h:jKR bs k)(hk:jBF (bs.getD k jBp)=0):jKR bs (k+1):=fun i hi=>by
 rcases Nat.lt_succ_iff_lt_or_eq.1 hi with h' | rfl
 ·exact h i h'
 ·exact hk
theorem jMP:∀ {bs:List Bk} {k:Nat},jKR bs k→k<bs.length→jBF (bs.getD k jBp)≠0→jGr bs=jBF (bs.getD k jBp)
 | b :: r,0,_,_,he=>by
   have e:(b :: r).getD 0 jBp=b:=rfl
   rw[e]at he ⊢
   unfold jGr;rw[if_pos he]
 | b :: r,k+1,h,hk,he=>by
   have h0:jBF b=0:=h 0 (by omega)
   have e:(b :: r).getD (k+1) jBp=r.getD k jBp:=by simp
   rw[e]at he ⊢
   unfold jGr
   rw[if_neg (by simp[h0])]
   exact jMP (fun i hi=>by have:=h (i+1) (by omega);simpa using this) (by simpa using hk) he
theorem jKc:∀ {bs:List Bk},jKR bs bs.length→jGr bs=0
 | [],_=>rfl
 | b :: r,h=>by
   have h0:jBF b=0:=h 0 (by simp)
   unfold jGr
   rw[if_neg (by simp[h0])]
   exact jKc fun i hi=>by have:=h (i+1) (by simpa using hi);simpa using this
theorem jMV {bs:List Bk}(h:256<bs.length):jFz bs=3:=by unfold jFz;rw[if_pos h]
theorem jTH {bs:List Bk}{k:Nat}(hl:¬256<bs.length)(h:jKR bs k)(hk:k<bs.length)(he:jBF (bs.getD k jBp)≠0):jFz bs=jBF (bs.getD k jBp):=by
 unfold jFz;rw[if_neg hl];exact jMP h hk he
theorem jPC {bs:List Bk}(hl:¬256<bs.length)(h:jKR bs bs.length):jFz bs=0:=by unfold jFz;rw[if_neg hl];exact jKc h
theorem jDH {bs:List Bk}{k:Nat}(hk:k<bs.length):bs.getD k jBp ∈ bs:=by
 rw[List.getD_eq_getElem?_getD,List.getElem?_eq_getElem hk];exact List.getElem_mem hk
theorem jGg (w:World)(u:Value)(t:TypeId):DBox w.heap.size u (w.alloc (.cells #[u] t)):=⟨by simp,by simp⟩
theorem jHi (bs:List Bk)(v:Value)(w:World)(hv:jDr w v bs)(hk:∀b ∈ bs,0≤b.k)(hs:∀b ∈ bs,∀x ∈ b.l,x.s.size≤maxLen)(hT:Tabs w) :
 Calls Tryz.prog 38 #[.agg #[v]] w fun e w'=>e=.returned (.int .u8 (jFz bs))∧Below w.heap.size w w':=by
 obtain⟨us,hul,⟨p,cap,rfl,hl1,hc,jA4⟩,hup⟩:=hv
 unfold maxLen at hc
 have ag:=Tryz.isAgg44
 have zg:=Tryz.sizeOf44
 have ag2:=Tryz.isAgg24
 have zg2:=Tryz.sizeOf24
 have HR:=hid jA4
 have HU:=hid hup
 have HK:=hid hk
 have HS:=hid hs
 have HT:=hid hT
 clear jA4 hup hk hs hT
 by_cases jNz:256<bs.length
 ·have hI:(256:Int)<(bs.length:Int):=by omega
  have HE:=hid (jMV jNz)
  go_enter Tryz.func38,Tryz.ntmps38
  go_wp2
  go_ret
  exact⟨jAQ HE.out.symm,jAb _⟩
 ·have hI:¬(256:Int)<(bs.length:Int):=by omega
  go_enter Tryz.func38,Tryz.ntmps38
  go_wp2
  go_loopw [13] (fun i wr=>∃k:Nat,k≤bs.length∧i=.int .i64 k∧Hid (jKR bs k)∧Hid (Below w.heap.size w wr)) (fun i _=>bs.length-(RowKit.intOf i).toNat)
  case atStart=>exact⟨0,Nat.zero_le _,rfl,(fun i h=>by omega),jAb _⟩
  case round =>
   obtain⟨k,hk,rfl,HE,HB⟩:=hrel
   by_cases hlt:k<bs.length
   ·obtain⟨A,rfl,hA,jAj⟩:=HR.out (by omega)
    obtain⟨x0,x1⟩:=jBv hA jAj hlt HB.out
    have hp1:=(HU.out k hlt)
    obtain⟨ao,ca,e1⟩:=jBT hp1
    rw[e1]at x1 hp1
    have jFu:=jDH hlt
    have cC:=fun w2 (h:Below w.heap.size w w2)=>jJV (bs.getD k jBp) _ w2 (HK.out _ jFu) (hp1.step h) (HS.out _ jFu) (HT.out.step h)
    have HF:=hid (fun h=>jTH (bs:=bs) (k:=k) jNz HE.out hlt h)
    have HN:=hid (fun h=>HE.out.succ (k:=k) h)
    clear jAj hp1 e1 jFu
    generalize bs.getD k jBp=x at *
    obtain⟨xk,xl⟩:=x
    simp only at x0 x1 cC
    generalize jBF ⟨xk,xl⟩=Z at cC HF HN
    have HBX:=hid (jAa HB.out (jAb (w:=wr) (.cells #[.int .u8 xk,.slice ao xl.length ca] 44)))
    by_cases hz:Z=0
    ·subst hz
     have HN2:=hid (HN.out rfl)
     clear HF HN
     go_wp2_with (go_at_call 85;(with_reducible refine (cC _ HBX.out).mono ?_);rintro e w2 ⟨rfl,hb2⟩;have HB2:=hid (jAa HBX.out hb2);clear hb2)
     go_roundw
     case rel=>exact⟨k+1,by omega,by go_num,HN2.out,HB2.out⟩
     case measure=>simp[RowKit.intOf];omega
    ·have HF2:=hid (HF.out hz)
     have hz2:(Z == 0)=false:=by simpa using hz
     clear HF HN hz
     go_wp2_with (go_at_call 85;(with_reducible refine (cC _ HBX.out).mono ?_);rintro e w2 ⟨rfl,hb2⟩;have HB2:=hid (jAa HBX.out hb2);clear hb2)
     go_ret
     exact⟨jAQ HF2.out.symm,HB2.out⟩
   ·have hkl:k=bs.length:=by omega
    subst hkl
    have HX:=hid (jPC jNz HE.out)
    go_wp2
    go_ret
    exact⟨jAQ HX.out.symm,HB.out⟩
end Go.Proofs.YtldapapdolkiaaaGreatDoor
namespace Go.Proofs.YtldapapdolkiaaaGreatDoor
set_option maxHeartbeats 64000000
open Go Go.RowKit Go.Lib
set_option maxRecDepth 100000
theorem jQ5 (bs:List Bk)(k:Nat)(hk:k<bs.length):bs.take (k+1)=bs.take k++[bs.getD k jBp]:=by
 rw[List.take_succ_eq_append_getElem hk,List.getD_eq_getElem?_getD,List.getElem?_eq_getElem hk]
 rfl
def jYA (b:Bk):Nat:=b.l.length+(jEC b.l).length
def jRp (bs:List Bk)(k:Nat):Nat:=bs.length+((bs.take k).map jYA).sum
theorem jNf (bs:List Bk):jRp bs 0=bs.length:=by simp[jRp]
theorem jR9 (bs:List Bk)(k:Nat)(hk:k<bs.length):jRp bs (k+1)=jRp bs k+jYA (bs.getD k jBp):=by
 unfold jRp
 rw[jQ5 bs k hk]
 simp only[List.map_append,List.sum_append,List.map_cons,List.map_nil,List.sum_cons,List.sum_nil,Nat.add_zero]
 omega
theorem jVQ (l:List Pc):(jEC l).length≤bulk l:=jHn l
theorem jOr (l:List Pc):l.length≤bulk l:=by unfold bulk;omega
def Small (bs:List Bk):Prop:=(∀i,i<bs.length→i<300→bulk (bs.getD i jBp).l≤2500)∧jRp bs (min bs.length 300)≤3500
theorem Small.bulk {bs:List Bk}(h:Small bs):bs.length≤256→∀b ∈ bs,bulk b.l≤2500:=by
 intro hl b hb
 obtain⟨i,hi,rfl⟩:=List.getElem_of_mem hb
 have:=h.1 i hi (by omega)
 rw[List.getD_eq_getElem?_getD,List.getElem?_eq_getElem hi]at this
 exact this
def jXd (bs:List Bk)(e:Ending):Prop:=∃b,e=.returned (.bool b)∧(b=false→Small bs)
theorem jVd (bs:List Bk)(v:Value)(w:World)(hv:jDr w v bs)(hs:∀b ∈ bs,(∀x ∈ b.l,x.s.size≤140737488355328)∧b.l.length≤140737488355328)(hn:bs.length≤140737488355328) :
 Calls Tryz.prog 7 #[.agg #[v]] w fun e w'=>jXd bs e∧Below w.heap.size w w':=by
 have HD0:=hid (jGg w v 24)
 obtain⟨us,hul,⟨p,cap,rfl,hl1,hc,jA4⟩,hup⟩:=hv
 unfold maxLen at hc
 have ag:=Tryz.isAgg44
 have zg:=Tryz.sizeOf44
 have ag2:=Tryz.isAgg24
 have zg2:=Tryz.sizeOf24
 have HR:=hid jA4
 have HU:=hid hup
 have HS:=hid hs
 clear jA4 hup hs
 go_enter Tryz.func7,Tryz.ntmps7
 go_wp2
 go_loopw [3,4] (fun n i wr=>∃k:Nat,k≤bs.length∧k≤300∧i=.int .i64 k∧n=.int .i64 (jRp bs k)∧Hid (jRp bs k≤bs.length+k*5000)∧Hid (∀j,j<k→bulk (bs.getD j jBp).l≤2500)∧Hid (DBox w.heap.size (.slice p bs.length cap) wr)∧Hid (Below w.heap.size w wr)) (fun _ i _=>bs.length-(RowKit.intOf i).toNat)
 case atStart=>exact⟨0,Nat.zero_le _,by omega,rfl,by rw[jNf],(by show _≤_;rw[jNf];omega),(fun j h=>by omega),HD0.out,jAb _⟩
 case round =>
  obtain⟨k,hk,hk3,rfl,rfl,HC,HL,HD,HB⟩:=hrel
  have b1:=HD.out.1
  by_cases hlt:k<bs.length
  ·by_cases h300:k<300
   ·obtain⟨A,rfl,hA,jAj⟩:=HR.out (by omega)
    obtain⟨x0,x1⟩:=jBv hA jAj hlt HB.out
    have hp1:=(HU.out k hlt)
    obtain⟨ao,ca,e1⟩:=jBT hp1
    rw[e1]at x1 hp1
    have hsz:=HS.out _ (jDH hlt)
    have hcs:=jR9 bs k hlt
    have hcb:=HC.out
    have HLN:Hid (bulk (bs.getD k jBp).l≤2500→∀j,j<k+1→bulk (bs.getD j jBp).l≤2500):=fun h j hj=>by
     rcases Nat.lt_succ_iff_lt_or_eq.1 hj with h' | rfl
     ·exact HL.out j h'
     ·exact h
    have h300I:(k:Int)<300:=by omega
    clear jAj e1
    generalize bs.getD k jBp=x at *
    obtain⟨xk,xl⟩:=x
    simp only[jYA]at hcs
    simp only at x0 x1 hp1 hsz HLN
    have hbx:=jAa HB.out (jAb (w:=wr) (.cells #[.slice ao xl.length ca] 39))
    have HBX:=hid hbx
    have cL:=jPe xl (.slice ao xl.length ca) wr.heap.size (wr.alloc (.cells #[.slice ao xl.length ca] 39)) (by rw[Lib.cell_of_heap (heap_alloc_new wr _)];rfl) (hp1.step hbx) hsz.1 hsz.2
    have hDX:=HD.out.step (jAb (w:=wr) (.cells #[.slice ao xl.length ca] 39))
    have HDX:=hid hDX
    have b2:=hDX.1
    have x2:=((jAb (w:=wr) (.cells #[.slice ao xl.length ca] 39)).cell (p:={ block:=(A.add (k*2)).block,off:=(A.add (k*2)).off+1 }) (by show (A.add (k*2)).block<_;rw[add_block];have:=HD.out.2;omega)).trans x1
    have cP:=fun n (h:bulk xl≤2500)=>jMI xl (.slice ao xl.length ca) ((wr.alloc (.cells #[.slice ao xl.length ca] 39)).drewN n) (hp1.step (jAa hbx (jAX ⟨n,rfl⟩))) (by omega)
    have hpl:=jVQ xl
    have hbg:=jOr xl
    have HCS:=hid hcs
    have hbz:(bytes (jEC xl)).size=(jEC xl).length:=jJ5 _
    clear hbx hp1 hsz hDX hcs
    generalize jRp bs k=q at *
    go_wp2_with (go_at_call 18;(with_reducible refine cL.mono ?_);rintro e w3 ⟨⟨b,rfl,hb⟩,hw⟩;obtain rfl:=hw.symm;cases b)
    ·have hbk:bulk xl≤2500:=by simpa using hb
     have qA4:=hid (HLN.out hbk)
     clear hb
     go_quiet ((go_at_call 31;refine Calls.quiet_of_same (cP _ hbk)))
     go_wp2
     refine⟨⟨k+1,by omega,by omega,by go_num,by rw[HCS.out];congr 1;omega,(by show _≤_;rw[HCS.out];omega),qA4.out,HDX.out.step (jAX ⟨nq,rfl⟩),jAa HBX.out (jAX ⟨nq,rfl⟩)⟩,by simp[RowKit.intOf];omega⟩
    ·go_ret
     exact⟨⟨true,rfl,fun h=>by cases h⟩,HBX.out⟩
   ·have qA5:k=300:=by omega
    have h300I:¬(k:Int)<300:=by omega
    have HX:Hid (jRp bs k≤3500→Small bs):=fun h=>⟨fun i hi h3=>HL.out i (by omega),by rw[Nat.min_eq_right (by omega),←qA5];exact h⟩
    generalize jRp bs k=q at *
    go_wp2
    go_ret
    exact⟨⟨_,rfl,fun h=>HX.out (by simp at h;omega)⟩,HB.out⟩
  ·have hkl:k=bs.length:=by omega
   have HX:Hid (jRp bs k≤3500→Small bs):=fun h=>⟨fun i hi h3=>HL.out i (by omega),by rw[Nat.min_eq_left (by omega),←hkl];exact h⟩
   generalize jRp bs k=q at *
   go_wp2
   go_ret
   exact⟨⟨_,rfl,fun h=>HX.out (by simp at h;omega)⟩,HB.out⟩
end Go.Proofs.YtldapapdolkiaaaGreatDoor
namespace Go.Proofs.YtldapapdolkiaaaGreatDoor
set_option maxHeartbeats 64000000
open Go Go.RowKit Go.Lib
set_option maxRecDepth 100000
structure Came (bs:List Bk):Prop where
 kinds:∀b ∈ bs,0≤b.k
 sizes:∀b ∈ bs,(∀x ∈ b.l,x.s.size≤140737488355328)∧b.l.length≤140737488355328
 len:bs.length≤140737488355328
section
variable {H:Type} {enc:TypeId × Value→H} {W:World} {sp:Nat→Bool} {held:Bool}
theorem jRb {d0 d1:DataW H}{l r:List (DataW H)}(hd:(.agg [d0,d1]:DataW H) ∈ l){n:Nat}(hn:n ∈ d1.weights Tryz.prog 39):n ∈ (DataW.agg [.slice l r]:DataW H).weights Tryz.prog 24:=by
 have h1:n ∈ (.agg [d0,d1]:DataW H).weights Tryz.prog 44:=by
  simp only[DataW.weights,Tryz.underlying44]
  simp[DataW.weightsEach,hn]
 have h2:=jDp (e:=44) hd h1
 simp only[DataW.weights,Tryz.underlying24]
 simp[DataW.weightsEach,DataW.weights,Tryz.underlying22,h2]
theorem jNU {l r:List (DataW H)}:(l.length+r.length)*Tryz.prog.bytesOf 44 ∈ (DataW.agg [.slice l r]:DataW H).weights Tryz.prog 24:=by
 simp only[DataW.weights,Tryz.underlying24]
 simp[DataW.weightsEach,DataW.weights,Tryz.underlying22]
theorem jUT {fuel:Nat}{cs:List Value}{d:DataW H}{p:List MemPlace}(h:DataW.trod enc Tryz.prog W 0 sp held fuel 24 cs=some (d,p))
 (hw:∀n ∈ d.weights Tryz.prog 24,n≤reachBytes):∃ (bs:List Bk) (v:Value),cs=[v]∧jDr W v bs∧Came bs:=by
 have hr:reachBytes≤140737488355328:=by decide
 obtain⟨xs,n,_,hx,hl,hxl,hf⟩:=DataW.trod_struct Tryz.underlying24 h
 have h1:cs.length=1:=hl.trans (by kernel_rfl)
 have hx1:xs.length=1:=hxl
 match xs,hx1,cs,h1 with
 | [y0],_,[v],_ =>
   have f0:DataW.trod enc Tryz.prog W 0 sp held n 22 (([v].drop 0).take (Tryz.prog.cellsOf 22))=some y0:=hf 0 _ rfl
   rw[show Tryz.prog.cellsOf 22=1 by kernel_rfl]at f0
   have f1:DataW.trod enc Tryz.prog W 0 sp held n 22 [v]=some y0:=f0
   have hd:d=.agg [y0.1]:=by
    have:=congrArg Prod.fst hx
    simpa using this
   subst hd
   rcases Go.Deep.open_slice_pairs Tryz.underlying22 Tryz.underlying44 (by kernel_rfl) rfl rfl (by kernel_rfl) (by kernel_rfl) f1 with ⟨hv,_⟩ | ⟨a,len,cap,m,n',V0,V1,D0,D1,P0,P1,hv,_,hle,hmx,hmm,hy,hel⟩
   ·obtain rfl:v=.slice none 0 0:=by simpa using hv
    exact⟨[],_,rfl,jTO _,⟨by simp,by simp,by simp⟩⟩
   ·obtain rfl:v=.slice (some a) len cap:=by simpa using hv
    have hy1:y0.1=.slice ((List.range len).map fun i=>.agg [D0 i,D1 i]) ((List.range (m-len)).map fun j=>.agg [D0 (len+j),D1 (len+j)]):=congrArg Prod.fst hy
    rw[hy1]at hw
    have hlm:len≤m:=by rw[hmm];split <;> omega
    have each:∀i:Fin len,∃b:Bk,V0 i.1=.int .u8 b.k∧0≤b.k∧jBe W (V1 i.1) b.l∧(∀x ∈ b.l,x.s.size≤140737488355328)∧b.l.length≤140737488355328:=fun i=>by
     obtain⟨_,_,t0,t1⟩:=hel i.1 (by have:=i.2;omega)
     obtain⟨z,c0,_,hwf⟩:=DataW.trod_int Tryz.underlying42 t0
     have jFu:(.agg [D0 i.1,D1 i.1]:DataW H) ∈ (List.range len).map fun i=>(.agg [D0 i,D1 i]:DataW H):=List.mem_map.2 ⟨i.1,List.mem_range.2 i.2,rfl⟩
     obtain⟨l,u,hu,hp,hs,hn⟩:=jO1 t1 (fun n hn=>hw n (jRb jFu hn))
     refine⟨⟨z,l⟩,by simpa using c0,?_,?_,hs,hn⟩
     ·have hz:IntKind.u8.min≤z:=by simp[Lit.wf]at hwf;exact hwf.1
      have h0:IntKind.u8.min=0:=by decide
      simp only
      omega
     ·obtain rfl:V1 i.1=u:=by simpa using hu
      exact hp
    refine⟨List.ofFn fun i=>Classical.choose (each i),_,rfl,⟨List.ofFn fun i:Fin len=>V1 i.1,by simp,⟨some a,cap,by simp,by simpa using hle,hmx,fun h0=>⟨a,rfl,?_,?_⟩⟩,?_⟩,⟨?_,?_,?_⟩⟩
    ·have h0':0<len:=by simpa using h0
     obtain⟨c0,_⟩:=hel 0 (by omega)
     have hb:=World.block_lt_of_cell? W _ c0
     rwa [add_block]at hb
    ·intro i j hi hj
     have hi':i<len:=by simpa using hi
     obtain⟨c0,c1,_⟩:=hel i (by omega)
     have hg:(List.ofFn fun i=>Classical.choose (each i)).getD i jBp=Classical.choose (each ⟨i,hi'⟩):=by
      rw[List.getD_eq_getElem?_getD,List.getElem?_eq_getElem hi];simp
     have hg2:(List.ofFn fun i:Fin len=>V1 i.1).getD i jJN=V1 i:=by
      rw[List.getD_eq_getElem?_getD,List.getElem?_eq_getElem (by simpa using hi')];simp
     obtain⟨e0,_⟩:=Classical.choose_spec (each ⟨i,hi'⟩)
     unfold bkF
     rw[hg,hg2]
     match j,hj with
     | 0,_=>rw[Nat.add_zero,c0];simp only[if_pos];exact congrArg some e0
     | 1,_=>rw[c1];simp
    ·intro i hi
     have hi':i<len:=by simpa using hi
     have hg:(List.ofFn fun i=>Classical.choose (each i)).getD i jBp=Classical.choose (each ⟨i,hi'⟩):=by
      rw[List.getD_eq_getElem?_getD,List.getElem?_eq_getElem hi];simp
     have hg2:(List.ofFn fun i:Fin len=>V1 i.1).getD i jJN=V1 i:=by
      rw[List.getD_eq_getElem?_getD,List.getElem?_eq_getElem (by simpa using hi')];simp
     rw[hg,hg2]
     exact (Classical.choose_spec (each ⟨i,hi'⟩)).2.2.1
    ·intro b hb
     obtain⟨i,hi,rfl⟩:=List.getElem_of_mem hb
     have hi':i<len:=by simpa using hi
     have e:(List.ofFn fun i=>Classical.choose (each i))[i]=Classical.choose (each ⟨i,hi'⟩):=by simp
     rw[e]
     exact (Classical.choose_spec (each ⟨i,hi'⟩)).2.1
    ·intro b hb
     obtain⟨i,hi,rfl⟩:=List.getElem_of_mem hb
     have hi':i<len:=by simpa using hi
     have e:(List.ofFn fun i=>Classical.choose (each i))[i]=Classical.choose (each ⟨i,hi'⟩):=by simp
     rw[e]
     exact (Classical.choose_spec (each ⟨i,hi'⟩)).2.2.2
    ·have key:=hw _ jNU
     have hby:1≤Tryz.prog.bytesOf 44:=by decide +kernel
     simp only[List.length_map,List.length_range,List.length_ofFn]at key ⊢
     have:len*1≤(len+(m-len))*Tryz.prog.bytesOf 44:=Nat.mul_le_mul (by omega) hby
     omega
theorem jZe {base:Nat}{v:Value}(hv:Value.okWide Tryz.prog W .any base 24 v){u:Value}(h:v.cells.toList=[u]):v=.agg #[u]:=by
 obtain⟨cs,rfl,_⟩:=Go.WideShapes.okWide_struct Tryz.underlying24 hv
 have:cs.toList=[u]:=by simpa [Value.cells] using h
 congr 1
 exact Array.ext' this
end
end Go.Proofs.YtldapapdolkiaaaGreatDoor
