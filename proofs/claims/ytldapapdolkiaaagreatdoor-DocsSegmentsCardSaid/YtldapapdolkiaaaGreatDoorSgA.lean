/- Segments as data. No run of any program here. A list of segments in memory. Which lists of segments are equal, as the specification tells it. Which lists of segments are too long to be tried. Restore as data: the segments of each block, whether they fit the document, the first error, the blocks. No run of any program here. What the row's condition says of an argument that is a list of segments. -/
import Derived.Test.YtldapapdolkiaaaGreatDoorDoA
import Derived.Test.YtldapapdolkiaaaGreatDoorBrA
import Derived.Test.YtldapapdolkiaaaGreatDoorRwA
import Derived.Test.YtldapapdolkiaaaGreatDoorDqA
import Derived.Test.YtldapapdolkiaaaGreatDoorGlB
import Derived.Test.YtldapapdolkiaaaGreatDoorDqB
import Derived.Deep.SlicePairs
namespace Go.Proofs.YtldapapdolkiaaaGreatDoor
set_option maxHeartbeats 64000000
open Go Go.RowKit Go.Lib
set_option maxRecDepth 100000
structure Sg where
 b:Int
 l:List Pc
def jCf:Sg:=⟨0,[]⟩
def plcs (R:List Rl)(l:List Pc):List Int:=(jGN R (jCa l)).map fun p:Nat=>(p:Int)
def jOY (R:List Rl)(b:Bk):Int:=if b.k=6 then 0 else ctE b.l (plcs R b.l)
def jXO (R:List Rl)(i:Nat)(b:Bk):List Sg:=if b.k=6 then [] else (ctR b.l (plcs R b.l)).map fun q=>⟨(i:Int),q⟩
def jDV (R:List Rl)(bs:List Bk):Nat→Int
 | 0=>0
 | k+1=>if jDV R bs k≠0 then jDV R bs k else jOY R (bs.getD k jBp)
def jBZ (R:List Rl)(bs:List Bk):Nat→List Sg
 | 0=>[]
 | k+1=>jBZ R bs k++jXO R k (bs.getD k jBp)
def sgE (bs:List Bk)(R:List Rl):Int:=if jFz bs≠0 then jFz bs else if jDw R≠0 then jDw R else jDV R bs bs.length
def sgL (bs:List Bk)(R:List Rl):List Sg:=if sgE bs R=0 then jBZ R bs bs.length else []
theorem jIo {R:List Rl}{bs:List Bk}{k:Nat}(h:jDV R bs k≠0):∀d,jDV R bs (k+d)=jDV R bs k
 | 0=>rfl
 | d+1=>by
   have ih:=jIo h d
   show jDV R bs (k+d+1)=_
   rw[jDV,ih,if_pos h]
theorem jGV {R:List Rl}{bs:List Bk}{k:Nat}(h:jDV R bs k=0):jDV R bs (k+1)=jOY R (bs.getD k jBp):=by rw[jDV,if_neg (by simp[h])]
theorem jSw {R:List Rl}{bs:List Bk}{k:Nat}(hk:k<bs.length)(h:jDV R bs k=0)(he:jOY R (bs.getD k jBp)≠0):jDV R bs bs.length=jOY R (bs.getD k jBp):=by
 have h1:=jGV h
 have h2:=jIo (R:=R) (bs:=bs) (k:=k+1) (by rw[h1];exact he) (bs.length-(k+1))
 rw[show bs.length=k+1+(bs.length-(k+1)) by omega,h2,h1]
end Go.Proofs.YtldapapdolkiaaaGreatDoor
namespace Go.Proofs.YtldapapdolkiaaaGreatDoor
set_option maxHeartbeats 64000000
open Go Go.RowKit
set_option maxRecDepth 100000
theorem jS0:(Tryz.prog.info? 41).map (fun i=>(i.zero,i.size,i.bytes))=some (some (.agg #[.int .i64 0,.slice none 0 0]),2,32):=by kernel_rfl
def sgF (bs:List Sg)(us:List Value)(i j:Nat):Value:=if j=0 then .int .i64 (bs.getD i jCf).b else us.getD i jJN
def jEy (w:World)(v:Value)(bs:List Sg):Prop :=
 ∃us:List Value,us.length=bs.length∧jAO w.heap.size w v bs.length 2 (sgF bs us)∧∀i,i<bs.length→jBe w (us.getD i jJN) (bs.getD i jCf).l
theorem jEy.step {w w':World}{v:Value}{bs:List Sg}(hb:Below w.heap.size w w')(h:jEy w v bs):jEy w' v bs:=by
 obtain⟨us,h1,h2,h3⟩:=h
 exact⟨us,h1,(jAO.below hb h2).mono hb.size,fun i hi=>(h3 i hi).step hb⟩
theorem jSO (w:World):jEy w (.slice none 0 0) []:=⟨[],rfl,⟨none,0,rfl,by simp,by simp,fun h=>absurd h (by simp)⟩,fun i hi=>absurd hi (by simp)⟩
def cells2g:List Sg→List Value→List Value
 | b :: bs,u :: us=>.int .i64 b.b :: u :: cells2g bs us
 | _,_=>[]
theorem jIe:∀ {bs:List Sg} {us:List Value} (b:Sg) (u:Value),us.length=bs.length→cells2g (bs++[b]) (us++[u])=cells2g bs us++[.int .i64 b.b,u]
 | [],[],_,_,_=>rfl
 | c :: bs,x :: us,b,u,h=>by
   have:=jIe (bs:=bs) (us:=us) b u (by simpa using h)
   simp only[List.cons_append,cells2g,this]
theorem jIN:∀ (bs:List Sg) (us:List Value) (i j:Nat),us.length=bs.length→i<bs.length→j<2→(cells2g bs us)[i*2+j]? = some (sgF bs us i j)
 | b :: bs,u :: us,0,j,_,_,hj=>by
   match j,hj with
   | 0,_=>rfl
   | 1,_=>rfl
 | b :: bs,u :: us,i+1,j,h,hi,hj=>by
   have:=jIN bs us i j (by simpa using h) (by simpa using hi) hj
   rw[show (i+1)*2+j=i*2+j+1+1 by omega]
   exact this
def jCr (B:Nat)(v:Value)(bs:List Sg)(w:World):Prop :=
 ∃us:List Value,us.length=bs.length∧w.ownsRow B 41 2 v bs.length (cells2g bs us)∧∀i,i<bs.length→jA7 0 (us.getD i jJN) (bs.getD i jCf).l w
theorem jCr.nil (B:Nat)(w:World):jCr B (.slice none 0 0) [] w:=⟨[],rfl,World.ownsRow_nil _ _ _ _,fun i hi=>absurd hi (by simp)⟩
theorem jCr.step {B:Nat}{v:Value}{bs:List Sg}{w w':World}(hb:Below w.heap.size w w')(h:jCr B v bs w):jCr B v bs w':=by
 obtain⟨us,h1,h2,h3⟩:=h
 exact⟨us,h1,jAZ hb h2,fun i hi=>(h3 i hi).step hb⟩
theorem jCr.form {B:Nat}{v:Value}{bs:List Sg}{w:World}(h:jCr B v bs w):∃ao cap,v=.slice ao bs.length cap:=by
 obtain⟨us,_,h,_⟩:=h
 rcases h.2 with ⟨hv,h0⟩ | ⟨g,cap,cur,hv,_⟩
 ·exact⟨none,0,by rw[hv,h0]⟩
 ·exact⟨_,_,hv⟩
theorem jCr.at {B:Nat}{v:Value}{bs:List Sg}{w:World}(h:jCr B v bs w):jEy w v bs:=by
 obtain⟨us,h1,h2,h3⟩:=h
 refine⟨us,h1,?_,fun i hi=>(h3 i hi).at⟩
 have hc:=h2
 rcases h2.2 with ⟨rfl,h0⟩ | ⟨g,cap,cur,rfl,hg,hh,hn,hm,_⟩
 ·exact⟨none,0,by rw[h0],by omega,by unfold maxLen;omega,fun h=>by omega⟩
 ·refine⟨some ⟨g,0,none⟩,cap,rfl,hn,hm,fun _=>⟨_,rfl,lt_of_block hh,fun i j hi hj=>?_⟩⟩
  exact World.ownsRow.cells hc (g:=g) rfl _ _ (jIN bs us i j h1 hi hj)
theorem jAm {w wr:World}{v:Value}{t:TypeId}(h:Below (w.heap.size+1) (w.alloc (.cells #[v] t)) wr):wr.cell? ⟨w.heap.size,0,none⟩=some v∧Below w.heap.size w wr :=
 ⟨(h.cell (p:=⟨w.heap.size,0,none⟩) (Nat.lt_succ_self _)).trans (jGg w v t).1,(jAb _).trans (h.mono (Nat.le_succ _))⟩
theorem jRm {w wr:World}{o:Obj}(h:Below (w.heap.size+1) (w.alloc o) wr):w.heap.size+1≤wr.heap.size:=by have:=h.size;simpa using this
theorem jAC {w wr w':World}{o:Obj}(h:Below (w.heap.size+1) (w.alloc o) wr)(hb:Below wr.heap.size wr w'):Below (w.heap.size+1) (w.alloc o) w':=h.trans (hb.mono (jRm h))
theorem jCW {B:Nat}{e:TypeId}{z n:Nat}{v:Value}{xs:List Value}{w:World}(h:w.ownsRow B e z v n xs):w.ownsRow 0 e z v n xs :=
 ⟨h.1,h.2.imp id fun ⟨g,cap,cur,e,_,r⟩=>⟨g,cap,cur,e,Nat.zero_le _,r⟩⟩
theorem jCr.more {B:Nat}{v v3 u:Value}{o:List Sg}{us:List Value}{b:Sg}{w w':World}(he:us.length=o.length)(ho:w.ownsRow B 41 2 v o.length (cells2g o us))(hp:∀i,i<o.length→jA7 0 (us.getD i jJN) (o.getD i jCf).l w)(hu:jA7 0 u b.l w)
 (hg:w.grownBy w' v.ownBlock) (h3:w'.ownsRow B 41 2 v3 (o.length+1) (cells2g o us++[.int .i64 b.b,u])):jCr B v3 (o++[b]) w':=by
 refine⟨us++[u],by simp[he],?_,fun i hi=>?_⟩
 ·rw[jIe b u he,List.length_append];exact h3
 ·by_cases hl:i<o.length
  ·have h1:(us++[u]).getD i jJN=us.getD i jJN:=by rw[List.getD_eq_getElem?_getD,List.getD_eq_getElem?_getD,List.getElem?_append_left (by omega)]
   have h2:(o++[b]).getD i jCf=o.getD i jCf:=by rw[List.getD_eq_getElem?_getD,List.getD_eq_getElem?_getD,List.getElem?_append_left hl]
   rw[h1,h2]
   exact (hp i hl).kept hg (jBX (hp i hl) (jCW ho) (by decide))
  ·have hl2:i=o.length:=by simp at hi;omega
   subst hl2
   have h1:(us++[u]).getD o.length jJN=u:=by rw[List.getD_eq_getElem?_getD,←he];simp
   have h2:(o++[b]).getD o.length jCf=b:=by rw[List.getD_eq_getElem?_getD];simp
   rw[h1,h2]
   exact hu.kept hg (jBX hu (jCW ho) (by decide))
end Go.Proofs.YtldapapdolkiaaaGreatDoor
namespace Go.Proofs.YtldapapdolkiaaaGreatDoor
set_option maxHeartbeats 64000000
open Go Go.RowKit
set_option maxRecDepth 100000
def jV6 (x y:Sg):Bool:=decide (x.b=y.b) && jRB x.l y.l
def eqG (bs cs:List Sg)(k:Nat):Prop:=∀i,i<k→jV6 (bs.getD i jCf) (cs.getD i jCf)=true
def jWV (bs cs:List Sg):Bool:=decide (bs.length=cs.length) && (List.range bs.length).all fun i=>jV6 (bs.getD i jCf) (cs.getD i jCf)
theorem jWb {bs cs:List Sg}(h:bs.length≠cs.length):jWV bs cs=false:=by unfold jWV;simp[h]
theorem jYj {bs cs:List Sg}{k:Nat}(hk:k<bs.length)(h:jV6 (bs.getD k jCf) (cs.getD k jCf)=false):jWV bs cs=false:=by
 unfold jWV
 have:(List.range bs.length).all (fun i=>jV6 (bs.getD i jCf) (cs.getD i jCf))=false:=by
  rw[List.all_eq_false]
  exact⟨k,List.mem_range.2 hk,by rw[h];simp⟩
 rw[this,Bool.and_false]
theorem jPH {bs cs:List Sg}(hl:bs.length=cs.length)(h:eqG bs cs bs.length):jWV bs cs=true:=by
 unfold jWV
 rw[decide_eq_true hl,Bool.true_and,List.all_eq_true]
 exact fun i hi=>h i (List.mem_range.1 hi)
theorem jCS {w:World}{A:Addr}{bs:List Sg}{us:List Value}{k:Nat}{wr:World}(hA:A.block<w.heap.size)(jAj:∀i j,i<bs.length→j<2→w.cell? (A.add (i*2+j))=some (sgF bs us i j))(hlt:k<bs.length)(hb:Below w.heap.size w wr) :
 wr.cell? (A.add (k*2))=some (.int .i64 (bs.getD k jCf).b)∧wr.cell? { block:=(A.add (k*2)).block,off:=(A.add (k*2)).off+1 }=some (us.getD k jJN):=by
 have hAb:(A.add (k*2)).block<w.heap.size:=by rw[add_block];exact hA
 refine⟨?_,?_⟩
 ·rw[hb.cell hAb];have:=jAj k 0 hlt (by omega);simpa [sgF] using this
 ·rw[hb.cell (p:={ block:=(A.add (k*2)).block,off:=(A.add (k*2)).off+1 }) hAb];have:=jBq (by omega) (jAj k 1 hlt (by omega));simpa [sgF] using this
theorem jJI (bs cs:List Sg)(u v:Value)(w:World)(hu:jEy w u bs)(hv:jEy w v cs) :
 Calls Tryz.prog 13 #[u,v] w fun e w'=>e=.returned (.bool (jWV bs cs))∧Below w.heap.size w w':=by
 obtain⟨us,hul,⟨p,cap,rfl,hl1,hc,jA4⟩,hup⟩:=hu
 obtain⟨vs,hvl,⟨q,cap2,rfl,hl2,hc2,jNt⟩,hvp⟩:=hv
 unfold maxLen at hc hc2
 have ag:=Tryz.isAgg41
 have zg:=Tryz.sizeOf41
 have HR:=Lib.hid jA4
 have HR2:=Lib.hid jNt
 have HU:=Lib.hid hup
 have HV:=Lib.hid hvp
 clear jA4 jNt hup hvp
 by_cases jBi:bs.length=cs.length
 ·have HL:=Lib.hid jBi
  have HA:=Lib.hid (fun h=>jPH jBi h)
  rw[←jBi]
  clear jBi
  go_enter Tryz.func13,Tryz.ntmps13
  go_wp2
  go_loopw [5] (fun i wr=>∃k:Nat,k≤bs.length∧i=.int .i64 k∧Hid (eqG bs cs k)∧Hid (Below w.heap.size w wr)) (fun i _=>bs.length-(intOf i).toNat)
  case atStart=>exact⟨0,Nat.zero_le _,rfl,fun i h=>by omega,Below.refl _ _⟩
  case round =>
   obtain⟨k,hk,rfl,HE,HB⟩:=hrel
   by_cases hlt:k<bs.length
   ·have jKI:k<cs.length:=by have:=HL.out;omega
    obtain⟨A,rfl,hA,jAj⟩:=HR.out (by omega)
    obtain⟨A2,rfl,hA2,jFD⟩:=HR2.out (by omega)
    obtain⟨x0,x1⟩:=jCS hA jAj hlt HB.out
    obtain⟨z0,z1⟩:=jCS hA2 jFD jKI HB.out
    have hp1:=(HU.out k hlt)
    have hp2:=(HV.out k jKI)
    obtain⟨ao,ca,e1⟩:=jBT hp1
    obtain⟨ao2,ca2,e2⟩:=jBT hp2
    rw[e1]at x1 hp1
    rw[e2]at z1 hp2
    have HF:=Lib.hid (fun h=>jYj (bs:=bs) (cs:=cs) (k:=k) hlt h)
    have HS:Hid (jV6 (bs.getD k jCf) (cs.getD k jCf)=true→eqG bs cs (k+1)):=fun h i hi=>by
     rcases Nat.lt_succ_iff_lt_or_eq.1 hi with h' | rfl
     ·exact HE.out i h'
     ·exact h
    have cS:=fun n=>jII (bs.getD k jCf).l (cs.getD k jCf).l _ _ (wr.drewN n) (hp1.step (jAa HB.out (jAX ⟨n,rfl⟩))) (hp2.step (jAa HB.out (jAX ⟨n,rfl⟩)))
    clear jAj jFD hp1 hp2 e1 e2
    generalize bs.getD k jCf=x at *
    generalize cs.getD k jCf=y at *
    obtain⟨xk,xl⟩:=x
    obtain⟨yk,yl⟩:=y
    simp only at x0 x1 z0 z1 cS
    by_cases e1:xk=yk
    ·generalize hsm:jRB xl yl=sm at cS
     subst e1
     cases sm
     ·have HF2:=Lib.hid (HF.out (by unfold jV6;simp[hsm]))
      clear HF HS hsm
      go_wp2
      go_quiet ((go_at_call 22;refine Calls.quiet_of (cS _)))
      go_wp2
      go_ret
      exact⟨jAc HF2.out.symm,jAa HB.out (jAX ⟨nq,rfl⟩)⟩
     ·have HS2:=Lib.hid (HS.out (by unfold jV6;simp[hsm]))
      clear HF HS hsm
      go_wp2
      go_quiet ((go_at_call 22;refine Calls.quiet_of (cS _)))
      go_wp2
      go_roundw
      case rel=>exact⟨k+1,by omega,by go_num,HS2.out,jAa HB.out (jAX ⟨nq,rfl⟩)⟩
      case measure=>simp[intOf];omega
    ·have HF2:=Lib.hid (HF.out (by unfold jV6;simp[e1]))
     have hk1:(xk == yk)=false:=by simpa using e1
     clear HF HS
     go_wp2
     go_quiet (fail)
     go_wp2
     go_ret
     exact⟨jAc HF2.out.symm,jAa HB.out (jAX ⟨nq,rfl⟩)⟩
   ·have hkl:k=bs.length:=by omega
    subst hkl
    go_wp2
    go_ret
    exact⟨jAc (HA.out HE.out).symm,HB.out⟩
 ·have HX:=Lib.hid (jWb jBi)
  have hlI:((bs.length:Int) == (cs.length:Int))=false:=by simpa using (show ((bs.length:Nat):Int)≠((cs.length:Nat):Int) by omega)
  clear jBi
  go_enter Tryz.func13,Tryz.ntmps13
  go_wp2
  go_ret
  exact⟨jAc HX.out.symm,Below.refl _ _⟩
theorem jTb (bs:List Sg):jWV bs bs=true:=jPH rfl fun i _=>by unfold jV6;rw[jLS];simp
end Go.Proofs.YtldapapdolkiaaaGreatDoor
namespace Go.Proofs.YtldapapdolkiaaaGreatDoor
set_option maxHeartbeats 64000000
open Go Go.RowKit Go.Lib
set_option maxRecDepth 100000
def jVk (S:List Sg)(k:Nat):Nat:=((S.take k).map fun s=>1+s.l.length).sum
theorem jMy (S:List Sg)(k:Nat)(hk:k<S.length):jVk S (k+1)=jVk S k+(1+(S.getD k jCf).l.length):=by
 have e:S.take (k+1)=S.take k++[S.getD k jCf]:=by
  rw[List.take_add_one,List.getElem?_eq_getElem hk]
  simp[List.getD_eq_getElem?_getD,List.getElem?_eq_getElem hk]
 unfold jVk
 rw[e]
 simp
theorem jTz (S:List Sg):∀k,k≤S.length→k≤jVk S k
 | 0,_=>Nat.zero_le _
 | k+1,h=>by
   have:=jTz S k (by omega)
   rw[jMy S k (by omega)]
   omega
theorem jWl {S:List Sg}{k:Nat}(hk:k<S.length):S.getD k jCf ∈ S:=by
 rw[List.getD_eq_getElem?_getD,List.getElem?_eq_getElem hk];exact List.getElem_mem hk
def Few3 (S:List Sg):Prop:=S.length≤3000∧∀i,i<S.length→bulk (S.getD i jCf).l≤2500
def jXl (S:List Sg)(e:Ending):Prop:=∃b,e=.returned (.bool b)∧(b=false→Few3 S)
theorem jVj (S:List Sg)(v:Value)(w:World)(hv:jEy w v S)(hs:∀b ∈ S,(∀x ∈ b.l,x.s.size≤140737488355328)∧b.l.length≤140737488355328)(hn:S.length≤140737488355328) :
 Calls Tryz.prog 9 #[v] w fun e w'=>jXl S e∧Below w.heap.size w w':=by
 obtain⟨us,hul,⟨p,cap,rfl,hl1,hc,jA4⟩,hup⟩:=hv
 unfold maxLen at hc
 have ag:=Tryz.isAgg41
 have zg:=Tryz.sizeOf41
 have HR:=hid jA4
 have HU:=hid hup
 have HS:=hid hs
 clear jA4 hup hs
 go_enter Tryz.func9,Tryz.ntmps9
 go_wp2
 go_loopw [3,4] (fun n i wr=>∃k:Nat,k≤S.length∧i=.int .i64 k∧n=.int .i64 (jVk S k)∧Hid (jVk S k≤3000)∧Hid (∀j,j<k→bulk (S.getD j jCf).l≤2500)∧Hid (Below w.heap.size w wr)) (fun _ i _=>S.length-(RowKit.intOf i).toNat)
 case atStart=>exact⟨0,Nat.zero_le _,rfl,rfl,(by show jVk S 0≤3000;simp[jVk]),(fun j h=>by omega),Below.refl _ _⟩
 case round =>
  obtain⟨k,hk,rfl,rfl,HC,HL,HB⟩:=hrel
  by_cases hlt:k<S.length
  ·obtain⟨A,rfl,hA,jAj⟩:=HR.out (by omega)
   obtain⟨x0,x1⟩:=jCS hA jAj hlt HB.out
   have hp1:=(HU.out k hlt)
   obtain⟨ao,ca,e1⟩:=jBT hp1
   rw[e1]at x1 hp1
   have hsz:=HS.out _ (jWl hlt)
   have HCS:=hid (jMy S k hlt)
   have hcb:=HC.out
   have HLN:Hid (bulk (S.getD k jCf).l≤2500→∀j,j<k+1→bulk (S.getD j jCf).l≤2500):=fun h j hj=>by
    rcases Nat.lt_succ_iff_lt_or_eq.1 hj with h' | rfl
    ·exact HL.out j h'
    ·exact h
   clear jAj e1
   generalize S.getD k jCf=x at *
   obtain⟨xb,xl⟩:=x
   simp only at x0 x1 hp1 hsz HLN HCS
   have hbx:=jAa HB.out (jAb (w:=wr) (.cells #[.slice ao xl.length ca] 39))
   have HBX:=hid hbx
   have cL:=jPe xl (.slice ao xl.length ca) wr.heap.size (wr.alloc (.cells #[.slice ao xl.length ca] 39)) (by rw[Lib.cell_of_heap (heap_alloc_new wr _)];rfl) (hp1.step hbx) hsz.1 hsz.2
   have hll:=hsz.2
   clear hbx hp1 hsz
   generalize jVk S k=q at *
   have w1:IntKind.i64.wrap ((q:Int)+1)=(q:Int)+1:=by rw[IntKind.wrap_i64];omega
   have w2:IntKind.i64.wrap ((q:Int)+1+(xl.length:Int))=(q:Int)+1+(xl.length:Int):=by rw[IntKind.wrap_i64];omega
   by_cases h3:3000<q+1+xl.length
   ·have h3I:(3000:Int)<(q:Int)+1+(xl.length:Int):=by omega
    clear cL HLN HCS
    go_wp2
    go_ret
    exact⟨⟨true,rfl,fun h=>by cases h⟩,HB.out⟩
   ·have h3I:¬(3000:Int)<(q:Int)+1+(xl.length:Int):=by omega
    go_wp2_with (go_at_call 18;(with_reducible refine cL.mono ?_);rintro e w3 ⟨⟨b,rfl,hb⟩,hw⟩;obtain rfl:=hw.symm;cases b)
    ·have qA4:=hid (HLN.out (by simpa using hb))
     clear hb HLN
     go_wp2
     go_roundw
     case rel=>exact⟨k+1,hlt,by go_num,by rw[HCS.out];go_num,(by show _≤_;rw[HCS.out];omega),qA4.out,HBX.out⟩
     case measure=>simp[RowKit.intOf];omega
    ·clear HLN HCS
     go_wp2
     go_ret
     exact⟨⟨true,rfl,fun h=>by cases h⟩,HBX.out⟩
  ·have hkl:k=S.length:=by omega
   subst hkl
   have hge:=jTz S S.length (Nat.le_refl _)
   have hcb:=HC.out
   have HF:=hid (show Few3 S from ⟨by omega,HL.out⟩)
   clear hge hcb
   go_wp2
   go_ret
   exact⟨⟨false,rfl,fun _=>HF.out⟩,HB.out⟩
end Go.Proofs.YtldapapdolkiaaaGreatDoor
namespace Go.Proofs.YtldapapdolkiaaaGreatDoor
set_option maxHeartbeats 64000000
open Go Go.RowKit Go.Lib
set_option maxRecDepth 100000
def jAe (S:List Sg)(n:Nat):List (List Pc):=(S.filter fun s=>decide (s.b=(n:Int))).map Sg.l
theorem jKE (S:List Sg)(s:Sg)(n:Nat):jAe (S++[s]) n=if s.b=(n:Int) then jAe S n++[s.l] else jAe S n:=by
 unfold jAe
 rw[List.filter_append,List.map_append]
 by_cases h:s.b=(n:Int)
 ·rw[if_pos h];simp[h]
 ·rw[if_neg h];simp[h]
theorem jSa {S:List Sg}{n:Nat}{q:List Pc}(h:q ∈ jAe S n):∃s ∈ S,s.l=q∧s.b=(n:Int):=by
 unfold jAe at h
 obtain⟨s,hs,rfl⟩:=List.mem_map.1 h
 have h2:=List.mem_filter.1 hs
 exact⟨s,h2.1,rfl,by simpa using h2.2⟩
theorem jJk (S:List Sg)(n:Nat):(jAe S n).length≤S.length:=by
 unfold jAe
 rw[List.length_map]
 exact List.length_filter_le _ _
def jLH (K:List Bk)(p:Int)(s:Sg):Bool:=decide (p≤s.b) && decide (s.b<(K.length:Int)) && decide ((K.getD s.b.toNat jBp).k≠6)
def jE5 (K:List Bk)(S:List Sg):Nat→Bool
 | 0=>true
 | k+1=>jE5 K S k && jLH K (if k=0 then 0 else (S.getD (k-1) jCf).b) (S.getD k jCf)
theorem jMq {K:List Bk}{S:List Sg}{k:Nat}(h:jE5 K S k=false):∀d,jE5 K S (k+d)=false
 | 0=>h
 | d+1=>by
   show (jE5 K S (k+d) && _)=false
   rw[jMq h d]
   rfl
theorem jMs {K:List Bk}{S:List Sg}{k:Nat}(hk:k<S.length)(h:jLH K (if k=0 then 0 else (S.getD (k-1) jCf).b) (S.getD k jCf)=false):jE5 K S S.length=false:=by
 have h1:jE5 K S (k+1)=false:=by show (_ && _)=false;rw[h,Bool.and_false]
 have h2:=jMq h1 (S.length-(k+1))
 rwa [show k+1+(S.length-(k+1))=S.length by omega]at h2
def jTr (K:List Bk)(S:List Sg)(n:Nat):Bool:=decide ((K.getD n jBp).k=6) || decide (jAe S n≠[])
def jFU (K:List Bk)(S:List Sg):Nat→Bool
 | 0=>true
 | k+1=>jFU K S k && jTr K S k
theorem jIM {K:List Bk}{S:List Sg}{k:Nat}(h:jFU K S k=false):∀d,jFU K S (k+d)=false
 | 0=>h
 | d+1=>by
   show (jFU K S (k+d) && _)=false
   rw[jIM h d]
   rfl
theorem jI6 {K:List Bk}{S:List Sg}{k:Nat}(hk:k<K.length)(h:jTr K S k=false):jFU K S K.length=false:=by
 have h1:jFU K S (k+1)=false:=by show (_ && _)=false;rw[h,Bool.and_false]
 have h2:=jIM h1 (K.length-(k+1))
 rwa [show k+1+(K.length-(k+1))=K.length by omega]at h2
def jJK (K:List Bk)(S:List Sg):Bool:=jE5 K S S.length && jFU K S K.length
def rbE (K:List Bk)(S:List Sg)(n:Nat):Int :=
 if (K.getD n jBp).k=6 then 0 else if jCA (jAe S n)≠0 then jCA (jAe S n) else if jC9 (jCb (jAe S n))=false then 8 else 0
def rbL (K:List Bk)(S:List Sg)(n:Nat):Bk:=if (K.getD n jBp).k=6 then K.getD n jBp else ⟨(K.getD n jBp).k,jCb (jAe S n)⟩
def jJU (K:List Bk)(S:List Sg):Nat→Int
 | 0=>0
 | k+1=>if jJU K S k≠0 then jJU K S k else rbE K S k
def jQB (K:List Bk)(S:List Sg)(k:Nat):List Bk:=(List.range k).map (rbL K S)
theorem jNb (K:List Bk)(S:List Sg)(k:Nat):jQB K S (k+1)=jQB K S k++[rbL K S k]:=by
 unfold jQB
 rw[List.range_succ,List.map_append]
 rfl
def rsE (K:List Bk)(S:List Sg):Int:=if jFz K≠0 then jFz K else if jJK K S=false then 1 else jJU K S K.length
def rsL (K:List Bk)(S:List Sg):List Bk:=if rsE K S=0 then jQB K S K.length else []
theorem jKC {K:List Bk}{S:List Sg}{k:Nat}(h:jJU K S k≠0):∀d,jJU K S (k+d)=jJU K S k
 | 0=>rfl
 | d+1=>by
   have ih:=jKC h d
   show jJU K S (k+d+1)=_
   rw[jJU,ih,if_pos h]
theorem jJB {K:List Bk}{S:List Sg}{k:Nat}(h:jJU K S k=0):jJU K S (k+1)=rbE K S k:=by rw[jJU,if_neg (by simp[h])]
theorem jV2 {K:List Bk}{S:List Sg}{k:Nat}(hk:k<K.length)(h:jJU K S k=0)(he:rbE K S k≠0):jJU K S K.length=rbE K S k:=by
 have h1:=jJB h
 have h2:=jKC (K:=K) (S:=S) (k:=k+1) (by rw[h1];exact he) (K.length-(k+1))
 rw[show K.length=k+1+(K.length-(k+1)) by omega,h2,h1]
theorem Few3.parts {S:List Sg}(h:Few3 S)(n:Nat):(jAe S n).length≤3000∧∀q ∈ jAe S n,bulk q≤2500:=by
 refine⟨Nat.le_trans (jJk S n) h.1,fun q hq=>?_⟩
 obtain⟨s,hs,rfl,_⟩:=jSa hq
 obtain⟨i,hi,rfl⟩:=List.getElem_of_mem hs
 have:=h.2 i hi
 rwa [List.getD_eq_getElem?_getD,List.getElem?_eq_getElem hi]at this
end Go.Proofs.YtldapapdolkiaaaGreatDoor
namespace Go.Proofs.YtldapapdolkiaaaGreatDoor
set_option maxHeartbeats 64000000
open Go Go.RowKit Go.Lib
set_option maxRecDepth 100000
structure jZp (bs:List Sg):Prop where
 nums:∀b ∈ bs,-9223372036854775808≤b.b∧b.b≤9223372036854775807
 sizes:∀b ∈ bs,(∀x ∈ b.l,x.s.size≤140737488355328)∧b.l.length≤140737488355328
 len:bs.length≤140737488355328
section
variable {H:Type} {enc:TypeId × Value→H} {W:World} {sp:Nat→Bool} {held:Bool}
theorem jRk {d0 d1:DataW H}{l r:List (DataW H)}(hd:(.agg [d0,d1]:DataW H) ∈ l){n:Nat}(hn:n ∈ d1.weights Tryz.prog 39):n ∈ (DataW.slice l r:DataW H).weights Tryz.prog 26:=by
 have h1:n ∈ (.agg [d0,d1]:DataW H).weights Tryz.prog 41:=by
  simp only[DataW.weights,Tryz.underlying41]
  simp[DataW.weightsEach,hn]
 have h2:=jDp (e:=41) hd h1
 simp only[DataW.weights,Tryz.underlying26]
 simp[h2]
theorem jOK {l r:List (DataW H)}:(l.length+r.length)*Tryz.prog.bytesOf 41 ∈ (DataW.slice l r:DataW H).weights Tryz.prog 26:=by
 simp only[DataW.weights,Tryz.underlying26]
 simp
theorem jUU {fuel:Nat}{cs:List Value}{d:DataW H}{p:List MemPlace}(h:DataW.trod enc Tryz.prog W 0 sp held fuel 26 cs=some (d,p))
 (hw:∀n ∈ d.weights Tryz.prog 26,n≤reachBytes):∃ (bs:List Sg) (v:Value),cs=[v]∧jEy W v bs∧jZp bs:=by
 have hr:reachBytes≤140737488355328:=by decide
 rcases Go.Deep.open_slice_pairs Tryz.underlying26 Tryz.underlying41 (by kernel_rfl) rfl rfl (by kernel_rfl) (by kernel_rfl) h with ⟨hv,_⟩ | ⟨a,len,cap,m,n',V0,V1,D0,D1,P0,P1,hv,_,hle,hmx,hmm,hy,hel⟩
 ·subst hv
  exact⟨[],_,rfl,jSO _,⟨by simp,by simp,by simp⟩⟩
 ·subst hv
  have hy1:d=.slice ((List.range len).map fun i=>.agg [D0 i,D1 i]) ((List.range (m-len)).map fun j=>.agg [D0 (len+j),D1 (len+j)]):=congrArg Prod.fst hy
  rw[hy1]at hw
  have hlm:len≤m:=by rw[hmm];split <;> omega
  have each:∀i:Fin len,∃b:Sg,V0 i.1=.int .i64 b.b∧(-9223372036854775808≤b.b∧b.b≤9223372036854775807)∧jBe W (V1 i.1) b.l∧(∀x ∈ b.l,x.s.size≤140737488355328)∧b.l.length≤140737488355328:=fun i=>by
   obtain⟨_,_,t0,t1⟩:=hel i.1 (by have:=i.2;omega)
   obtain⟨z,c0,_,hwf⟩:=DataW.trod_int Tryz.underlying3 t0
   have jFu:(.agg [D0 i.1,D1 i.1]:DataW H) ∈ (List.range len).map fun i=>(.agg [D0 i,D1 i]:DataW H):=List.mem_map.2 ⟨i.1,List.mem_range.2 i.2,rfl⟩
   obtain⟨l,u,hu,hp,hs,hn⟩:=jO1 t1 (fun n hn=>hw n (jRk jFu hn))
   refine⟨⟨z,l⟩,by simpa using c0,?_,?_,hs,hn⟩
   ·have hz:IntKind.i64.min≤z∧z≤IntKind.i64.max:=by simp[Lit.wf]at hwf;exact hwf
    have h0:IntKind.i64.min=-9223372036854775808:=by decide
    have h1:IntKind.i64.max=9223372036854775807:=by decide
    simp only
    omega
   ·obtain rfl:V1 i.1=u:=by simpa using hu
    exact hp
  refine⟨List.ofFn fun i=>Classical.choose (each i),_,rfl,⟨List.ofFn fun i:Fin len=>V1 i.1,by simp,⟨some a,cap,by simp,by simpa using hle,hmx,fun h0=>⟨a,rfl,?_,?_⟩⟩,?_⟩,⟨?_,?_,?_⟩⟩
  ·have h0':0<len:=by simpa using h0
   obtain⟨c0,_⟩:=hel 0 (by omega)
   have hb:=World.block_lt_of_cell? W _ c0
   rwa [add_block]at hb
  ·intro i j hi hj
   have hi':i<len:=by simpa using hi
   obtain⟨c0,c1,_⟩:=hel i (by omega)
   have hg:(List.ofFn fun i=>Classical.choose (each i)).getD i jCf=Classical.choose (each ⟨i,hi'⟩):=by
    rw[List.getD_eq_getElem?_getD,List.getElem?_eq_getElem hi];simp
   have hg2:(List.ofFn fun i:Fin len=>V1 i.1).getD i jJN=V1 i:=by
    rw[List.getD_eq_getElem?_getD,List.getElem?_eq_getElem (by simpa using hi')];simp
   obtain⟨e0,_⟩:=Classical.choose_spec (each ⟨i,hi'⟩)
   unfold sgF
   rw[hg,hg2]
   match j,hj with
   | 0,_=>rw[Nat.add_zero,c0];simp only[if_pos];exact congrArg some e0
   | 1,_=>rw[c1];simp
  ·intro i hi
   have hi':i<len:=by simpa using hi
   have hg:(List.ofFn fun i=>Classical.choose (each i)).getD i jCf=Classical.choose (each ⟨i,hi'⟩):=by
    rw[List.getD_eq_getElem?_getD,List.getElem?_eq_getElem hi];simp
   have hg2:(List.ofFn fun i:Fin len=>V1 i.1).getD i jJN=V1 i:=by
    rw[List.getD_eq_getElem?_getD,List.getElem?_eq_getElem (by simpa using hi')];simp
   rw[hg,hg2]
   exact (Classical.choose_spec (each ⟨i,hi'⟩)).2.2.1
  ·intro b hb
   obtain⟨i,hi,rfl⟩:=List.getElem_of_mem hb
   have hi':i<len:=by simpa using hi
   have e:(List.ofFn fun i=>Classical.choose (each i))[i]=Classical.choose (each ⟨i,hi'⟩):=by simp
   rw[e]
   exact (Classical.choose_spec (each ⟨i,hi'⟩)).2.1
  ·intro b hb
   obtain⟨i,hi,rfl⟩:=List.getElem_of_mem hb
   have hi':i<len:=by simpa using hi
   have e:(List.ofFn fun i=>Classical.choose (each i))[i]=Classical.choose (each ⟨i,hi'⟩):=by simp
   rw[e]
   exact (Classical.choose_spec (each ⟨i,hi'⟩)).2.2.2
  ·have key:=hw _ jOK
   have hby:1≤Tryz.prog.bytesOf 41:=by decide +kernel
   simp only[List.length_map,List.length_range,List.length_ofFn]at key ⊢
   have:len*1≤(len+(m-len))*Tryz.prog.bytesOf 41:=Nat.mul_le_mul (by omega) hby
   omega
end
end Go.Proofs.YtldapapdolkiaaaGreatDoor
