/- The segments of a document, as the program cuts them. Which parts are of which block, as the program tells it. A copy of a list of pieces; the document that a call builds, in a cell of its own. The document with segments in their place, as the program makes it. -/
import Derived.Test.YtldapapdolkiaaaGreatDoorSgA
import Derived.Test.YtldapapdolkiaaaGreatDoorBrE
import Derived.Test.YtldapapdolkiaaaGreatDoorCuE
import Derived.Test.YtldapapdolkiaaaGreatDoorDoA
import Derived.Test.YtldapapdolkiaaaGreatDoorGlD
import Derived.Deep.RegionHeld3
import Derived.OwnWalk
import Derived.Laws.OwnMore
import Derived.Laws.AppendOwnNone
import Derived.Test.YtldapapdolkiaaaGreatDoorGlB
namespace Go.Proofs.YtldapapdolkiaaaGreatDoor
set_option maxHeartbeats 64000000
open Go Go.RowKit Go.Lib
set_option maxRecDepth 100000
theorem jMA:∀ {bs:List Bk},jGr bs=0→∀b ∈ bs,jBF b=0
 | [],_,b,hb=>by cases hb
 | c :: r,h,b,hb=>by
   unfold jGr at h
   by_cases hc:jBF c=0
   ·rw[if_neg (by simp[hc])]at h
    rcases List.mem_cons.1 hb with rfl | hb
    ·exact hc
    ·exact jMA h b hb
   ·rw[if_pos hc]at h
    exact absurd h hc
theorem jKM {bs:List Bk}(h:jFz bs=0):bs.length≤256∧∀b ∈ bs,jBF b=0:=by
 unfold jFz at h
 by_cases hl:256<bs.length
 ·rw[if_pos hl]at h;exact absurd h (by decide)
 ·rw[if_neg hl]at h;exact⟨by omega,jMA h⟩
theorem jJu {b:Bk}(h:jBF b=0):jAu b.l=0:=by
 unfold jBF at h
 by_cases h1:b.k<1∨6<b.k
 ·rw[if_pos h1]at h;exact absurd h (by decide)
 ·rw[if_neg h1]at h
  by_cases h2:jAu b.l=0
  ·exact h2
  ·rw[if_pos h2]at h;exact absurd h h2
theorem jK6 (R:List Rl){l:List Pc}(hb:bulk l≤2500):(plcs R l).length≤2500:=by
 unfold plcs
 rw[List.length_map]
 have h1:(jGN R (jCa l)).length≤(jCa l).length:=by
  unfold jGN
  have:=List.length_filter_le (fun p=>decide (0<p) && jCp R (jCa l) p) (List.range (jCa l).length)
  rw[List.length_range]at this
  exact this
 have h2:=jHA l
 rw[jLr]at h1
 unfold jAW at h1
 omega
theorem jXr {l:List Pc}{at':List Int}:(ctR l at').length≤at'.length+1:=by
 unfold ctR jK2
 split
 ·rw[List.length_append,List.length_singleton]
  have:=jK8 (at':=at') (S:=jAh l) (jAh l).length (Nat.le_refl _)
  omega
 ·simp
def jB3 (k:Nat)(Q:List (List Pc)):List Sg:=Q.map fun q=>⟨(k:Int),q⟩
theorem jEc (k:Nat)(Q:List (List Pc)):(jB3 k Q).length=Q.length:=by unfold jB3;simp
theorem jIp (k:Nat)(Q:List (List Pc)):jB3 k (Q.take 0)=[]:=by simp[jB3]
theorem jIg {k:Nat}{Q:List (List Pc)}{j:Nat}(h:j<Q.length):jB3 k (Q.take (j+1))=jB3 k (Q.take j)++[⟨(k:Int),Q.getD j []⟩]:=by
 unfold jB3
 rw[List.take_add_one,List.getElem?_eq_getElem h,List.map_append,List.getD_eq_getElem?_getD,List.getElem?_eq_getElem h]
 rfl
theorem jLl {R:List Rl}{i:Nat}{b:Bk}(h:b.k=6):jXO R i b=[]:=by unfold jXO;rw[if_pos h]
theorem jLj {R:List Rl}{i:Nat}{b:Bk}(h:b.k≠6):jXO R i b=jB3 i (ctR b.l (plcs R b.l)):=by unfold jXO jB3;rw[if_neg h]
theorem jPs {R:List Rl}{b:Bk}(h:b.k=6):jOY R b=0:=by unfold jOY;rw[if_pos h]
theorem jO3 {R:List Rl}{b:Bk}(h:b.k≠6):jOY R b=ctE b.l (plcs R b.l):=by unfold jOY;rw[if_neg h]
theorem jGQ (R:List Rl)(bs:List Bk)(k:Nat):jBZ R bs (k+1)=jBZ R bs k++jXO R k (bs.getD k jBp):=rfl
theorem jVs {R:List Rl}{i:Nat}{b:Bk}(h:bulk b.l≤2500):(jXO R i b).length≤2501:=by
 by_cases h6:b.k=6
 ·rw[jLl h6];simp
 ·rw[jLj h6,jEc]
  have h1:=jXr (l:=b.l) (at':=plcs R b.l)
  have h2:=jK6 R h
  omega
theorem jIj {R:List Rl}{bs:List Bk}(h:∀b ∈ bs,bulk b.l≤2500):∀k,k≤bs.length→(jBZ R bs k).length≤k*2501
 | 0,_=>by simp[jBZ]
 | k+1,hk=>by
   have h1:=jIj (R:=R) h k (by omega)
   have h2:=jVs (R:=R) (i:=k) (h _ (jDH (show k<bs.length by omega)))
   rw[jGQ,List.length_append]
   omega
def jDS (bs:List Bk)(R:List Rl)(e:Ending)(w':World):Prop:=∃r,e=.returned (.tuple #[r,.int .u8 (sgE bs R)])∧jEy w' r (sgL bs R)
theorem jDS.bad {bs:List Bk}{R:List Rl}{z:Int}(h:sgE bs R=z)(hz:z≠0)(w':World):jDS bs R (.returned (.tuple #[.slice none 0 0,.int .u8 z])) w':=by
 subst h
 refine⟨_,rfl,?_⟩
 unfold sgL
 rw[if_neg hz]
 exact jSO _
theorem jDS.doc {bs:List Bk}{R:List Rl}(h:jFz bs≠0)(w':World):jDS bs R (.returned (.tuple #[.slice none 0 0,.int .u8 (jFz bs)])) w' :=
 .bad (by unfold sgE;rw[if_pos h]) h w'
theorem jDS.rules {bs:List Bk}{R:List Rl}(h0:jFz bs=0)(h:jDw R≠0)(w':World):jDS bs R (.returned (.tuple #[.slice none 0 0,.int .u8 (jDw R)])) w' :=
 .bad (by unfold sgE;rw[if_neg (by simp[h0]),if_pos h]) h w'
theorem jDS.block {bs:List Bk}{R:List Rl}(h0:jFz bs=0)(h1:jDw R=0){k:Nat}(hk:k<bs.length)(hS:jDV R bs k=0)(h:jOY R (bs.getD k jBp)≠0)(w':World):jDS bs R (.returned (.tuple #[.slice none 0 0,.int .u8 (jOY R (bs.getD k jBp))])) w' :=
 .bad (by unfold sgE;rw[if_neg (by simp[h0]),if_neg (by simp[h1]),jSw hk hS h]) h w'
theorem jDS.good {bs:List Bk}{R:List Rl}(h0:jFz bs=0)(h1:jDw R=0)(hS:jDV R bs bs.length=0){r:Value}{w':World}(hr:jEy w' r (jBZ R bs bs.length)):jDS bs R (.returned (.tuple #[r,.int .u8 0])) w':=by
 have h:sgE bs R=0:=by unfold sgE;rw[if_neg (by simp[h0]),if_neg (by simp[h1])];exact hS
 refine⟨r,by rw[h],?_⟩
 unfold sgL
 rw[if_pos h]
 exact hr
theorem jEZ.more {w w':World}{v u:Value}{Q:List (List Pc)}{B n:Nat}{xs:List Value}(h:jEZ w v Q)(o:Obj)(ho:w.ownsRow B 41 2 u n xs)(hg:(w.alloc o).grownBy w' u.ownBlock):jEZ w' v Q:=by
 have hb:Below w.heap.size w (w.alloc o):=jAb o
 have ho2:=jAZ hb (jCW ho)
 obtain⟨us,h1,h2,h3⟩:=h.step hb
 exact⟨us,h1,h2.kept hg (jBX h2 ho2 (by decide)),fun i hi=>(h3 i hi).kept hg (jBX (h3 i hi) ho2 (by decide))⟩
theorem jEZ.own {w:World}{v:Value}{Q:List (List Pc)}(h:jEZ w v Q){j:Nat}(hj:j<Q.length):∃A q c cap,v=.slice (some A) Q.length cap∧w.cell? (A.add j)=some (.slice q (Q.getD j []).length c)∧jA7 0 (.slice q (Q.getD j []).length c) (Q.getD j []) w:=by
 obtain⟨us,h1,h2,h3⟩:=h
 obtain⟨p,cap,e,_,_,hc⟩:=jI3 h2
 obtain⟨A,rfl,_,jAj⟩:=hc (by omega)
 have x:=jAj j 0 hj (by omega)
 have h4:=h3 j hj
 obtain⟨q,c,e2⟩:=h4.form
 rw[show j*1+0=j by omega]at x
 unfold ptF at x
 rw[e2]at x h4
 exact⟨A,q,c,cap,e,x,h4⟩
theorem jLK (bs:List Bk)(R:List Rl)(v vR:Value)(w:World)
 (hv:jDr w v bs) (hr:jB5 w vR R) (hz:SzR R) (hk:∀b ∈ bs,0≤b.k) (hs:∀b ∈ bs,∀x ∈ b.l,x.s.size≤maxLen) (hb:bs.length≤256→∀b ∈ bs,bulk b.l≤2500) (hT:Tabs w) (hC:jGn jH4 w) :
 Calls Tryz.prog 11 #[.agg #[v],vR] w fun e w'=>jDS bs R e w'∧Below w.heap.size w w':=by
 have HD0:=hid (jGg w v 24)
 have HB0:=hid (jAb (w:=w) (.cells #[v] 24))
 have cD:=fun wr (h:Below w.heap.size w wr)=>jHi bs v wr (hv.step h) hk hs (hT.step h)
 have cR:=fun wr (h:Below w.heap.size w wr)=>jIs R vR wr (hr.step h) hz (hT.step h)
 have hg:5≤w.heap.size:=hT.2.2
 obtain⟨i0,hi,hz0,hz1,hz2⟩:=info_parts jS0
 have ag:=Tryz.isAgg44
 have zg:=Tryz.sizeOf44
 have ag2:=Tryz.isAgg24
 have zg2:=Tryz.sizeOf24
 have HV:=hid hv
 have HRu:=hid hr
 have HZ:=hid hz
 have HT:=hid hT
 have HC:=hid hC
 obtain⟨us0,qAz,⟨p,cap,rfl,hl1,hc,jA4⟩,jQi⟩:=hv
 obtain⟨pR,cpR,rfl,hlR,hcR,_⟩:=hr
 unfold maxLen at hc hcR
 have HR:=hid jA4
 have HU:=hid jQi
 clear jA4 jQi hz hT hC
 by_cases hD:jFz bs=0
 ·obtain⟨jNz,jH0⟩:=jKM hD
  have hbk:=hb jNz
  by_cases hE:jDw R=0
  ·have HF:=hid jH0
   have HK:=hid hbk
   have jJD:=hid (fun (h:jDV R bs bs.length=0) (r:Value) (w':World) (hr:jEy w' r (jBZ R bs bs.length))=>jDS.good hD hE h hr)
   have jUq:=hid (fun (k:Nat) (hk:k<bs.length) (hS:jDV R bs k=0) (h:jOY R (bs.getD k jBp)≠0) (w':World)=>jDS.block hD hE hk hS h w')
   have HE:=hid hE
   have jBi:=fun k hk=>jIj (R:=R) hbk k hk
   rw[hD]at cD
   rw[hE]at cR
   clear hD hE jH0 hbk hb hk hs
   go_enter Tryz.func11,Tryz.ntmps11
   go_wp2_with (first
    | (go_at_call 38;(with_reducible refine (cD _ HB0.out).mono ?_);rintro e w1 ⟨rfl,hb1⟩;have HB1:=hid (jAa HB0.out hb1);have HD1:=hid (HD0.out.step hb1);have b1:=HD1.out.1;clear hb1)
    | (go_at_call 39;(with_reducible refine (cR _ HB1.out).mono ?_);rintro e w2 ⟨rfl,hb2⟩;have HB2:=hid (jAa HB1.out hb2);have HD2:=hid (HD1.out.step hb2);have b2:=HD2.out.1;clear hb2))
   go_loopw [8,29] (fun o i wr=>∃k:Nat,k≤bs.length∧i=.int .i64 k∧Hid (jDV R bs k=0)∧Hid (jCr w.heap.size o (jBZ R bs k) wr)∧Hid (Below w.heap.size w wr)) (fun _ i _=>bs.length-(RowKit.intOf i).toNat)
   case atStart=>exact⟨0,Nat.zero_le _,rfl,rfl,jCr.nil _ _,HB2.out⟩
   case round =>
    obtain⟨k,hk,rfl,HS,HO,HB⟩:=hrel
    obtain⟨ao,ca0,rfl⟩:=HO.out.form
    by_cases hlt:k<bs.length
    ·have hkI:(k:Int)<(bs.length:Int):=by omega
     have hk0:(0:Int)≤(k:Int):=by omega
     obtain⟨A,rfl,hA,jAj⟩:=HR.out (by omega)
     obtain⟨x0,x1⟩:=jBv hA jAj hlt HB.out
     have hp1:=HU.out k hlt
     obtain⟨aq,cq,e1⟩:=jBT hp1
     rw[e1]at x1 hp1
     have jFu:=jDH hlt
     have hck:=jJu (HF.out _ jFu)
     have hbu:=HK.out _ jFu
     have hsc:=jGQ R bs k
     have hl0:=jBi k (by omega)
     have hl2:=jBi (k+1) hlt
     have HSN:=hid (fun h:jOY R (bs.getD k jBp)=0=>(jGV HS.out).trans h)
     have HBK:=hid (jUq.out k hlt HS.out)
     rw[hsc]at hl2
     have HSC:=hid hsc
     clear jAj e1 jFu hsc
     generalize bs.getD k jBp=x at *
     obtain⟨xk,xl⟩:=x
     simp only at x0 x1 hp1 hck hbu
     have HBX:=hid (jAa HB.out (jAb (w:=wr) (.cells #[.int .u8 xk,.slice aq xl.length cq] 44)))
     have HX:=hid (jVg.new wr xk (.slice aq xl.length cq) 44)
     have HOX:=hid (HO.out.step (jAb (.cells #[.int .u8 xk,.slice aq xl.length cq] 44)))
     by_cases h6:xk=6
     ·subst h6
      have HN:=hid (HSN.out (jPs rfl))
      have HQ:=hid (show jBZ R bs (k+1)=jBZ R bs k by rw[HSC.out,jLl rfl,List.append_nil])
      clear HSN HBK HSC hl2 hck hp1
      go_wp2
      go_roundw
      case rel=>exact⟨k+1,hlt,by go_num,HN.out,by rw[HQ.out];exact HOX.out,HBX.out⟩
      case measure=>simp[RowKit.intOf];omega
     ·have h6b:(xk == 6)=false:=by simpa using h6
      have eE:=jO3 (R:=R) (b:=⟨xk,xl⟩) h6
      have eS:=jLj (R:=R) (i:=k) (b:=⟨xk,xl⟩) h6
      simp only at eE eS
      rw[eE]at HSN HBK
      rw[eS]at hl2 HSC
      have hE0:=HE.out
      have ebE:brE R xl=0:=by unfold brE;rw[if_neg (by simp[hE0])];exact hck
      have ebR:(brR R xl).map (fun p:Nat=>(p:Int))=plcs R xl:=by unfold brR plcs;rw[if_pos ebE]
      have cB:=fun wr (h:Below w.heap.size w wr)=>jQX R xl _ _ wr (HRu.out.step h) HZ.out (hp1.step h) (by omega) (HT.out.step h) (HC.out.below h (by omega))
      rw[ebE,ebR]at cB
      have hpl:=jK6 R hbu
      have cC:=fun va wr (h:Below w.heap.size w wr) (ha:jC0 wr va (plcs R xl))=>jXz xl (plcs R xl) _ va wr (hp1.step h) ha (by omega) (by omega) (HT.out.step h)
      clear eE eS ebE ebR hE0 hp1 hck h6
      generalize plcs R xl=PL at *
      generalize ctE xl PL=Z at *
      generalize ctR xl PL=Q at *
      rw[List.length_append,jEc]at hl2
      by_cases hZ:Z=0
      ·subst hZ
       have HN:=hid (HSN.out rfl)
       clear HSN HBK
       go_wp2_with (first
        | (go_at_call 36;(with_reducible refine (cB _ HBX.out).mono ?_);rintro e w4 ⟨⟨r4,rfl,hr4⟩,hb4⟩;obtain⟨p4,c4,rfl,_,_⟩:=hr4.form;have HI4:=hid hr4;have HB4:=hid (jAa HBX.out hb4);have HX4:=hid (HX.out.step hb4);obtain⟨y0,y1,_⟩:=HX4.out;have HO4:=hid (HOX.out.step hb4);clear hb4 hr4)
        | (go_at_call 37;(with_reducible refine (cC _ _ HB4.out HI4.out).mono ?_);rintro e w5 ⟨⟨r5,rfl,hr5⟩,hb5⟩;obtain⟨p5,c5,rfl,_,_⟩:=hr5.form;have HP5:=hid hr5;have HB5:=hid (jAa HB4.out hb5);have HO5:=hid (HO4.out.step hb5);clear hb5 hr5 y0 y1))
       have HS0:Hid (jCr w.heap.size (.slice ao (jBZ R bs k).length ca0) (jBZ R bs k++jB3 k (Q.take 0)) w5):=by
        have h:=HO5.out
        show jCr _ _ _ _
        rw[jIp,List.append_nil]
        exact h
       clear HO HO4 HO5 HOX HX HX4
       go_loopw [8,59] (fun o i wr=>∃j:Nat,j≤Q.length∧i=.int .i64 j∧Hid (jCr w.heap.size o (jBZ R bs k++jB3 k (Q.take j)) wr)∧Hid (jEZ wr (.slice p5 Q.length c5) Q)∧Hid (Below w.heap.size w wr)) (fun _ i _=>Q.length-(RowKit.intOf i).toNat)
       case atStart=>exact⟨0,Nat.zero_le _,rfl,HS0.out,HP5.out,HB5.out⟩
       case round =>
        obtain⟨j,hj,rfl,HOj,HPt,HBj⟩:=hrel
        have hlj:(jBZ R bs k++jB3 k (Q.take j)).length=(jBZ R bs k).length+j:=by rw[List.length_append,jEc,List.length_take];omega
        obtain⟨ao7,ca7,rfl⟩:=HOj.out.form
        by_cases hjl:j<Q.length
        ·have hjI:(j:Int)<(Q.length:Int):=by omega
         have hj0:(0:Int)≤(j:Int):=by omega
         obtain⟨A5,q7,c7,cap5,e5,z0,hq⟩:=HPt.out.own hjl
         injection e5 with e51 e52 e53
         subst e51 e53
         have HQ7:=hid hq
         have HSS:=hid (show jBZ R bs k++jB3 k (Q.take (j+1))=jBZ R bs k++jB3 k (Q.take j)++[⟨(k:Int),Q.getD j []⟩] by rw[jIg hjl,List.append_assoc])
         obtain⟨us,hul,jAN,hup⟩:=HOj.out
         generalize jBZ R bs k++jB3 k (Q.take j)=L at *
         generalize Q.getD j []=part at *
         have q1:=hid (show L.length+1≤maxLen by unfold maxLen;omega)
         have q2:=hid (show (L.length+1)*32≤140737488355328 by omega)
         have one2:Hid (∀ao n cap,∀u ∈ ([.int .i64 (k:Int),.slice ao n cap]:List Value),u.oneCell'=true):=by intro ao n cap u hu;simp at hu;rcases hu with rfl | rfl <;> rfl
         clear hq hlj e52
         go_wp2_with (first
          | (at_builtin;refine wpList_append_own _ rfl _ _ 26 rfl w.heap.size 41 i0 _ 2 32 Tryz.underlying26 hi hz0 hz1 hz2 rfl (by decide) _ _ _ rfl (jAN.alloc (.cells #[.int .i64 (k:Int),.slice q7 part.length c7] 41)) ⟨wr.heap.size,0,none⟩ 1 1 [.int .i64 (k:Int),.slice q7 part.length c7] rfl rfl (jBV _ _ _ _) (one2.out _ _ _) q1.out q2.out (Nat.le_trans HBj.out.size (jAb (w:=wr) (.cells #[.int .i64 (k:Int),.slice q7 part.length c7] 41)).size) ?_;intro v6 w6 jA5 jAv jC8
             have HO6:=hid (jCr.more (b:=⟨(k:Int),part⟩) hul (jAN.alloc (.cells #[.int .i64 (k:Int),.slice q7 part.length c7] 41)) (fun i hi=>(hup i hi).step (jAb _)) (HQ7.out.step (jAb _)) jAv jA5)
             have HB6:=hid ((HBj.out.alloc HBj.out.size (.cells #[.int .i64 (k:Int),.slice q7 part.length c7] 41)).grown jAv (Nat.le_trans HBj.out.size (jAb (w:=wr) (.cells #[.int .i64 (k:Int),.slice q7 part.length c7] 41)).size) (fun k hk=>(jAN.lt k hk).1))
             have HP6:=hid (jEZ.more HPt.out (.cells #[.int .i64 (k:Int),.slice q7 part.length c7] 41) jAN jAv)
             clear jA5 jAv jC8))
         go_roundw
         case rel=>exact⟨j+1,hjl,by go_num,by show jCr _ _ _ _;rw[HSS.out];exact HO6.out,HP6.out,HB6.out⟩
         case measure=>simp[RowKit.intOf];omega
        ·obtain rfl:j=Q.length:=by omega
         have hjI:¬(Q.length:Int)<(Q.length:Int):=by omega
         have HOz:Hid (jCr w.heap.size (.slice ao7 (jBZ R bs k++jB3 k (Q.take Q.length)).length ca7) (jBZ R bs (k+1)) wr):=by
          have h:=HOj.out
          show jCr _ _ _ _
          rw[HSC.out]
          rw[List.take_length]at h ⊢
          exact h
         clear HOj
         go_wp2
         go_roundw
         case rel=>exact⟨k+1,hlt,by go_num,HN.out,HOz.out,HBj.out⟩
         case measure=>simp[RowKit.intOf];omega
      ·have hZ2:(Z == 0)=false:=by simpa using hZ
       have HX9:=hid (HBK.out hZ)
       clear HSN HBK hZ
       go_wp2_with (first
        | (go_at_call 36;(with_reducible refine (cB _ HBX.out).mono ?_);rintro e w4 ⟨⟨r4,rfl,hr4⟩,hb4⟩;obtain⟨p4,c4,rfl,_,_⟩:=hr4.form;have HI4:=hid hr4;have HB4:=hid (jAa HBX.out hb4);have HX4:=hid (HX.out.step hb4);obtain⟨y0,y1,_⟩:=HX4.out;have HO4:=hid (HOX.out.step hb4);clear hb4 hr4)
        | (go_at_call 37;(with_reducible refine (cC _ _ HB4.out HI4.out).mono ?_);rintro e w5 ⟨⟨r5,rfl,hr5⟩,hb5⟩;obtain⟨p5,c5,rfl,_,_⟩:=hr5.form;have HP5:=hid hr5;have HB5:=hid (jAa HB4.out hb5);have HO5:=hid (HO4.out.step hb5);clear hb5 hr5 y0 y1))
       go_ret2
       exact⟨HX9.out _,HB5.out⟩
    ·obtain rfl:k=bs.length:=by omega
     have hkI:¬(bs.length:Int)<(bs.length:Int):=by omega
     have HX9:=hid (jJD.out HS.out _ wr HO.out.at)
     clear jJD jUq
     generalize jBZ R bs bs.length=L at *
     go_wp2
     go_ret2
     exact⟨HX9.out,HB.out⟩
  ·have HX9:=hid (fun w'=>jDS.rules (bs:=bs) hD hE w')
   rw[hD]at cD
   generalize jDw R=Z at *
   have hZ2:(Z == 0)=false:=by simpa using hE
   clear hE hD jH0 hbk
   go_enter Tryz.func11,Tryz.ntmps11
   go_wp2_with (first
    | (go_at_call 38;(with_reducible refine (cD _ HB0.out).mono ?_);rintro e w1 ⟨rfl,hb1⟩;have HB1:=hid (jAa HB0.out hb1);have HD1:=hid (HD0.out.step hb1);have b1:=HD1.out.1;clear hb1)
    | (go_at_call 39;(with_reducible refine (cR _ HB1.out).mono ?_);rintro e w2 ⟨rfl,hb2⟩;have HB2:=hid (jAa HB1.out hb2);have HD2:=hid (HD1.out.step hb2);have b2:=HD2.out.1;clear hb2))
   go_ret2
   exact⟨HX9.out _,HB2.out⟩
 ·have HX9:=hid (fun w'=>jDS.doc (R:=R) hD w')
  generalize jFz bs=Z at *
  have hZ2:(Z == 0)=false:=by simpa using hD
  clear hD
  go_enter Tryz.func11,Tryz.ntmps11
  go_wp2_with (first
   | (go_at_call 38;(with_reducible refine (cD _ HB0.out).mono ?_);rintro e w1 ⟨rfl,hb1⟩;have HB1:=hid (jAa HB0.out hb1);have HD1:=hid (HD0.out.step hb1);have b1:=HD1.out.1;clear hb1))
  go_ret2
  exact⟨HX9.out _,HB1.out⟩
end Go.Proofs.YtldapapdolkiaaaGreatDoor
namespace Go.Proofs.YtldapapdolkiaaaGreatDoor
set_option maxHeartbeats 64000000
open Go Go.RowKit Go.Lib
set_option maxRecDepth 100000
def jIQ (w:World)(g:Nat)(t:TypeId)(n:Nat)(f:Nat→Value):Prop:=∃cur:Array Value,w.heap[g]? = some (.cells cur t (0,0))∧cur.size=n∧∀j,j<n→cur[j]? = some (f j)
theorem jIQ.cell {w:World}{g:Nat}{t:TypeId}{n:Nat}{f:Nat→Value}(h:jIQ w g t n f){j:Nat}(hj:j<n):w.cell? ⟨g,j,none⟩=some (f j):=by
 obtain⟨cur,h1,_,h3⟩:=h
 simp[World.cell?,h1,h3 j hj]
theorem jIQ.frozen {w:World}{g:Nat}{t:TypeId}{n:Nat}{f:Nat→Value}(h:jIQ w g t n f)(j:Nat):w.frozen? ⟨g,j,none⟩=false:=by
 obtain⟨cur,h1,_,_⟩:=h
 exact frozen_of_row w g j cur t h1
theorem jIQ.lt {w:World}{g:Nat}{t:TypeId}{n:Nat}{f:Nat→Value}(h:jIQ w g t n f):g<w.heap.size:=by
 obtain⟨cur,h1,_,_⟩:=h
 exact (Array.getElem?_eq_some_iff.1 h1).1
theorem jIQ.step {w w':World}{g:Nat}{t:TypeId}{n:Nat}{f:Nat→Value}(hb:Below w.heap.size w w')(h:jIQ w g t n f):jIQ w' g t n f:=by
 have hlt:=h.lt
 obtain⟨cur,h1,h2,h3⟩:=h
 exact⟨cur,(hb.block g hlt).trans h1,h2,h3⟩
theorem jIQ.set {w:World}{g:Nat}{t:TypeId}{n:Nat}{f:Nat→Value}(h:jIQ w g t n f)(j:Nat)(v:Value)(f':Nat→Value)(hf:∀k,k<n→f' k=if k=j then v else f k):jIQ (w.setCell ⟨g,j,none⟩ v) g t n f':=by
 obtain⟨cur,h1,h2,h3⟩:=h
 refine⟨cur.setIfInBounds j v,heap_setCell_same w g j cur t v h1,by simpa using h2,fun k hk=>?_⟩
 rw[hf k hk]
 by_cases e:k=j
 ·subst e
  simp[h2,hk]
 ·rw[if_neg e,Array.getElem?_setIfInBounds_ne (fun h=>e h.symm)]
  exact h3 k hk
theorem jIQ.far {w:World}{g:Nat}{t:TypeId}{n:Nat}{f:Nat→Value}(h:jIQ w g t n f){a:Addr}(v:Value)(hg:a.block≠g):jIQ (w.setCell a v) g t n f:=by
 obtain⟨cur,h1,h2,h3⟩:=h
 exact⟨cur,(heap_setCell_other w a g v (fun e=>hg e.symm)).trans h1,h2,h3⟩
theorem jIQ.make (w:World)(z:Value)(n:Nat)(t:TypeId):jIQ (w.alloc (.cells (madeCells #[z] n) t)) w.heap.size t n (fun _=>z):=by
 refine⟨_,(MapKept.heap_alloc w _).1,size_madeCells _ _,fun j hj=>?_⟩
 have e:=toList_madeCells_one z n
 rw[←Array.getElem?_toList,e]
 simp[hj]
theorem jRf (n:Nat)(hn:n≤256)(w:World) :
 (Instr.makeSlice 85 (.int .i64 (n:Int)) (.int .i64 (n:Int))).run Tryz.prog w=.ok (.slice (some ⟨w.heap.size,0,none⟩) n n) (w.alloc (.cells (madeCells #[.slice none 0 0] n) 47)):=by
 obtain⟨i,h1,h2,h3,h4⟩:=info_parts (show (Tryz.prog.info? 47).map (fun i=>(i.zero,i.size,i.bytes))=some (some (.slice none 0 0),1,24) by kernel_rfl)
 have hb:i.bytes*n≤24*256:=Nat.mul_le_mul (by omega) hn
 have hbi:(i.bytes:Int)*(n:Int)≤281474976710656:=by
  have e:((i.bytes*n:Nat):Int)=(i.bytes:Int)*(n:Int):=by push_cast;rfl
  omega
 have hr:=run_make (P:=Tryz.prog) w 85 47 i _ Tryz.underlying85 h1 h2 .i64 .i64 (n:Int) (n:Int) (by omega) (Int.le_refl _) hbi (by omega)
 rw[h3,Nat.mul_one,Int.toNat_natCast]at hr
 exact hr
theorem jPt:(Tryz.prog.info? 39).map (fun i=>(i.zero,i.size,i.bytes))=some (some (.slice none 0 0),1,24):=by kernel_rfl
def PRow (B:Nat)(w0:World)(v:Value)(ps:List (List Pc))(w:World):Prop :=
 ∃us:List Value,us.length=ps.length∧w.ownsRow B 39 1 v ps.length us∧∀t,t<ps.length→jBe w0 (us.getD t jDy) (ps.getD t [])
theorem PRow.nil (B:Nat)(w0 w:World):PRow B w0 (.slice none 0 0) [] w:=⟨[],rfl,World.ownsRow_nil _ _ _ _,fun t h=>absurd h (by simp)⟩
theorem PRow.low {B C:Nat}{w0 w:World}{v:Value}{ps:List (List Pc)}(h:PRow B w0 v ps w)(hC:C≤B):PRow C w0 v ps w:=by
 obtain⟨us,h1,h2,h3⟩:=h
 exact⟨us,h1,jCu h2 hC,h3⟩
theorem PRow.keep {B:Nat}{w0 w w':World}{v:Value}{ps:List (List Pc)}(h:PRow B w0 v ps w)(hk:∀b,v.ownBlock=some b→w'.heap[b]? = w.heap[b]?):PRow B w0 v ps w':=by
 obtain⟨us,h1,h2,h3⟩:=h
 refine⟨us,h1,⟨h2.1,?_⟩,h3⟩
 rcases h2.2 with hn | ⟨g,cap,cur,hv,hbg,hg,r⟩
 ·exact .inl hn
 ·exact .inr ⟨g,cap,cur,hv,hbg,(hk g (by rw[hv];rfl)).trans hg,r⟩
theorem PRow.lt {B:Nat}{w0 w:World}{v:Value}{ps:List (List Pc)}(h:PRow B w0 v ps w):∀b,v.ownBlock=some b→B≤b∧b<w.heap.size:=by
 obtain⟨us,_,h2,_⟩:=h
 exact fun b hb=>World.ownsRow.lt h2 b hb
theorem PRow.ne {B g:Nat}{w0 w:World}{v:Value}{ps:List (List Pc)}{cs:Array Value}{t:TypeId}(h:PRow B w0 v ps w)(hg:w.heap[g]? = some (.cells cs t (0,0)))(ht:39≠t):∀b,v.ownBlock=some b→b≠g:=by
 obtain⟨us,_,h2,_⟩:=h
 rintro b hb rfl
 exact jAI h2 hg ht hb
theorem PRow.at {B:Nat}{w0 w:World}{v:Value}{ps:List (List Pc)}(h:PRow B w0 v ps w)(hb:Below w0.heap.size w0 w):jDA w v ps:=by
 obtain⟨us,h1,h2,h3⟩:=h
 exact⟨us,h1,jI3 h2,fun i hi=>(h3 i hi).step hb⟩
theorem PRow.form {B:Nat}{w0 w:World}{v:Value}{ps:List (List Pc)}(h:PRow B w0 v ps w):∃ao cap,v=.slice ao ps.length cap:=by
 obtain⟨us,_,h2,_⟩:=h
 exact jDI h2
structure jD3 (B g Bp m n:Nat)(f:Nat→Value)(Ps:Nat→List (List Pc))(w0 w:World):Prop where
 row:jIQ w g 47 n f
 old:∀i,i<m→PRow B w0 (f i) (Ps i) w∧∀b,(f i).ownBlock=some b→b<Bp
 cur:PRow Bp w0 (f m) (Ps m) w
 far:∀i,m<i→f i=.slice none 0 0∧Ps i=[]
 le:B≤Bp
 lt:Bp≤w.heap.size
theorem jD3.step {B g Bp m n:Nat}{f:Nat→Value}{Ps:Nat→List (List Pc)}{w0 w w':World}(h:jD3 B g Bp m n f Ps w0 w)(hb:Below w.heap.size w w'):jD3 B g Bp m n f Ps w0 w' :=
 ⟨h.row.step hb,fun i hi=>⟨(h.old i hi).1.keep (fun b e=>hb.block b ((h.old i hi).1.lt b e).2),(h.old i hi).2⟩,h.cur.keep (fun b e=>hb.block b (h.cur.lt b e).2),h.far,h.le,Nat.le_trans h.lt hb.size⟩
theorem jD3.congr {B g Bp m n:Nat}{f:Nat→Value}{Ps Qs:Nat→List (List Pc)}{w0 w:World}(h:jD3 B g Bp m n f Ps w0 w)(e:∀i,Ps i=Qs i):jD3 B g Bp m n f Qs w0 w :=
 ⟨h.row,fun i hi=>by rw[←e i];exact h.old i hi,by rw[←e m];exact h.cur,fun i hi=>by rw[←e i];exact h.far i hi,h.le,h.lt⟩
theorem jD3.to {B g Bp m n:Nat}{f:Nat→Value}{Ps:Nat→List (List Pc)}{w0 w:World}(h:jD3 B g Bp m n f Ps w0 w){q:Nat}(hq:m≤q):∃Bq,jD3 B g Bq q n f Ps w0 w:=by
 by_cases e:m=q
 ·subst e;exact⟨Bp,h⟩
 ·refine⟨w.heap.size,h.row,fun i hi=>?_,?_,fun i hi=>h.far i (by omega),Nat.le_trans h.le h.lt,Nat.le_refl _⟩
  ·by_cases h1:i<m
   ·exact⟨(h.old i h1).1,fun b e=>by have:=(h.old i h1).2 b e;have:=h.lt;omega⟩
   ·by_cases h2:i=m
    ·subst h2
     exact⟨h.cur.low h.le,fun b e=>(h.cur.lt b e).2⟩
    ·obtain⟨e1,e2⟩:=h.far i (by omega)
     rw[e1,e2]
     exact⟨PRow.nil _ _ _,fun b e=>by simp[Value.ownBlock]at e⟩
  ·obtain⟨e1,e2⟩:=h.far q (by omega)
   rw[e1,e2]
   exact PRow.nil _ _ _
theorem jD3.put {B g Bp m n:Nat}{f:Nat→Value}{Ps:Nat→List (List Pc)}{w0 w w':World}(h:jD3 B g Bp m n f Ps w0 w)(hg:w.grownBy w' (f m).ownBlock){v':Value}{p:List Pc}(hp:PRow Bp w0 v' (Ps m++[p]) w') :
 jD3 B g Bp m n (fun i=>if i=m then v' else f i) (fun i=>if i=m then Ps m++[p] else Ps i) w0 (w'.setCell ⟨g,m,none⟩ v')∧w'.cell? ⟨g,m,none⟩=w.cell? ⟨g,m,none⟩∧w'.frozen? ⟨g,m,none⟩=false:=by
 obtain⟨cs,hcs,hz,jAj⟩:=h.row
 have hne:=h.cur.ne hcs (by decide)
 have hgk:w'.heap[g]? = w.heap[g]?:=hg.block g (lt_of_block hcs) (fun e=>hne g e.symm rfl)
 have jA4:jIQ w' g 47 n f:=⟨cs,hgk.trans hcs,hz,jAj⟩
 have jUw:∀b,b≠g→(w'.setCell ⟨g,m,none⟩ v').heap[b]? = w'.heap[b]?:=fun b hb=>Below.heap_setCell _ _ _ _ hb
 refine⟨⟨jA4.set m v' _ (fun k _=>rfl),fun i hi=>?_,?_,fun i hi=>?_,h.le,by rw[show (w'.setCell ⟨g,m,none⟩ v').heap.size=w'.heap.size by simp[World.setCell]];exact Nat.le_trans h.lt hg.size⟩,?_,jA4.frozen m⟩
 ·rw[if_neg (by omega),if_neg (by omega)]
  obtain⟨h1,h2⟩:=h.old i hi
  refine⟨h1.keep fun b e=>?_,h2⟩
  rw[jUw b (h1.ne hcs (by decide) b e)]
  refine hg.block b (h1.lt b e).2 fun e2=>?_
  have:=h2 b e
  have:=(h.cur.lt b e2.symm).1
  omega
 ·rw[if_pos rfl,if_pos rfl]
  refine hp.keep fun b e=>jUw b ?_
  exact hp.ne (hgk.trans hcs) (by decide) b e
 ·rw[if_neg (by omega),if_neg (by omega)]
  exact h.far i hi
 ·unfold World.cell?
  rw[hgk]
theorem jD3.new (w:World)(o:Obj)(n:Nat):jD3 (w.heap.size+1) (w.heap.size+1) (w.heap.size+1) 0 n (fun _=>.slice none 0 0) (fun _=>[]) w ((w.alloc o).alloc (.cells (madeCells #[.slice none 0 0] n) 47)):=by
 have h:=jIQ.make (w.alloc o) (.slice none 0 0) n 47
 rw[show (w.alloc o).heap.size=w.heap.size+1 by simp]at h
 exact⟨h,fun i hi=>absurd hi (Nat.not_lt_zero _),PRow.nil _ _ _,fun _ _=>⟨rfl,rfl⟩,Nat.le_refl _,by simp⟩
def jDC (bs:List Bk)(S:List Sg)(e:Ending)(w':World):Prop :=
 if jJK bs S=true then ∃g f,e=.returned (.tuple #[.slice (some ⟨g,0,none⟩) bs.length bs.length,.bool true])∧jIQ w' g 47 bs.length f∧∀i,i<bs.length→jDA w' (f i) (jAe S i)
 else e=.returned (.tuple #[.slice none 0 0,.bool false])
theorem jDC.no {bs:List Bk}{S:List Sg}(h:jJK bs S=false)(w':World):jDC bs S (.returned (.tuple #[.slice none 0 0,.bool false])) w':=by
 unfold jDC
 rw[if_neg (by simp[h])]
theorem jDC.order {bs:List Bk}{S:List Sg}{k:Nat}(hk:k<S.length)(h:jLH bs (if k=0 then 0 else (S.getD (k-1) jCf).b) (S.getD k jCf)=false)(w':World):jDC bs S (.returned (.tuple #[.slice none 0 0,.bool false])) w' :=
 .no (by unfold jJK;rw[jMs hk h,Bool.false_and]) w'
theorem jDC.lacks {bs:List Bk}{S:List Sg}{k:Nat}(hk:k<bs.length)(h:jTr bs S k=false)(w':World):jDC bs S (.returned (.tuple #[.slice none 0 0,.bool false])) w' :=
 .no (by unfold jJK;rw[jI6 hk h,Bool.and_false]) w'
theorem jDC.yes {bs:List Bk}{S:List Sg}(h1:jE5 bs S S.length=true)(h2:jFU bs S bs.length=true){g:Nat}{f:Nat→Value}{w':World}(hr:jIQ w' g 47 bs.length f)(hp:∀i,i<bs.length→jDA w' (f i) (jAe S i)):jDC bs S (.returned (.tuple #[.slice (some ⟨g,0,none⟩) bs.length bs.length,.bool true])) w':=by
 unfold jDC
 rw[if_pos (by unfold jJK;rw[h1,h2];rfl)]
 exact⟨g,f,rfl,hr,hp⟩
theorem jKe {S:List Sg}{k:Nat}(h:k<S.length):S.take (k+1)=S.take k++[S.getD k jCf]:=by
 rw[List.take_add_one,List.getElem?_eq_getElem h,List.getD_eq_getElem?_getD,List.getElem?_eq_getElem h]
 rfl
theorem jD3.parts {B g Bp m n:Nat}{f:Nat→Value}{S:List Sg}{w0 w:World}(h:jD3 B g Bp m n f (jAe S) w0 w){i:Nat}(hb:Below w0.heap.size w0 w):jDA w (f i) (jAe S i):=by
 by_cases h1:i<m
 ·exact (h.old i h1).1.at hb
 ·by_cases h2:i=m
  ·subst h2;exact h.cur.at hb
  ·obtain⟨e1,e2⟩:=h.far i (by omega)
   rw[e1,e2]
   exact jXG _
theorem jTt (bs:List Bk)(S:List Sg)(v vS:Value)(w:World)(hv:jDr w v bs)(hS:jEy w vS S)(hn:bs.length≤256)(h3:S.length≤1000000) :
 Calls Tryz.prog 44 #[.agg #[v],vS] w fun e w'=>jDC bs S e w'∧Below w.heap.size w w':=by
 obtain⟨us0,qAz,⟨p,cap,rfl,hl1,hc,jA4⟩,jQi⟩:=hv
 obtain⟨us1,hul1,⟨p1,cap1,rfl,hl11,hc1,jUr⟩,qAl⟩:=hS
 obtain⟨i0,hi,hz0,hz1,hz2⟩:=info_parts jPt
 have hmk:=jRf bs.length hn
 unfold maxLen at hc hc1
 have ag:=Tryz.isAgg44
 have zg:=Tryz.sizeOf44
 have ag2:=Tryz.isAgg24
 have zg2:=Tryz.sizeOf24
 have ag3:=Tryz.isAgg41
 have zg3:=Tryz.sizeOf41
 have HR:=hid jA4
 have HR1:=hid jUr
 have HU1:=hid qAl
 have HU0:=hid jQi
 have HM0:=hid (jD3.new w (.cells #[.slice p bs.length cap] 24) bs.length)
 have HB0:Hid (Below (w.heap.size+1) (w.alloc (.cells #[.slice p bs.length cap] 24)) ((w.alloc (.cells #[.slice p bs.length cap] 24)).alloc (.cells (madeCells #[.slice none 0 0] bs.length) 47))):=(Below.refl _ _).alloc (by simp) _
 clear jA4 jUr jQi qAl
 go_enter Tryz.func44,Tryz.ntmps44
 go_wp2
 go_loopw [7,18] (fun l i wr=>∃k m:Nat,k≤S.length∧i=.int .i64 k∧l=.int .i64 m∧Hid ((m:Int)=if k=0 then 0 else (S.getD (k-1) jCf).b)∧Hid (jE5 bs S k=true)∧Hid (∃Bp f,jD3 (w.heap.size+1) (w.heap.size+1) Bp m bs.length f (jAe (S.take k)) w wr)∧Hid (Below (w.heap.size+1) (w.alloc (.cells #[.slice p bs.length cap] 24)) wr)) (fun _ i _=>S.length-(RowKit.intOf i).toNat)
 case atStart=>exact⟨0,0,Nat.zero_le _,rfl,rfl,rfl,rfl,⟨_,_,HM0.out⟩,HB0.out⟩
 case round =>
  obtain⟨k,m,hk,rfl,rfl,HL,HO,HM,HB⟩:=hrel
  obtain⟨b0,hW⟩:=jAm HB.out
  by_cases hlt:k<S.length
  ·have hkI:(k:Int)<(S.length:Int):=by omega
   have hk0:(0:Int)≤(k:Int):=by omega
   obtain⟨A1,rfl,hA1,jEG⟩:=HR1.out (by omega)
   obtain⟨x0,x1⟩:=jCS hA1 jEG hlt hW
   have hp1:=HU1.out k hlt
   obtain⟨aq,cq,e1⟩:=jBT hp1
   rw[e1]at x1 hp1
   have HT:=hid (jKe hlt)
   have HNo:=hid (fun h w'=>jDC.order (bs:=bs) hlt h w')
   have jIa:=hid (show jLH bs (if k=0 then 0 else (S.getD (k-1) jCf).b) (S.getD k jCf)=true→jE5 bs S (k+1)=true from fun h=>by show (_ && _)=true;rw[HO.out,h];rfl)
   have HK1:=hid (show (if k+1=0 then 0 else (S.getD (k+1-1) jCf).b)=(S.getD k jCf).b by rw[if_neg (by omega)];simp)
   rw[←HL.out]at HNo jIa
   clear jEG e1
   generalize S.getD k jCf=x at *
   obtain⟨xb,xl⟩:=x
   simp only at x0 x1 hp1 HK1
   have HBX:=hid (jAC HB.out (jAb (w:=wr) (.cells #[.int .i64 xb,.slice aq xl.length cq] 41)))
   obtain⟨bx,hWX⟩:=jAm HBX.out
   by_cases c1:xb<(m:Int)
   ·have HX9:=hid (HNo.out (by unfold jLH;simp;omega))
    clear jIa HNo hWX hp1
    go_wp2
    go_ret2
    exact⟨HX9.out _,(jAm HBX.out).2⟩
   ·obtain⟨q,rfl⟩:∃q:Nat,xb=(q:Int):=⟨xb.toNat,by omega⟩
    by_cases c2:bs.length≤q
    ·have c2I:¬(q:Int)<(bs.length:Int):=by omega
     have c2J:(bs.length:Int)≤(q:Int):=by omega
     have HX9:=hid (HNo.out (by unfold jLH;simp;omega))
     clear jIa HNo hWX hp1
     go_wp2
     go_ret2
     exact⟨HX9.out _,(jAm HBX.out).2⟩
    ·have hq:q<bs.length:=by omega
     have c2I:(q:Int)<(bs.length:Int):=by omega
     have c2J:¬(bs.length:Int)≤(q:Int):=by omega
     have hq0:(0:Int)≤(q:Int):=by omega
     obtain⟨A,rfl,hA,jAj⟩:=HR.out (by omega)
     obtain⟨y0,_⟩:=jBv hA jAj hq hWX
     by_cases c3:(bs.getD q jBp).k=6
     ·have HX9:=hid (HNo.out (by show (decide ((m:Int)≤(q:Int)) && decide ((q:Int)<(bs.length:Int)) && decide ((bs.getD (Int.toNat (q:Int)) jBp).k≠6))=false;rw[Int.toNat_natCast,decide_eq_false (show ¬((bs.getD q jBp).k≠6) from fun h=>h c3),Bool.and_false]))
      rw[c3]at y0
      clear jIa HNo hWX hp1 jAj c3
      go_wp2
      go_ret2
      exact⟨HX9.out _,(jAm HBX.out).2⟩
     ·have HX9:=hid (jIa.out (by show (decide ((m:Int)≤(q:Int)) && decide ((q:Int)<(bs.length:Int)) && decide ((bs.getD (Int.toNat (q:Int)) jBp).k≠6))=true;rw[Int.toNat_natCast,decide_eq_true (show (m:Int)≤(q:Int) by omega),decide_eq_true c2I,decide_eq_true (show (bs.getD q jBp).k≠6 from c3)];rfl))
      generalize (bs.getD q jBp).k=kk at *
      have c3b:(kk == 6)=false:=by simpa using c3
      clear jIa HNo hWX jAj c3
      go_wp2
      obtain⟨wx,hwx⟩:∃wx,wx=wr.alloc (.cells #[.int .i64 (q:Int),.slice aq xl.length cq] 41):=⟨_,rfl⟩
      rw[←hwx]at HBX bx y0
      have z1:wx.cell? ⟨wr.heap.size,1,none⟩=some (.slice aq xl.length cq):=by rw[hwx];simp
      have HMX:Hid (∃Bp f,jD3 (w.heap.size+1) (w.heap.size+1) Bp m bs.length f (jAe (S.take k)) w wx):=by
       obtain⟨Bp,f,h⟩:=HM.out
       rw[hwx]
       exact⟨Bp,f,h.step (jAb _)⟩
      rw[←hwx]
      obtain⟨Bp0,f,hm0⟩:=HMX.out
      obtain⟨Bp,hm1⟩:=hm0.to (show m≤q by omega)
      have HMQ:=hid hm1
      have c9:=hm1.row.cell hq
      obtain⟨us,hul,jAN,hup⟩:=hm1.cur
      obtain⟨aof,cof,hf⟩:=hm1.cur.form
      rw[hf]at c9 jAN
      have HUP:=hid hup
      have HUL:=hid hul
      have hpl:=jJk (S.take k) q
      rw[List.length_take]at hpl
      have q1:=hid (show (jAe (S.take k) q).length+1≤maxLen by unfold maxLen;omega)
      have q2:=hid (show ((jAe (S.take k) q).length+1)*24≤140737488355328 by omega)
      have q3:=hid (show Bp≤(wx.drew.alloc (.cells #[.slice aq xl.length cq] 39)).heap.size from Nat.le_trans hm1.lt (show wx.heap.size≤(wx.alloc (.cells #[.slice aq xl.length cq] 39)).heap.size by simp))
      have HO1:=hid (show (wx.drew.alloc (.cells #[.slice aq xl.length cq] 39)).ownsRow Bp 39 1 (.slice aof (jAe (S.take k) q).length cof) (jAe (S.take k) q).length us from World.ownsRow.alloc (w:=wx.drew) jAN _)
      have HP1:=hid hp1
      have HF:=hid hf
      have HHA:Hid ((wx.drew.alloc (.cells #[.slice aq xl.length cq] 39)).cell? ⟨w.heap.size+1,q,none⟩=some (.slice aof (jAe (S.take k) q).length cof)∧(wx.drew.alloc (.cells #[.slice aq xl.length cq] 39)).cell? ⟨wr.heap.size,1,none⟩=some (.slice aq xl.length cq)) :=
       ⟨((jAb (w:=wx.drew) _).cell (p:=⟨w.heap.size+1,q,none⟩) hm1.row.lt).trans c9,((jAb (w:=wx.drew) _).cell (p:=⟨wr.heap.size,1,none⟩) (by show wr.heap.size<wx.heap.size;rw[hwx];simp)).trans z1⟩
      have HNW:=hid (jBH wx.drew (.slice aq xl.length cq) 39)
      have HON:Hid (∀u ∈ ([.slice aq xl.length cq]:List Value),u.oneCell'=true):=by intro u hu;simp at hu;subst hu;rfl
      have q4:Hid (0<1):=Nat.one_pos
      have HNX:Hid (∀i,(if i=q then jAe (S.take k) q++[xl] else jAe (S.take k) i)=jAe (S.take (k+1)) i):=fun i=>by
       rw[HT.out,jKE]
       by_cases e:i=q
       ·subst e;rw[if_pos rfl,if_pos rfl]
       ·rw[if_neg e,if_neg (by simp only;omega)]
      have HPR:Hid (∀v12 w12,World.ownsRow w12 Bp 39 1 v12 ((jAe (S.take k) q).length+1) (us++[.slice aq xl.length cq])→PRow Bp w v12 (jAe (S.take k) q++[xl]) w12):=fun v12 w12 h=>by
       refine⟨us++[.slice aq xl.length cq],by simp[hul],by rw[List.length_append,List.length_singleton];exact h,fun i hi=>?_⟩
       by_cases hio:i<(jAe (S.take k) q).length
       ·rw[jCc us _ _ (by omega),jCc (jAe (S.take k) q) _ _ hio]
        exact hup i hio
       ·obtain rfl:i=(jAe (S.take k) q).length:=by rw[List.length_append,List.length_singleton]at hi;omega
        have e1:(us++[Value.slice aq xl.length cq]).getD (jAe (S.take k) q).length jDy=Value.slice aq xl.length cq:=by rw[List.getD_eq_getElem?_getD,List.getElem?_append_right (by omega),hul];simp
        have e2:(jAe (S.take k) q++[xl]).getD (jAe (S.take k) q).length []=xl:=by rw[List.getD_eq_getElem?_getD,List.getElem?_append_right (Nat.le_refl _)];simp
        rw[e1,e2]
        exact hp1
      have HBY:=hid (HBX.out.drew.alloc (show w.heap.size+1≤wx.heap.size from jRm HBX.out) (.cells #[.slice aq xl.length cq] 39))
      have HMY:=hid (hm1.step ((jDM wx 1).alloc (Nat.le_refl _) (.cells #[.slice aq xl.length cq] 39)))
      clear HM HMX hwx hm0 hm1 jAN hup hul hf hp1 hpl
      generalize hL:(jAe (S.take k) q).length=L at *
      have HL2:=hid hL
      clear hL
      refine jCM (fun w'=>w'.cell? ⟨w.heap.size+1,q,none⟩=some (.slice aof L cof)∧w'.cell? ⟨wr.heap.size,1,none⟩=some (.slice aq xl.length cq)) [5,7,8,9] (by kernel_rfl) ⟨c9,z1⟩ (fun hHeld=>?_)
      refine jAK (i:=0) (v:=?va1x0) rfl (by kernel_rfl) (by kernel_rfl) (by kernel_rfl) (by kernel_rfl) (fun _ _ _ h=>h) (Or.inl ⟨by rfl,?hy1x0⟩) (fun _=>hHeld) ?re1x0
      case hy1x0=>(intro w9 _;go_simp;try with_reducible rfl)
      refine jAK (i:=1) (v:=?va2x1) rfl (by kernel_rfl) (by kernel_rfl) (by kernel_rfl) (by kernel_rfl) (fun _ _ _ h=>h) (Or.inl ⟨by rfl,?hy2x1⟩) (fun _=>hHeld) ?re2x1
      case hy2x1=>(intro w9 _;go_simp;try with_reducible rfl)
      refine jAK (i:=2) (v:=?va3x2) rfl (by kernel_rfl) (by kernel_rfl) (by kernel_rfl) (by kernel_rfl) (fun _ _ _ h=>h) (Or.inl ⟨by rfl,?hy3x2⟩) (fun _=>hHeld) ?re3x2
      case hy3x2=>(intro w9 _;go_simp;try with_reducible rfl)
      refine jAK (i:=3) (v:=?va4x3) rfl (by kernel_rfl) (by kernel_rfl) (by kernel_rfl) (by kernel_rfl) (fun _ _ _ h=>h) (Or.inl ⟨by rfl,?hy4x3⟩) (fun _=>hHeld) ?re4x3
      case hy4x3=>(intro w9 _;go_simp;try with_reducible rfl)
      refine jAK (i:=4) (v:=?va5x4) rfl (by kernel_rfl) (by kernel_rfl) (by kernel_rfl) (by kernel_rfl) (fun _ _ _ h=>h) (Or.inl ⟨by rfl,?hy5x4⟩) (fun _=>hHeld) ?re5x4
      case hy5x4=>(intro w9 _;go_simp;try with_reducible rfl)
      refine jBn (i:=5) 9 (v:=?va6x5) rfl (by kernel_rfl) (by kernel_rfl) (by kernel_rfl) (by kernel_rfl) (fun _ _ _ h=>h) (Or.inl ⟨by rfl,?hy6x5⟩) hHeld ?re6x5
      case hy6x5=>(intro w9 hSw;(try dsimp only at hSw);go_simp;try with_reducible rfl)
      refine jAK (i:=6) (v:=?va7x6) rfl (by kernel_rfl) (by kernel_rfl) (by kernel_rfl) (by kernel_rfl) (fun _ _ _ h=>h) (Or.inl ⟨by rfl,?hy7x6⟩) (fun _=>hHeld) ?re7x6
      case hy7x6=>(intro w9 _;go_simp;try with_reducible rfl)
      refine jBn (i:=7) 8 (v:=?va8x7) rfl (by kernel_rfl) (by kernel_rfl) (by kernel_rfl) (by kernel_rfl) (fun _ _ _ h=>h) (Or.inl ⟨by rfl,?hy8x7⟩) hHeld ?re8x7
      case hy8x7=>(intro w9 hSw;(try dsimp only at hSw);go_simp;try with_reducible rfl)
      refine jAY (rs:=[8]) (by kernel_rfl) (by simp) ?_
      refine jAF.cons rfl (fun K hK=>?_) jAF.nil
      go_simp
      refine hK.out _ _ (fun _=>HHA.out) ?_
      clear hK K hHeld
      refine jAY (rs:=[9]) (by kernel_rfl) (by simp) ?_
      refine jAF.cons rfl (fun K hK=>?_) jAF.nil
      refine step_append_lies _ (by rfl) _ _ _ (by rfl) Bp 39 i0 _ 1 24 Tryz.underlying47 hi hz0 hz1 hz2 rfl (by decide) (.slice aof L cof) L us (by rfl) HO1.out ⟨wx.heap.size,0,none⟩ 1 1 [.slice aq xl.length cq] (by rfl) rfl HNW.out HON.out q4.out q1.out q2.out q3.out _ rfl ?_
      intro g12 cc12 w12 jHS jDv jYR jYS
      obtain⟨hS1,hS2,hS3⟩:=HMY.out.put (w':=w12) (v':=.slice (some ⟨g12,0,none⟩) (L+1) cc12) (p:=xl) (by rw[HF.out];exact jDv) (HPR.out _ _ jHS)
      have c12:=hS2.trans HHA.out.1
      have HS9:=hid (hS1.congr HNX.out)
      have HB9:=hid ((HBY.out.grown jDv (jRm HBY.out) (fun b e=>Nat.le_trans HMY.out.le (HO1.out.lt b e).1)).setCell (p:=⟨w.heap.size+1,q,none⟩) (Nat.le_refl _) (.slice (some ⟨g12,0,none⟩) (L+1) cc12))
      have f12:=hS3
      clear hS1 hS2 hS3 jHS jDv jYR jYS
      refine hK.out _ _ (fun h=>Bool.noConfusion (h.symm.trans (by kernel_rfl:_=false))) ?_
      clear hK K
      refine jAY (rs:=[10]) (by kernel_rfl) (by simp) ?_
      refine jAF.cons rfl (fun K hK=>?_) jAF.nil
      go_simp
      refine hK.out _ _ (fun h=>Bool.noConfusion (h.symm.trans (by kernel_rfl:_=false))) ?_
      clear hK K
      refine jAY (rs:=[11]) (by kernel_rfl) (by simp) ?_
      refine jAF.cons rfl (fun K hK=>?_) jAF.nil
      go_simp
      refine hK.out _ _ (fun h=>Bool.noConfusion (h.symm.trans (by kernel_rfl:_=false))) ?_
      clear hK K
      refine jEw (by kernel_rfl) ?_ _
      go_wp2
      go_roundw
      case rel=>exact⟨k+1,q,hlt,by go_num,rfl,HK1.out.symm,HX9.out,⟨_,_,HS9.out⟩,HB9.out⟩
      case measure=>simp[RowKit.intOf];omega
  ·obtain rfl:k=S.length:=by omega
   have hkI:¬(S.length:Int)<(S.length:Int):=by omega
   have HM2:Hid (∃Bp f,jD3 (w.heap.size+1) (w.heap.size+1) Bp m bs.length f (jAe S) w wr):=by
    obtain⟨Bp,f,h⟩:=HM.out
    rw[List.take_length]at h
    exact⟨Bp,f,h⟩
   obtain⟨Bp,f,hm⟩:=HM2.out
   have HMF:=hid hm
   have HOr:=hid HO.out
   clear HM HM2 hm HL HO hW
   obtain⟨wq,hwq⟩:∃wq,wq=wr:=⟨_,rfl⟩
   subst hwq
   have jYT:=hid HMF.out.row
   have jY7:=hid (fun i wr (h:Below wq.heap.size wq wr)=>(HMF.out.parts (i:=i) (jAm HB.out).2).step h)
   have HW:=hid (jAm HB.out).2
   clear HMF
   go_wp2
   go_loopw [61] (fun i wr=>∃k:Nat,k≤bs.length∧i=.int .i64 k∧Hid (jFU bs S k=true)∧Hid (Below wq.heap.size wq wr)) (fun i _=>bs.length-(RowKit.intOf i).toNat)
   case atStart=>exact⟨0,Nat.zero_le _,rfl,rfl,Below.refl _ _⟩
   case round =>
    obtain⟨k,hk,rfl,HA,HY⟩:=hrel
    by_cases hlt:k<bs.length
    ·have hkI2:(k:Int)<(bs.length:Int):=by omega
     have hk0:(0:Int)≤(k:Int):=by omega
     obtain⟨A,rfl,hA,jAj⟩:=HR.out (by omega)
     obtain⟨y0,y1⟩:=jBv hA jAj hlt (jAa HW.out HY.out)
     obtain⟨aq2,cq2,e2⟩:=jBT (HU0.out k hlt)
     rw[e2]at y1
     have c9:=(jYT.out.step HY.out).cell hlt
     obtain⟨pf,cf,hf,_,_⟩:=(jY7.out k _ HY.out).form
     rw[hf]at c9
     have HBX:=hid (jAa HY.out (jAb (w:=wr) (.cells #[.int .u8 (bs.getD k jBp).k,.slice aq2 (bs.getD k jBp).l.length cq2] 44)))
     have c9X:=(jYT.out.step HBX.out).cell hlt
     rw[hf]at c9X
     have jIa:=hid (show jTr bs S k=true→jFU bs S (k+1)=true from fun h=>by show (_ && _)=true;rw[HA.out,h];rfl)
     have HNo:=hid (fun h w'=>jDC.lacks (bs:=bs) (S:=S) hlt h w')
     have HHB:=hid (show jTr bs S k=(decide ((bs.getD k jBp).k=6) || decide (jAe S k≠[])) from rfl)
     clear jAj hf e2
     generalize (bs.getD k jBp).l.length=nl at *
     generalize (bs.getD k jBp).k=kk at *
     by_cases h6:kk=6
     ·subst h6
      have HN:=hid (jIa.out (by rw[HHB.out];rfl))
      clear jIa HNo HHB
      go_wp2
      go_roundw
      case rel=>exact⟨k+1,hlt,by go_num,HN.out,HBX.out⟩
      case measure=>simp[RowKit.intOf];omega
     ·have h6b:(kk == 6)=false:=by simpa using h6
      have h6c:(kk != 6)=true:=by simpa using h6
      by_cases hl:(jAe S k).length=0
      ·have jW1:jAe S k=[]:=List.eq_nil_of_length_eq_zero hl
       have HX9:=hid (HNo.out (by rw[HHB.out,jW1,decide_eq_false h6];rfl))
       rw[hl]at c9 c9X
       clear jIa HNo HHB jW1 hl
       go_wp2
       go_ret2
       exact⟨HX9.out _,jAa HW.out HBX.out⟩
      ·have hlI:(((jAe S k).length:Int) == 0)=false:=by simpa using (show ((jAe S k).length:Int)≠0 by omega)
       have HN:=hid (jIa.out (by rw[HHB.out,decide_eq_true (show jAe S k≠[] from fun h=>hl (by rw[h];rfl)),Bool.or_true]))
       clear jIa HNo HHB
       generalize (jAe S k).length=L at *
       go_wp2
       go_roundw
       case rel=>exact⟨k+1,hlt,by go_num,HN.out,HBX.out⟩
       case measure=>simp[RowKit.intOf];omega
    ·obtain rfl:k=bs.length:=by omega
     have hkI3:¬(bs.length:Int)<(bs.length:Int):=by omega
     have HX9:=hid (jDC.yes HOr.out HA.out (jYT.out.step HY.out) (fun i _=>jY7.out i _ HY.out))
     have HBZ:=hid (jAa HW.out HY.out)
     clear jYT jY7
     go_wp2
     go_ret2
     exact⟨HX9.out,HBZ.out⟩
end Go.Proofs.YtldapapdolkiaaaGreatDoor
namespace Go.Proofs.YtldapapdolkiaaaGreatDoor
set_option maxHeartbeats 64000000
open Go Go.RowKit Go.Lib
set_option maxRecDepth 100000
theorem jG3 (l:List Pc):(cells3 l).length=l.length*3:=by
 unfold cells3
 induction l with
 | nil=>rfl
 | cons x l ih=>rw[List.flatMap_cons,List.length_append,ih,List.length_cons];simp;omega
theorem jKz (l:List Pc):∀u ∈ cells3 l,u.oneCell'=true:=by
 intro u hu
 unfold cells3 at hu
 obtain⟨x,_,hx⟩:=List.mem_flatMap.1 hu
 simp at hx
 rcases hx with rfl | rfl | rfl <;> rfl
theorem jOc {w:World}{p:Option Addr}{cap:Nat}{l:List Pc}(h:jBe w (.slice p l.length cap) l) :
 (p=none→l.length=0)∧∀ad,p=some ad→∀j u,(cells3 l)[j]? = some u→w.cell? (ad.add j)=some u:=by
 obtain⟨p',cap',e,h1,h2,h3⟩:=h
 obtain⟨rfl,_,rfl⟩:p=p'∧l.length=l.length∧cap=cap':=by simpa using e
 refine⟨fun hp=>?_,fun ad hp j u hu=>?_⟩
 ·rcases Nat.eq_zero_or_pos l.length with h0 | h0
  ·exact h0
  ·obtain⟨A,hA,_⟩:=h3 h0
   rw[hp]at hA;cases hA
 ·have hj:=(List.getElem?_eq_some_iff.1 hu).1
  rw[jG3]at hj
  obtain⟨A,hA,_,hc⟩:=h3 (by omega)
  rw[hp]at hA
  obtain rfl:=Option.some.inj hA
  have h5:=hc (j / 3) (j % 3) (by omega) (by omega)
  rw[show j / 3*3+j % 3=j by omega]at h5
  have h6:=jGP l (j / 3) (j % 3) (by omega) (by omega)
  rw[show j / 3*3+j % 3=j by omega,hu]at h6
  rw[h5,Option.some.inj h6]
theorem jXP (m:Nat)(A:Addr)(n c:Nat)(w:World):(Op.equalIn (m+1) 39 (.slice (some A) n c) (.slice none 0 0)).run Tryz.prog w=.ok false w:=by
 have hu:=Tryz.underlying39
 unfold Op.equalIn
 simp[go_sem,hu,underlying,Sem.run_bind,Result.andThen]
theorem jXC (m:Nat)(n c:Nat)(w:World):(Op.equalIn (m+1) 39 (.slice none n c) (.slice none 0 0)).run Tryz.prog w=.ok true w:=by
 have hu:=Tryz.underlying39
 unfold Op.equalIn
 simp[go_sem,hu,underlying,Sem.run_bind,Result.andThen]
theorem eq_sl (A:Addr)(n c:Nat)(w:World):(binOp BinOp.eql 39 (.slice (some A) n c) (.slice none 0 0)).run Tryz.prog w=.ok (.bool false) w:=by
 have h:(Op.equal 39 (.slice (some A) n c) (.slice none 0 0)).run Tryz.prog w=.ok false w:=jXP 9999 A n c w
 simp[binOp,go_sem,h,Result.andThen]
theorem eq_ns (n c:Nat)(w:World):(binOp BinOp.eql 39 (.slice none n c) (.slice none 0 0)).run Tryz.prog w=.ok (.bool true) w:=by
 have h:(Op.equal 39 (.slice none n c) (.slice none 0 0)).run Tryz.prog w=.ok true w:=jXC 9999 n c w
 simp[binOp,go_sem,h,Result.andThen]
attribute [local go_sem] eq_sl eq_ns
theorem jR3 (l:List Pc)(v:Value)(w:World)(hv:jBe w v l)(hl:l.length≤1000000) :
 Calls Tryz.prog 45 #[v] w fun e w'=>(∃u,e=.returned u∧jA7 0 u l w')∧Below w.heap.size w w':=by
 obtain⟨i0,hi,hz0,hz1,hz2⟩:=info_parts jEs
 have hv0:=hv
 obtain⟨p,cap,rfl,h1,h2,_⟩:=hv
 obtain⟨s1,s2⟩:=jOc hv0
 cases p with
 | none =>
   have h0:=s1 rfl
   have hl0:l=[]:=List.eq_nil_of_length_eq_zero h0
   subst hl0
   rw[List.length_nil]
   go_enter Tryz.func45,Tryz.ntmps45
   go_wp2
   go_ret
   exact⟨⟨_,rfl,jA7.nil _ _⟩,Below.refl _ _⟩
 | some A =>
   have HS:=hid (s2 A rfl)
   have HV:=hid hv0
   have q1:=hid (show 0+l.length≤maxLen by unfold maxLen;omega)
   have q2:=hid (show (0+l.length)*32≤140737488355328 by omega)
   have jAN:(w.alloc (.cells #[] 76)).ownsRow w.heap.size 76 3 (.slice (some ⟨w.heap.size,0,none⟩) 0 0) 0 [] :=
    World.ownsRow_lit (base:=w.heap.size) (size:=3) (e:=76) w #[] 0 (Nat.le_refl _) (by unfold maxLen;omega) rfl
   have HO:=hid jAN
   have HB:=hid (jAb (w:=w) (.cells #[] 76))
   have HN:=hid (((jOc (hv0.step (jAb (w:=w) (.cells #[] 76)))).2) A rfl)
   clear hv0 s1 s2 jAN
   go_enter Tryz.func45,Tryz.ntmps45
   go_wp2_with (at_builtin;refine wpList_append_own _ rfl _ _ 39 rfl w.heap.size 76 i0 _ 3 32 Tryz.underlying39 hi hz0 hz1 hz2 rfl (by decide) _ _ _ rfl HO.out A l.length cap (cells3 l) rfl (jG3 l) HN.out (jKz l) q1.out q2.out HB.out.size ?_;intro v6 w6 jA5 jAv jC8)
   have hO6:jA7 w.heap.size v6 l w6:=by
    have h:=jA5
    rw[Nat.zero_add,List.nil_append]at h
    exact h
   have HO6:=hid hO6
   have HB6:=hid (HB.out.grown jAv HB.out.size (fun k hk=>(HO.out.lt k hk).1))
   clear jA5 jAv jC8 hO6
   go_ret
   exact⟨⟨_,rfl,HO6.out.low⟩,HB6.out⟩
theorem jBk {fn:Func}{p u:Tmp}{ty:TypeId}(h:fn.results=#[.cell p ty,.tmp u]){tmps:Array Value}{P:Program}{w:World}{a:Addr}{xs:List Value}
 (ha:tmps.getD p undef=.pointer (some a)) (iy:∀w,(isAgg ty).run P w=.ok true w) (sy:∀w,(sizeOf ty).run P w=.ok xs.length w)
 (cx:∀j v,xs[j]? = some v→w.cell? (a.add j)=some v) :
 (results fn tmps).run P w=.ok (.tuple #[.agg xs.toArray,tmps.getD u undef]) w:=by
 have hx:=run_loadCells_list (P:=P) w a xs cx
 rw[results_cell_tmp h,ha]
 simp[Result.andThen,asAddr,loadVar,iy,sy,hx]
theorem jB0 {w:World}{n:Nat}{v0:Value}(h0:w.cell? ⟨n,0,none⟩=some v0):∀j v,[v0][j]? = some v→w.cell? ((⟨n,0,none⟩:Addr).add j)=some v:=by
 intro j v hj
 match j,hj with
 | 0,hj=>simp only[List.getElem?_cons_zero,Option.some.injEq]at hj;subst hj;exact h0
def jDd (B b:Nat)(o:List Bk)(w:World):Prop:=∃v,w.heap[b]? = some (.cells #[v] 24 (0,0))∧jLG B v o w
theorem jDd.step {B b:Nat}{o:List Bk}{w w':World}(h:jDd B b o w)(hb:Below w.heap.size w w'):jDd B b o w':=by
 obtain⟨v,h1,h2⟩:=h
 exact⟨v,by rw[hb.block b (lt_of_block h1)];exact h1,h2.step hb⟩
theorem jDd.new (w:World):jDd w.heap.size w.heap.size [] (w.alloc (.cells #[.slice none 0 0] 24)) :=
 ⟨.slice none 0 0,(by show (w.heap.push _)[_]? = _;simp),jLG.nil _ _⟩
theorem jLG.kept {B:Nat}{v:Value}{o:List Bk}{w w':World}{b:Nat}{cs:Array Value}{t:TypeId}(h:jLG B v o w)(hg:w.grownBy w' (some b))(hb:w.heap[b]? = some (.cells cs t (0,0)))(h1:44≠t)(h2:76≠t):jLG B v o w':=by
 obtain⟨us,e,ho,hp⟩:=h
 exact⟨us,e,ho.kept hg (.inr (jAI ho hb h1)),fun i hi=>(hp i hi).kept hg (.inr (jAI (hp i hi) hb h2))⟩
theorem jLG.more {B:Nat}{v v3 u:Value}{o:List Bk}{us:List Value}{b:Bk}{w w':World}(he:us.length=o.length)(ho:w.ownsRow B 44 2 v o.length (cells2 o us))(hp:∀i,i<o.length→jA7 0 (us.getD i jJN) (o.getD i jBp).l w)(hu:jA7 0 u b.l w)
 (hg:w.grownBy w' v.ownBlock) (h3:w'.ownsRow B 44 2 v3 (o.length+1) (cells2 o us++[.int .u8 b.k,u])):jLG B v3 (o++[b]) w':=by
 refine⟨us++[u],by simp[he],?_,fun i hi=>?_⟩
 ·rw[jKm b u he,List.length_append];exact h3
 ·by_cases hl:i<o.length
  ·have h1:(us++[u]).getD i jJN=us.getD i jJN:=by rw[List.getD_eq_getElem?_getD,List.getD_eq_getElem?_getD,List.getElem?_append_left (by omega)]
   have h2:(o++[b]).getD i jBp=o.getD i jBp:=by rw[List.getD_eq_getElem?_getD,List.getD_eq_getElem?_getD,List.getElem?_append_left hl]
   rw[h1,h2]
   exact (hp i hl).kept hg (jBX (hp i hl) (jCW ho) (by decide))
  ·have hl2:i=o.length:=by simp at hi;omega
   subst hl2
   have h1:(us++[u]).getD o.length jJN=u:=by rw[List.getD_eq_getElem?_getD,←he];simp
   have h2:(o++[b]).getD o.length jBp=b:=by rw[List.getD_eq_getElem?_getD];simp
   rw[h1,h2]
   exact hu.kept hg (jBX hu (jCW ho) (by decide))
theorem jDd.put {B b:Nat}{o:List Bk}{w:World}{x v:Value}(hb:w.heap[b]? = some (.cells #[x] 24 (0,0)))(h:jLG B v o w):jDd B b o (w.setCell ⟨b,0,none⟩ v) :=
 ⟨v,by simp[World.setCell,Array.getElem?_modify,hb],h.kept (jBr _ _ _ _) hb (by decide) (by decide)⟩
theorem jAT {w:World}{b:Nat}{v:Value}(h:w.heap[b]? = some (.cells #[v] 24 (0,0))):w.cell? ⟨b,0,none⟩=some v:=by rw[Lib.cell_of_heap h];rfl
theorem jBm {w:World}{b:Nat}{v0:Value}{t:TypeId}{fr:Nat × Nat}(h:w.heap[b]? = some (.cells #[v0] t fr))(x0:Value):(w.setCell ⟨b,0,none⟩ x0).heap[b]? = some (.cells #[x0] t fr):=by
 simp[World.setCell,Array.getElem?_modify,h]
end Go.Proofs.YtldapapdolkiaaaGreatDoor
namespace Go.Proofs.YtldapapdolkiaaaGreatDoor
set_option maxHeartbeats 64000000
open Go Go.RowKit Go.Lib
set_option maxRecDepth 100000
theorem jKo {S:List Sg}{j:Nat}(hj:j<S.length)(n:Nat):jAe (S.take (j+1)) n=if (S.getD j jCf).b=(n:Int) then jAe (S.take j) n++[(S.getD j jCf).l] else jAe (S.take j) n:=by rw[jKe hj,jKE]
theorem jBj (K:List Bk)(S:List Sg)(k:Nat):(jQB K S k).length=k:=by unfold jQB;simp
theorem jTm {K:List Bk}{S:List Sg}{n:Nat}(h:(K.getD n jBp).k=6):rbE K S n=0:=by unfold rbE;rw[if_pos h]
theorem jSk {K:List Bk}{S:List Sg}{n:Nat}(h:(K.getD n jBp).k=6):rbL K S n=K.getD n jBp:=by unfold rbL;rw[if_pos h]
theorem jPo {K:List Bk}{S:List Sg}{n:Nat}(h:(K.getD n jBp).k≠6):rbE K S n=if jCA (jAe S n)≠0 then jCA (jAe S n) else if jC9 (jCb (jAe S n))=false then 8 else 0:=by unfold rbE;rw[if_neg h]
theorem jOU {K:List Bk}{S:List Sg}{n:Nat}(h:(K.getD n jBp).k≠6):rbL K S n=⟨(K.getD n jBp).k,jCb (jAe S n)⟩:=by unfold rbL;rw[if_neg h]
def jDT (bs:List Bk)(S:List Sg)(e:Ending)(w':World):Prop:=∃r,e=.returned (.tuple #[.agg #[r],.int .u8 (rsE bs S)])∧jDr w' r (rsL bs S)
theorem jDT.bad {bs:List Bk}{S:List Sg}{z:Int}(h:rsE bs S=z)(hz:z≠0)(w':World):jDT bs S (.returned (.tuple #[.agg #[.slice none 0 0],.int .u8 z])) w':=by
 subst h
 refine⟨_,rfl,?_⟩
 unfold rsL
 rw[if_neg hz]
 exact jTO _
theorem jDT.doc {bs:List Bk}{S:List Sg}(h:jFz bs≠0)(w':World):jDT bs S (.returned (.tuple #[.agg #[.slice none 0 0],.int .u8 (jFz bs)])) w' :=
 .bad (by unfold rsE;rw[if_pos h]) h w'
theorem jDT.lacks {bs:List Bk}{S:List Sg}(h0:jFz bs=0)(h:jJK bs S=false)(w':World):jDT bs S (.returned (.tuple #[.agg #[.slice none 0 0],.int .u8 1])) w' :=
 .bad (by unfold rsE;rw[if_neg (by simp[h0]),if_pos h]) (by decide) w'
theorem jDT.block {bs:List Bk}{S:List Sg}(h0:jFz bs=0)(h1:jJK bs S=true){k:Nat}(hk:k<bs.length)(hS:jJU bs S k=0)(h:rbE bs S k≠0)(w':World):jDT bs S (.returned (.tuple #[.agg #[.slice none 0 0],.int .u8 (rbE bs S k)])) w' :=
 .bad (by unfold rsE;rw[if_neg (by simp[h0]),if_neg (by simp[h1]),jV2 hk hS h]) h w'
theorem jDT.good {bs:List Bk}{S:List Sg}(h0:jFz bs=0)(h1:jJK bs S=true)(hS:jJU bs S bs.length=0){r:Value}{w':World}(hr:jDr w' r (jQB bs S bs.length)):jDT bs S (.returned (.tuple #[.agg #[r],.int .u8 0])) w':=by
 have h:rsE bs S=0:=by unfold rsE;rw[if_neg (by simp[h0]),if_neg (by simp[h1])];exact hS
 refine⟨r,by rw[h],?_⟩
 unfold rsL
 rw[if_pos h]
 exact hr
def jJ6 (bs:List Bk)(S:List Sg)(e:Ending)(w':World):Prop:=∃r,e=.returned (.tuple #[.agg #[r],.int .u8 (rsE bs S)])∧jLG 0 r (rsL bs S) w'
theorem jLG.low {B:Nat}{v:Value}{bs:List Bk}{w:World}(h:jLG B v bs w):jLG 0 v bs w:=by
 obtain⟨us,h1,h2,h3⟩:=h
 exact⟨us,h1,jCW h2,h3⟩
theorem jJ6.bad {bs:List Bk}{S:List Sg}{z:Int}(h:rsE bs S=z)(hz:z≠0)(w':World):jJ6 bs S (.returned (.tuple #[.agg #[.slice none 0 0],.int .u8 z])) w':=by
 subst h
 refine⟨_,rfl,?_⟩
 unfold rsL
 rw[if_neg hz]
 exact jLG.nil _ _
theorem jJ6.doc {bs:List Bk}{S:List Sg}(h:jFz bs≠0)(w':World):jJ6 bs S (.returned (.tuple #[.agg #[.slice none 0 0],.int .u8 (jFz bs)])) w' :=
 .bad (by unfold rsE;rw[if_pos h]) h w'
theorem jJ6.lacks {bs:List Bk}{S:List Sg}(h0:jFz bs=0)(h:jJK bs S=false)(w':World):jJ6 bs S (.returned (.tuple #[.agg #[.slice none 0 0],.int .u8 1])) w' :=
 .bad (by unfold rsE;rw[if_neg (by simp[h0]),if_pos h]) (by decide) w'
theorem jJ6.block {bs:List Bk}{S:List Sg}(h0:jFz bs=0)(h1:jJK bs S=true){k:Nat}(hk:k<bs.length)(hS:jJU bs S k=0)(h:rbE bs S k≠0)(w':World):jJ6 bs S (.returned (.tuple #[.agg #[.slice none 0 0],.int .u8 (rbE bs S k)])) w' :=
 .bad (by unfold rsE;rw[if_neg (by simp[h0]),if_neg (by simp[h1]),jV2 hk hS h]) h w'
theorem jJ6.good {bs:List Bk}{S:List Sg}(h0:jFz bs=0)(h1:jJK bs S=true)(hS:jJU bs S bs.length=0){r:Value}{w':World}(hr:jLG 0 r (jQB bs S bs.length) w'):jJ6 bs S (.returned (.tuple #[.agg #[r],.int .u8 0])) w':=by
 have h:rsE bs S=0:=by unfold rsE;rw[if_neg (by simp[h0]),if_neg (by simp[h1])];exact hS
 refine⟨r,by rw[h],?_⟩
 unfold rsL
 rw[if_pos h]
 exact hr
theorem jDC.isNo {bs:List Bk}{S:List Sg}{e:Ending}{w':World}(h:jDC bs S e w')(hs:jJK bs S=false):e=.returned (.tuple #[.slice none 0 0,.bool false]):=by
 unfold jDC at h
 rwa [if_neg (by simp[hs])]at h
theorem jDC.isYes {bs:List Bk}{S:List Sg}{e:Ending}{w':World}(h:jDC bs S e w')(hs:jJK bs S=true):∃g f,e=.returned (.tuple #[.slice (some ⟨g,0,none⟩) bs.length bs.length,.bool true])∧jIQ w' g 47 bs.length f∧∀i,i<bs.length→jDA w' (f i) (jAe S i):=by
 unfold jDC at h
 rwa [if_pos hs]at h
theorem dbox2 {w wr:World}{v u:Value}{t:TypeId}(h:Below (w.heap.size+2) ((w.alloc (.cells #[v] t)).alloc (.cells #[u] t)) wr) :
 wr.cell? ⟨w.heap.size,0,none⟩=some v∧wr.heap[w.heap.size+1]? = some (.cells #[u] t (0,0))∧Below w.heap.size w wr∧w.heap.size+2≤wr.heap.size:=by
 have h2:=DBox.two w v u t t
 refine⟨(h.cell (p:=⟨w.heap.size,0,none⟩) (by show w.heap.size<w.heap.size+2;omega)).trans h2.1.1,?_,?_,by have:=h.size;simpa using this⟩
 ·rw[h.block (w.heap.size+1) (by omega)]
  have:=heap_alloc_new (w.alloc (.cells #[v] t)) (.cells #[u] t)
  rwa [show (w.alloc (.cells #[v] t)).heap.size=w.heap.size+1 by simp]at this
 ·exact ((jAb (w:=w) _).alloc (by simp) _).trans (h.mono (by omega))
theorem jB1 {w wr w':World}{v u:Value}{t:TypeId}(h:Below (w.heap.size+2) ((w.alloc (.cells #[v] t)).alloc (.cells #[u] t)) wr)(hb:Below wr.heap.size wr w'):Below (w.heap.size+2) ((w.alloc (.cells #[v] t)).alloc (.cells #[u] t)) w':=h.trans (hb.mono (dbox2 h).2.2.2)
theorem jPg (k:Int)(ao:Option Addr)(n c:Nat):∀u ∈ ([.int .u8 k,.slice ao n c]:List Value),u.oneCell'=true:=by intro u hu;simp at hu;rcases hu with rfl | rfl <;> rfl
theorem jDd.grow {b:Nat}{o:List Bk}{w w':World}{v v3 u:Value}{us:List Value}{x:Bk}(hd:w.heap[b]? = some (.cells #[v] 24 (0,0)))(he:us.length=o.length)(ho:w.ownsRow b 44 2 v o.length (cells2 o us))(hp:∀i,i<o.length→jA7 0 (us.getD i jJN) (o.getD i jBp).l w)(hu:jA7 0 u x.l w)
 (hg:w.grownBy w' v.ownBlock) (h3:w'.ownsRow b 44 2 v3 (o.length+1) (cells2 o us++[.int .u8 x.k,u])):w'.heap[b]? = some (.cells #[v] 24 (0,0))∧jDd b b (o++[x]) (w'.setCell ⟨b,0,none⟩ v3):=by
 have hd2:w'.heap[b]? = some (.cells #[v] 24 (0,0)):=(hg.block b (lt_of_block hd) (fun e=>jAI ho hd (by decide) e.symm)).trans hd
 exact⟨hd2,jDd.put hd2 (jLG.more he ho hp hu hg h3)⟩
theorem jF3 {w2 wr:World}{b:Nat}{o:Obj}(h:Below w2.heap.size w2 wr)(hr:w2.heap[b]? = some o):wr.heap[b]? = some o:=(h.block b (lt_of_block hr)).trans hr
theorem jYj (bs:List Bk)(S:List Sg)(v vS:Value)(w:World)(hv:jDr w v bs)(hS:jEy w vS S)(hk:∀b ∈ bs,0≤b.k)(hs:∀b ∈ bs,∀x ∈ b.l,x.s.size≤maxLen)(hb:bs.length≤256→∀b ∈ bs,bulk b.l≤2500)(h3:FewR S)(hT:Tabs w) :
 Calls Tryz.prog 14 #[.agg #[v],vS] w fun e w'=>jJ6 bs S e w'∧Below w.heap.size w w':=by
 have cD:=fun wr (h:Below w.heap.size w wr)=>jHi bs v wr (hv.step h) hk hs (hT.step h)
 obtain⟨i0,hi,hz0,hz1,hz2⟩:=info_parts jSb
 have ag:=Tryz.isAgg44
 have zg:=Tryz.sizeOf44
 have ag2:=Tryz.isAgg24
 have zg2:=Tryz.sizeOf24
 have HV:=hid hv
 have HS:=hid hS
 have HT:=hid hT
 have H3:=hid h3
 obtain⟨us0,qAz,⟨p,cap,rfl,hl1,hc,jA4⟩,jQi⟩:=hv
 obtain⟨us1,hul1,⟨p1,cap1,rfl,hl11,hc1,_⟩,_⟩:=hS
 unfold maxLen at hc hc1
 have HR:=hid jA4
 have HU:=hid jQi
 have HB0:Hid (Below (w.heap.size+2) ((w.alloc (.cells #[.slice p bs.length cap] 24)).alloc (.cells #[.slice none 0 0] 24)) ((w.alloc (.cells #[.slice p bs.length cap] 24)).alloc (.cells #[.slice none 0 0] 24))):=Below.refl _ _
 replace cD:=fun wr (h:Below (w.heap.size+2) ((w.alloc (.cells #[.slice p bs.length cap] 24)).alloc (.cells #[.slice none 0 0] 24)) wr)=>cD wr (dbox2 h).2.2.1
 clear jA4 jQi hT h3
 by_cases hD:jFz bs=0
 ·obtain⟨jNz,jH0⟩:=jKM hD
  have hbk:=hb jNz
  rw[hD]at cD
  have cS:=fun wr (h:Below (w.heap.size+2) ((w.alloc (.cells #[.slice p bs.length cap] 24)).alloc (.cells #[.slice none 0 0] 24)) wr)=>jTt bs S _ _ wr (HV.out.step (dbox2 h).2.2.1) (HS.out.step (dbox2 h).2.2.1) jNz H3.out.1
  cases hO:jJK bs S
  ·have HX9:=hid (fun w'=>jJ6.lacks (S:=S) hD hO w')
   have HNo:=hid (fun e w' (h:jDC bs S e w')=>h.isNo hO)
   clear hD jH0 hbk hO
   go_enter Tryz.func14,Tryz.ntmps14
   go_wp2_with (first
    | (go_at_call 38;(with_reducible refine (cD _ HB0.out).mono ?_);rintro e w1 ⟨rfl,hb1⟩;have HB1:=hid (jB1 HB0.out hb1);obtain⟨b1,hr1,_,_⟩:=dbox2 HB1.out;have HR1:=hid hr1;have cr1:=jAT hr1;have fr1:=Lib.frozen_of_heap hr1 0;clear hb1 hr1)
    | (go_at_call 44;(with_reducible refine (cS _ HB1.out).mono ?_);rintro e w2 ⟨he2,hb2⟩;have HB2:=hid (jB1 HB1.out hb2);clear b1 cr1 fr1;obtain⟨b2,hr2,_,_⟩:=dbox2 HB2.out;have HR2:=hid hr2;have cr2:=jAT hr2;have fr2:=Lib.frozen_of_heap hr2 0;clear hb2 hr2;obtain rfl:=HNo.out _ _ he2;clear he2))
   refine bodyPost_ret (jBk (xs:=[.slice none 0 0]) rfl rfl ag2 zg2 (jB0 (by rw[Lib.cell_of_heap (jBm HR2.out (.slice none 0 0))];rfl))) rfl ?_
   exact⟨HX9.out _,(dbox2 HB2.out).2.2.1.setCell (p:=⟨w.heap.size+1,0,none⟩) (by show _≤w.heap.size+1;omega) _⟩
  ·have jJD:=hid (fun (h:jJU bs S bs.length=0) (r:Value) (w':World) (hr:jLG 0 r (jQB bs S bs.length) w')=>jJ6.good hD hO h hr)
   have jUq:=hid (fun (k:Nat) (hk:k<bs.length) (hS:jJU bs S k=0) (h:rbE bs S k≠0) (w':World)=>jJ6.block hD hO hk hS h w')
   have HYs:=hid (fun e w' (h:jDC bs S e w')=>h.isYes hO)
   have HK:=hid hbk
   clear hD jH0 hbk hO hb hk hs
   go_enter Tryz.func14,Tryz.ntmps14
   go_wp2_with (first
    | (go_at_call 38;(with_reducible refine (cD _ HB0.out).mono ?_);rintro e w1 ⟨rfl,hb1⟩;have HB1:=hid (jB1 HB0.out hb1);obtain⟨b1,hr1,_,_⟩:=dbox2 HB1.out;have HR1:=hid hr1;have cr1:=jAT hr1;have fr1:=Lib.frozen_of_heap hr1 0;clear hb1 hr1)
    | (go_at_call 44;(with_reducible refine (cS _ HB1.out).mono ?_);rintro e w2 ⟨he2,hb2⟩;have HB2:=hid (jB1 HB1.out hb2);clear b1 cr1 fr1;obtain⟨b2,hr2,_,_⟩:=dbox2 HB2.out;have HR2:=hid hr2;have cr2:=jAT hr2;have fr2:=Lib.frozen_of_heap hr2 0;clear hb2 hr2;obtain⟨g,f,rfl,qAm,qAn⟩:=HYs.out _ _ he2;have jYT:=hid qAm;have jY7:=hid qAn;have HW2:=hid (dbox2 HB2.out).2.2.1;have b3:=(dbox2 (jB1 HB2.out (jAb (w:=w2) (.cells #[.slice none 0 0] 24)))).1;clear he2 qAm qAn))
   go_loopw [32] (fun i wr=>∃k:Nat,k≤bs.length∧i=.int .i64 k∧Hid (jJU bs S k=0)∧Hid (jDd w2.heap.size w2.heap.size (jQB bs S k) wr)∧Hid (Below w2.heap.size w2 wr)) (fun i _=>bs.length-(RowKit.intOf i).toNat)
   case atStart=>exact⟨0,Nat.zero_le _,rfl,rfl,jDd.new w2,jAb _⟩
   case round =>
    clear cr2 fr2 b2 b3
    obtain⟨k,hk,rfl,HE,HDo,HB⟩:=hrel
    obtain⟨v1,d1,own1⟩:=HDo.out
    have c1:=jAT d1
    obtain⟨ao1,cap1,rfl⟩:=own1.form
    rw[jBj]at c1 d1
    have HW:=hid (jAa HW2.out HB.out)
    have hr3:=jF3 HB.out HR2.out
    have cr3:=jAT hr3
    have fr3:=Lib.frozen_of_heap hr3 0
    by_cases hlt:k<bs.length
    ·have hkI:(k:Int)<(bs.length:Int):=by omega
     have hk0:(0:Int)≤(k:Int):=by omega
     obtain⟨A,rfl,hA,jAj⟩:=HR.out (by omega)
     obtain⟨x0,x1⟩:=jBv hA jAj hlt HW.out
     have hp1:=HU.out k hlt
     obtain⟨aq,cq,e1⟩:=jBT hp1
     rw[e1]at x1 hp1
     have hbu:=HK.out _ (jDH hlt)
     have HSN:=hid (fun h:rbE bs S k=0=>(jJB HE.out).trans h)
     have HBK:=hid (jUq.out k hlt HE.out)
     have HSC:=hid (jNb bs S k)
     have q1:=hid (show k+1≤maxLen by unfold maxLen;omega)
     have q2:=hid (show (k+1)*32≤140737488355328 by omega)
     have q4:Hid (0<1):=Nat.one_pos
     by_cases h6:(bs.getD k jBp).k=6
     ·have HN:=hid (HSN.out (jTm h6))
      have HQ:=hid ((HSC.out).trans (by rw[jSk h6]))
      clear HSN HBK HSC jAj e1 own1
      generalize bs.getD k jBp=x at *
      obtain⟨xk,xl⟩:=x
      simp only at x0 x1 hp1 hbu h6
      subst h6
      have cK:=fun wy (h:Below w2.heap.size w2 wy)=>jR3 xl _ wy (hp1.step (jAa HW2.out h)) (by have:=jOr xl;omega)
      go_wp2
      obtain⟨wx,hwx⟩:∃wx,wx=wr.alloc (.cells #[.int .u8 6,.slice aq xl.length cq] 44):=⟨_,rfl⟩
      have HBX:=hid (show Below w2.heap.size w2 wx by rw[hwx];exact jAa HB.out (jAb _))
      have HDX:=hid (show jDd w2.heap.size w2.heap.size (jQB bs S k) wx by rw[hwx];exact HDo.out.step (jAb _))
      have z1:wx.cell? ⟨w2.heap.size,0,none⟩=some (.slice ao1 k cap1):=by rw[hwx];exact ((jAb (w:=wr) (.cells #[.int .u8 6,.slice aq xl.length cq] 44)).cell (p:=⟨w2.heap.size,0,none⟩) (lt_of_block d1)).trans c1
      have z2:wx.cell? ⟨wr.heap.size,0,none⟩=some (.int .u8 6):=by rw[hwx];simp
      have z3:wx.cell? ⟨wr.heap.size,1,none⟩=some (.slice aq xl.length cq):=by rw[hwx];simp
      have hsx:wr.heap.size<wx.heap.size:=by rw[hwx];simp
      have hsy:w2.heap.size<wx.heap.size:=by have:=lt_of_block d1;omega
      have HH:Hid (∀wy,Below wx.heap.size wx wy→wy.cell? ⟨w2.heap.size,0,none⟩=some (.slice ao1 k cap1)∧wy.cell? ⟨wr.heap.size,0,none⟩=some (.int .u8 6)∧wy.cell? ⟨wr.heap.size,1,none⟩=some (.slice aq xl.length cq)):=fun wy h =>
       ⟨(h.cell (p:=⟨w2.heap.size,0,none⟩) hsy).trans z1,(h.cell (p:=⟨wr.heap.size,0,none⟩) hsx).trans z2,(h.cell (p:=⟨wr.heap.size,1,none⟩) hsx).trans z3⟩
      have HH2:Hid (∀ (wy:World) (o:Obj),(wy.cell? ⟨w2.heap.size,0,none⟩=some (.slice ao1 k cap1)∧wy.cell? ⟨wr.heap.size,0,none⟩=some (.int .u8 6)∧wy.cell? ⟨wr.heap.size,1,none⟩=some (.slice aq xl.length cq))→((wy.alloc o).cell? ⟨w2.heap.size,0,none⟩=some (.slice ao1 k cap1)∧(wy.alloc o).cell? ⟨wr.heap.size,0,none⟩=some (.int .u8 6)∧(wy.alloc o).cell? ⟨wr.heap.size,1,none⟩=some (.slice aq xl.length cq))):=fun wy o h =>
       ⟨((jAb (w:=wy) o).cell (World.block_lt_of_cell? _ _ h.1)).trans h.1,((jAb (w:=wy) o).cell (World.block_lt_of_cell? _ _ h.2.1)).trans h.2.1,((jAb (w:=wy) o).cell (World.block_lt_of_cell? _ _ h.2.2)).trans h.2.2⟩
      rw[←hwx]
      clear hwx c1 d1 x0 x1 hp1 cr3 fr3 hr3 hsx hsy
      refine jCM (fun w'=>w'.cell? ⟨w2.heap.size,0,none⟩=some (.slice ao1 k cap1)∧w'.cell? ⟨wr.heap.size,0,none⟩=some (.int .u8 6)∧w'.cell? ⟨wr.heap.size,1,none⟩=some (.slice aq xl.length cq)) [1,3,5,6,7,8,9] (by kernel_rfl) ⟨z1,z2,z3⟩ (fun hHeld=>?_)
      refine jAK (i:=0) (v:=?va1x0) rfl (by kernel_rfl) (by kernel_rfl) (by kernel_rfl) (by kernel_rfl) (fun _ _ _ h=>h) (Or.inl ⟨by rfl,?hy1x0⟩) (fun _=>hHeld) ?re1x0
      case hy1x0=>(intro w9 _;go_simp;try with_reducible rfl)
      refine jBn (i:=1) 9 (v:=?va2x1) rfl (by kernel_rfl) (by kernel_rfl) (by kernel_rfl) (by kernel_rfl) (fun _ _ _ h=>h) (Or.inl ⟨by rfl,?hy2x1⟩) hHeld ?re2x1
      case hy2x1=>(intro w9 hSw;(try dsimp only at hSw);go_simp;try with_reducible rfl)
      refine jAK (i:=2) (v:=?va3x2) rfl (by kernel_rfl) (by kernel_rfl) (by kernel_rfl) (by kernel_rfl) (fun _ _ _ h=>h) (Or.inl ⟨by rfl,?hy3x2⟩) (fun _=>hHeld) ?re3x2
      case hy3x2=>(intro w9 _;go_simp;try with_reducible rfl)
      refine jBn (i:=3) 7 (v:=?va4x3) rfl (by kernel_rfl) (by kernel_rfl) (by kernel_rfl) (by kernel_rfl) (fun _ _ _ h=>h) (Or.inl ⟨by rfl,?hy4x3⟩) hHeld ?re4x3
      case hy4x3=>(intro w9 hSw;(try dsimp only at hSw);go_simp;try with_reducible rfl)
      refine jAK (i:=4) (v:=?va5x4) rfl (by kernel_rfl) (by kernel_rfl) (by kernel_rfl) (by kernel_rfl) (fun _ _ _ h=>h) (Or.inl ⟨by rfl,?hy5x4⟩) (fun _=>hHeld) ?re5x4
      case hy5x4=>(intro w9 _;go_simp;try with_reducible rfl)
      refine jBn (i:=5) 6 (v:=?va6x5) rfl (by kernel_rfl) (by kernel_rfl) (by kernel_rfl) (by kernel_rfl) (fun _ _ _ h=>h) (Or.inl ⟨by rfl,?hy6x5⟩) hHeld ?re6x5
      case hy6x5=>(intro w9 hSw;(try dsimp only at hSw);go_simp;try with_reducible rfl)
      refine jAY (rs:=[6]) (by kernel_rfl) (by simp) ?_
      refine jAF.cons rfl (fun K hK=>?_) jAF.nil
      go_simp
      (go_at_call 45;(with_reducible refine (cK _ HBX.out.drew).mono ?_);rintro e w4 ⟨⟨u4,rfl,hu4⟩,hb4⟩;obtain⟨ao4,ca4,rfl⟩:=hu4.form;have HU4:=hid hu4;have HB4:=hid (jAa HBX.out.drew hb4);have HD4:=hid (jDd.step (HDX.out.step (jDM wx 1)) hb4);have HH4:=hid (HH.out w4 (jAa (jDM wx 1) hb4));clear hb4 hu4)
      refine hK.out _ _ (fun _=>HH4.out) ?_
      clear hK K hHeld
      refine jAY (rs:=[7]) (by kernel_rfl) (by simp) ?_
      refine jAF.cons rfl (fun K hK=>?_) jAF.nil
      go_simp
      refine hK.out _ _ (fun _=>HH4.out) ?_
      clear hK K
      have HHA:=hid (HH2.out w4 (.cells #[.int .u8 6,.slice ao4 xl.length ca4] 44) HH4.out)
      obtain⟨v5,d5,own5⟩:=HD4.out.step (jAb (w:=w4) (.cells #[.int .u8 6,.slice ao4 xl.length ca4] 44))
      have e5:v5=.slice ao1 k cap1:=by have h:=jAT d5;rw[HHA.out.1]at h;exact (Option.some.inj h).symm
      subst e5
      obtain⟨us,hue,ho5,hp5⟩:=own5
      rw[jBj]at ho5 hue
      have HO5:=hid ho5
      have HP5:=hid hp5
      have HU5:=hid (HU4.out.step (jAb (w:=w4) (.cells #[.int .u8 6,.slice ao4 xl.length ca4] 44)))
      have HB5:=hid (HB4.out.alloc HB4.out.size (.cells #[.int .u8 6,.slice ao4 xl.length ca4] 44))
      have HNW:=hid (jBV w4 (.int .u8 6) (.slice ao4 xl.length ca4) 44)
      have q3:=hid (show w2.heap.size≤(w4.alloc (.cells #[.int .u8 6,.slice ao4 xl.length ca4] 44)).heap.size from HB5.out.size)
      clear ho5 hp5
      refine jAY (rs:=[8]) (by kernel_rfl) (by simp) ?_
      refine jAF.cons rfl (fun K hK=>?_) jAF.nil
      go_simp
      refine hK.out _ _ (fun _=>HHA.out) ?_
      clear hK K
      refine jAY (rs:=[9]) (by kernel_rfl) (by simp) ?_
      refine jAF.cons rfl (fun K hK=>?_) jAF.nil
      refine step_append_lies _ (by rfl) _ _ _ (by rfl) w2.heap.size 44 i0 _ 2 32 Tryz.underlying22 hi hz0 hz1 hz2 rfl (by decide) (.slice ao1 k cap1) k (cells2 (jQB bs S k) us) (by rfl) HO5.out ⟨w4.heap.size,0,none⟩ 1 1 [.int .u8 6,.slice ao4 xl.length ca4] (by rfl) rfl HNW.out (jPg _ _ _ _) q4.out q1.out q2.out q3.out _ rfl ?_
      intro g12 cc12 w12 jHS jDv jYR jYS
      obtain⟨qA7,hdoc⟩:=jDd.grow (x:=⟨6,xl⟩) d5 (by rw[jBj];exact hue) (by rw[jBj];exact HO5.out) HP5.out HU5.out jDv (by rw[jBj];exact jHS)
      have c12:=jAT qA7
      have f12:=Lib.frozen_of_heap qA7 0
      have HD9:=hid hdoc
      have HB9:=hid ((HB5.out.grown jDv HB5.out.size (fun b e=>(HO5.out.lt b e).1)).setCell (p:=⟨w2.heap.size,0,none⟩) (Nat.le_refl _) (.slice (some ⟨g12,0,none⟩) (k+1) cc12))
      clear jHS jDv jYR jYS hdoc qA7 d5
      refine hK.out _ _ (fun h=>Bool.noConfusion (h.symm.trans (by kernel_rfl:_=false))) ?_
      clear hK K
      refine jAY (rs:=[10]) (by kernel_rfl) (by simp) ?_
      refine jAF.cons rfl (fun K hK=>?_) jAF.nil
      go_simp
      refine hK.out _ _ (fun h=>Bool.noConfusion (h.symm.trans (by kernel_rfl:_=false))) ?_
      clear hK K
      refine jAY (rs:=[11]) (by kernel_rfl) (by simp) ?_
      refine jAF.cons rfl (fun K hK=>?_) jAF.nil
      go_simp
      refine hK.out _ _ (fun h=>Bool.noConfusion (h.symm.trans (by kernel_rfl:_=false))) ?_
      clear hK K
      refine jEw (by kernel_rfl) ?_ _
      go_wp2
      go_roundw
      case rel=>exact⟨k+1,hlt,by go_num,HN.out,by show jDd _ _ _ _;rw[HQ.out];exact HD9.out,HB9.out⟩
      case measure=>simp[RowKit.intOf];omega
     ·have h6b:((bs.getD k jBp).k == 6)=false:=by simpa using h6
      have hE:=jPo (S:=S) h6
      have hL:=jOU (S:=S) h6
      rw[hE]at HSN HBK
      rw[hL]at HSC
      obtain⟨few1,hbp,few3⟩:=H3.out.2 k
      have cG:=fun wy (h:Below w2.heap.size w2 wy)=>jUK (jAe S k) (f k) wy ((jY7.out k hlt).step h) few1 hbp few3 (HT.out.step (jAa HW2.out h))
      have cWh:=fun (u:Value) wy (h:jA7 0 u (jCb (jAe S k)) wy)=>jMX _ u wy h.at
      have c9:=(jYT.out.step HB.out).cell hlt
      obtain⟨pf,cf,hf,_,_⟩:=(jY7.out k hlt).form
      rw[hf]at c9 cG
      have HF:=hid hf
      clear jAj e1 hE hL h6 few1 few3 hbp hf own1 hp1 d1 c1
      generalize bs.getD k jBp=x at *
      obtain⟨xk,xl⟩:=x
      simp only at x0 x1 h6b hbu HSC
      have HBX:=hid (jAa HB.out (jAb (w:=wr) (.cells #[.int .u8 xk,.slice aq xl.length cq] 44)))
      have HX:=hid (jVg.new wr xk (.slice aq xl.length cq) 44)
      have HDX:=hid (HDo.out.step (jAb (.cells #[.int .u8 xk,.slice aq xl.length cq] 44)))
      have c9X:=(jYT.out.step HBX.out).cell hlt
      rw[HF.out]at c9X
      by_cases hG:jCA (jAe S k)=0
      ·rw[hG]at cG
       by_cases hWb:jC9 (jCb (jAe S k))=true
       ·have HN:=hid (HSN.out (by rw[if_neg (by simp[hG]),if_neg (by simp[hWb])]))
        rw[hWb]at cWh
        clear HSN HBK hG hWb
        generalize jCb (jAe S k)=G at *
        go_wp2_with (first
         | (go_at_call 17;(with_reducible refine (cG _ HBX.out).mono ?_);rintro e w4 ⟨⟨u4,rfl,hu4⟩,hb4⟩;obtain⟨ao4,ca4,rfl⟩:=hu4.form;have HU4:=hid hu4;have HB4:=hid (jAa HBX.out hb4);have HD4:=hid (HDX.out.step hb4);have HX4:=hid (HX.out.step hb4);have hr4:=jF3 HB4.out HR2.out;have HR4:=hid hr4;have cr4:=jAT hr4;have fr4:=Lib.frozen_of_heap hr4 0;clear hb4 hu4 hr4)
         | (go_at_call 46;(with_reducible refine (cWh _ _ HU4.out).mono ?_);rintro e w5 ⟨rfl,hb5⟩;have HB5:=hid (jAa HB4.out hb5);have HD5:=hid (HD4.out.step hb5);have HX5:=hid (HX4.out.step hb5);have HU5:=hid (HU4.out.step hb5);clear cr4 fr4;have hr5:=jF3 HB5.out HR2.out;have HR5:=hid hr5;have cr5:=jAT hr5;have fr5:=Lib.frozen_of_heap hr5 0;clear hb5 hr5;obtain⟨v5,d5,own5⟩:=HD5.out;have c5:=jAT d5;have f5:=Lib.frozen_of_heap d5 0;obtain⟨ao5,cap5,rfl⟩:=own5.form;obtain⟨us,hue,ho5,hp5⟩:=own5;obtain⟨y05,y15,_⟩:=HX5.out;rw[jBj]at ho5 hue c5 d5;have HO5:=hid ho5;have HP5:=hid hp5;have hd5:=hid d5;clear ho5 hp5 d5)
         | (at_builtin;refine wpList_append_own _ rfl _ _ 22 rfl w2.heap.size 44 i0 _ 2 32 Tryz.underlying22 hi hz0 hz1 hz2 rfl (by decide) _ _ _ rfl (HO5.out.alloc (.cells #[.int .u8 xk,.slice ao4 G.length ca4] 44)) ⟨w5.heap.size,0,none⟩ 1 1 [.int .u8 xk,.slice ao4 G.length ca4] rfl rfl (jBV _ _ _ _) (jPg _ _ _ _) q1.out q2.out (Nat.le_trans HB5.out.size (jAb (w:=w5) (.cells #[.int .u8 xk,.slice ao4 G.length ca4] 44)).size) ?_;intro v6 w6 jA5 jAv jC8;obtain⟨ao6,ca6,rfl⟩:=jDI jA5
            obtain⟨hd6,jNu⟩:=jDd.grow (x:=⟨xk,G⟩) ((Below.heap_alloc _ (.cells #[.int .u8 xk,.slice ao4 G.length ca4] 44) _ (lt_of_block hd5.out)).trans hd5.out) (by rw[jBj];exact hue) (by rw[jBj];exact HO5.out.alloc (.cells #[.int .u8 xk,.slice ao4 G.length ca4] 44)) (fun i hi=>(HP5.out i hi).step (jAb _)) (HU5.out.step (jAb _)) jAv (by rw[jBj];exact jA5)
            have c6:=jAT hd6;have f6:=Lib.frozen_of_heap hd6 0;have HD6:=hid jNu
            have HB6:=hid (((HB5.out.alloc HB5.out.size (.cells #[.int .u8 xk,.slice ao4 G.length ca4] 44)).grown jAv (Nat.le_trans HB5.out.size (jAb (w:=w5) (.cells #[.int .u8 xk,.slice ao4 G.length ca4] 44)).size) (fun b e=>(HO5.out.lt b e).1)).setCell (p:=⟨w2.heap.size,0,none⟩) (Nat.le_refl _) (.slice ao6 (k+1) ca6))
            clear jA5 jAv jC8 jNu hd6))
        go_roundw
        case rel=>exact⟨k+1,hlt,by go_num,HN.out,by show jDd _ _ _ _;rw[HSC.out];exact HD6.out,HB6.out⟩
        case measure=>simp[RowKit.intOf];omega
       ·have jYU:jC9 (jCb (jAe S k))=false:=by simpa using hWb
        have HX9:=hid (HBK.out)
        rw[if_neg (by simp[hG]),if_pos jYU]at HX9
        rw[jYU]at cWh
        clear HSN HBK hG hWb jYU
        generalize jCb (jAe S k)=G at *
        go_wp2_with (first
         | (go_at_call 17;(with_reducible refine (cG _ HBX.out).mono ?_);rintro e w4 ⟨⟨u4,rfl,hu4⟩,hb4⟩;obtain⟨ao4,ca4,rfl⟩:=hu4.form;have HU4:=hid hu4;have HB4:=hid (jAa HBX.out hb4);have HD4:=hid (HDX.out.step hb4);have HX4:=hid (HX.out.step hb4);have hr4:=jF3 HB4.out HR2.out;have HR4:=hid hr4;have cr4:=jAT hr4;have fr4:=Lib.frozen_of_heap hr4 0;clear hb4 hu4 hr4)
         | (go_at_call 46;(with_reducible refine (cWh _ _ HU4.out).mono ?_);rintro e w5 ⟨rfl,hb5⟩;have HB5:=hid (jAa HB4.out hb5);have HD5:=hid (HD4.out.step hb5);have HX5:=hid (HX4.out.step hb5);have HU5:=hid (HU4.out.step hb5);clear cr4 fr4;have hr5:=jF3 HB5.out HR2.out;have HR5:=hid hr5;have cr5:=jAT hr5;have fr5:=Lib.frozen_of_heap hr5 0;clear hb5 hr5))
        refine bodyPost_ret (jBk (xs:=[.slice none 0 0]) rfl rfl ag2 zg2 (jB0 (by rw[Lib.cell_of_heap (jBm HR5.out (.slice none 0 0))];rfl))) rfl ?_
        exact⟨HX9.out (by decide) _,(jAa HW2.out HB5.out).setCell (p:=⟨w.heap.size+1,0,none⟩) (by show _≤w.heap.size+1;omega) _⟩
      ·have HX9:=hid (HBK.out)
       rw[if_pos hG]at HX9
       generalize jCb (jAe S k)=G at *
       generalize jCA (jAe S k)=Z at *
       have HX8:=hid (HX9.out hG)
       have hZ2:(Z == 0)=false:=by simpa using hG
       clear HSN HBK hG HX9
       go_wp2_with (first
        | (go_at_call 17;(with_reducible refine (cG _ HBX.out).mono ?_);rintro e w4 ⟨⟨u4,rfl,hu4⟩,hb4⟩;obtain⟨ao4,ca4,rfl⟩:=hu4.form;have HU4:=hid hu4;have HB4:=hid (jAa HBX.out hb4);have HD4:=hid (HDX.out.step hb4);have HX4:=hid (HX.out.step hb4);have hr4:=jF3 HB4.out HR2.out;have HR4:=hid hr4;have cr4:=jAT hr4;have fr4:=Lib.frozen_of_heap hr4 0;clear hb4 hu4 hr4))
       refine bodyPost_ret (jBk (xs:=[.slice none 0 0]) rfl rfl ag2 zg2 (jB0 (by rw[Lib.cell_of_heap (jBm HR4.out (.slice none 0 0))];rfl))) rfl ?_
       exact⟨HX8.out _,(jAa HW2.out HB4.out).setCell (p:=⟨w.heap.size+1,0,none⟩) (by show _≤w.heap.size+1;omega) _⟩
    ·obtain rfl:k=bs.length:=by omega
     have hkI:¬(bs.length:Int)<(bs.length:Int):=by omega
     have HX9:=hid (fun w' h=>jJD.out HE.out (.slice ao1 bs.length cap1) w' h)
     have HO9:=hid own1
     have HBZ:=hid HW.out
     have HR3:=hid hr3
     rw[jBj]at HO9
     clear own1 jJD jUq d1 hr3
     go_wp2
     refine bodyPost_ret (jBk (xs:=[.slice ao1 bs.length cap1]) rfl rfl ag2 zg2 (jB0 (by rw[Lib.cell_of_heap (jBm HR3.out (.slice ao1 bs.length cap1))];rfl))) rfl ?_
     exact⟨HX9.out _ (HO9.out.kept (jBr _ _ _ _) HR3.out (by decide) (by decide)).low,HBZ.out.setCell (p:=⟨w.heap.size+1,0,none⟩) (by show _≤w.heap.size+1;omega) _⟩
 ·have HX9:=hid (fun w'=>jJ6.doc (S:=S) hD w')
  generalize jFz bs=Z at *
  have hZ2:(Z == 0)=false:=by simpa using hD
  clear hD
  go_enter Tryz.func14,Tryz.ntmps14
  go_wp2_with (first
   | (go_at_call 38;(with_reducible refine (cD _ HB0.out).mono ?_);rintro e w1 ⟨rfl,hb1⟩;have HB1:=hid (jB1 HB0.out hb1);obtain⟨b1,hr1,_,_⟩:=dbox2 HB1.out;have HR1:=hid hr1;have cr1:=jAT hr1;have fr1:=Lib.frozen_of_heap hr1 0;clear hb1 hr1))
  refine bodyPost_ret (jBk (xs:=[.slice none 0 0]) rfl rfl ag2 zg2 (jB0 (by rw[Lib.cell_of_heap (jBm HR1.out (.slice none 0 0))];rfl))) rfl ?_
  exact⟨HX9.out _,(dbox2 HB1.out).2.2.1.setCell (p:=⟨w.heap.size+1,0,none⟩) (by show _≤w.heap.size+1;omega) _⟩
end Go.Proofs.YtldapapdolkiaaaGreatDoor
