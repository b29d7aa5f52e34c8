/- The segments of a document, as the program cuts them. The segments of a document, as the specification cuts them. -/
import Derived.Test.YtldapapdolkiaaaGreatDoorSgA
import Derived.Test.YtldapapdolkiaaaGreatDoorBrE
import Derived.Test.YtldapapdolkiaaaGreatDoorCuE
import Derived.Test.YtldapapdolkiaaaGreatDoorDoA
import Derived.Test.YtldapapdolkiaaaGreatDoorBsC
import Derived.Test.YtldapapdolkiaaaGreatDoorGlD
namespace Go.Proofs.YtldapapdolkiaaaGreatDoor
set_option maxHeartbeats 64000000
open Go Go.RowKit Go.Lib
set_option maxRecDepth 100000
theorem jMA:∀ {bs:List Bk},jGr bs=0→∀b ∈ bs,jBF b=0
 | [],_,b,hb=>by cases hb
 | c :: r,h,b,hb=>by
   unfold jGr at h
   by_cases hc:jBF c=0
   ·rw[if_neg (by simp[hc])]at h
    rcases List.mem_cons.1 hb with rfl | hb
    ·exact hc
    ·exact jMA h b hb
   ·rw[if_pos hc]at h
    exact absurd h hc
theorem jKM {bs:List Bk}(h:jFz bs=0):bs.length≤256∧∀b ∈ bs,jBF b=0:=by
 unfold jFz at h
 by_cases hl:256<bs.length
 ·rw[if_pos hl]at h;exact absurd h (by decide)
 ·rw[if_neg hl]at h;exact⟨by omega,jMA h⟩
theorem jJu {b:Bk}(h:jBF b=0):jAu b.l=0:=by
 unfold jBF at h
 by_cases h1:b.k<1∨6<b.k
 ·rw[if_pos h1]at h;exact absurd h (by decide)
 ·rw[if_neg h1]at h
  by_cases h2:jAu b.l=0
  ·exact h2
  ·rw[if_pos h2]at h;exact absurd h h2
theorem jK6 (R:List Rl){l:List Pc}(hb:bulk l≤2500):(plcs R l).length≤2500:=by
 unfold plcs
 rw[List.length_map]
 have h1:(jGN R (jCa l)).length≤(jCa l).length:=by
  unfold jGN
  have:=List.length_filter_le (fun p=>decide (0<p) && jCp R (jCa l) p) (List.range (jCa l).length)
  rw[List.length_range]at this
  exact this
 have h2:=jHA l
 rw[jLr]at h1
 unfold jAW at h1
 omega
theorem jXr {l:List Pc}{at':List Int}:(ctR l at').length≤at'.length+1:=by
 unfold ctR jK2
 split
 ·rw[List.length_append,List.length_singleton]
  have:=jK8 (at':=at') (S:=jAh l) (jAh l).length (Nat.le_refl _)
  omega
 ·simp
def jB3 (k:Nat)(Q:List (List Pc)):List Sg:=Q.map fun q=>⟨(k:Int),q⟩
theorem jEc (k:Nat)(Q:List (List Pc)):(jB3 k Q).length=Q.length:=by unfold jB3;simp
theorem jIp (k:Nat)(Q:List (List Pc)):jB3 k (Q.take 0)=[]:=by simp[jB3]
theorem jIg {k:Nat}{Q:List (List Pc)}{j:Nat}(h:j<Q.length):jB3 k (Q.take (j+1))=jB3 k (Q.take j)++[⟨(k:Int),Q.getD j []⟩]:=by
 unfold jB3
 rw[List.take_add_one,List.getElem?_eq_getElem h,List.map_append,List.getD_eq_getElem?_getD,List.getElem?_eq_getElem h]
 rfl
theorem jLl {R:List Rl}{i:Nat}{b:Bk}(h:b.k=6):jXO R i b=[]:=by unfold jXO;rw[if_pos h]
theorem jLj {R:List Rl}{i:Nat}{b:Bk}(h:b.k≠6):jXO R i b=jB3 i (ctR b.l (plcs R b.l)):=by unfold jXO jB3;rw[if_neg h]
theorem jPs {R:List Rl}{b:Bk}(h:b.k=6):jOY R b=0:=by unfold jOY;rw[if_pos h]
theorem jO3 {R:List Rl}{b:Bk}(h:b.k≠6):jOY R b=ctE b.l (plcs R b.l):=by unfold jOY;rw[if_neg h]
theorem jGQ (R:List Rl)(bs:List Bk)(k:Nat):jBZ R bs (k+1)=jBZ R bs k++jXO R k (bs.getD k jBp):=rfl
theorem jVs {R:List Rl}{i:Nat}{b:Bk}(h:bulk b.l≤2500):(jXO R i b).length≤2501:=by
 by_cases h6:b.k=6
 ·rw[jLl h6];simp
 ·rw[jLj h6,jEc]
  have h1:=jXr (l:=b.l) (at':=plcs R b.l)
  have h2:=jK6 R h
  omega
theorem jIj {R:List Rl}{bs:List Bk}(h:∀b ∈ bs,bulk b.l≤2500):∀k,k≤bs.length→(jBZ R bs k).length≤k*2501
 | 0,_=>by simp[jBZ]
 | k+1,hk=>by
   have h1:=jIj (R:=R) h k (by omega)
   have h2:=jVs (R:=R) (i:=k) (h _ (jDH (show k<bs.length by omega)))
   rw[jGQ,List.length_append]
   omega
def jDS (bs:List Bk)(R:List Rl)(e:Ending)(w':World):Prop:=∃r,e=.returned (.tuple #[r,.int .u8 (sgE bs R)])∧jEy w' r (sgL bs R)
theorem jDS.bad {bs:List Bk}{R:List Rl}{z:Int}(h:sgE bs R=z)(hz:z≠0)(w':World):jDS bs R (.returned (.tuple #[.slice none 0 0,.int .u8 z])) w':=by
 subst h
 refine⟨_,rfl,?_⟩
 unfold sgL
 rw[if_neg hz]
 exact jSO _
theorem jDS.doc {bs:List Bk}{R:List Rl}(h:jFz bs≠0)(w':World):jDS bs R (.returned (.tuple #[.slice none 0 0,.int .u8 (jFz bs)])) w' :=
 .bad (by unfold sgE;rw[if_pos h]) h w'
theorem jDS.rules {bs:List Bk}{R:List Rl}(h0:jFz bs=0)(h:jDw R≠0)(w':World):jDS bs R (.returned (.tuple #[.slice none 0 0,.int .u8 (jDw R)])) w' :=
 .bad (by unfold sgE;rw[if_neg (by simp[h0]),if_pos h]) h w'
theorem jDS.block {bs:List Bk}{R:List Rl}(h0:jFz bs=0)(h1:jDw R=0){k:Nat}(hk:k<bs.length)(hS:jDV R bs k=0)(h:jOY R (bs.getD k jBp)≠0)(w':World):jDS bs R (.returned (.tuple #[.slice none 0 0,.int .u8 (jOY R (bs.getD k jBp))])) w' :=
 .bad (by unfold sgE;rw[if_neg (by simp[h0]),if_neg (by simp[h1]),jSw hk hS h]) h w'
theorem jDS.good {bs:List Bk}{R:List Rl}(h0:jFz bs=0)(h1:jDw R=0)(hS:jDV R bs bs.length=0){r:Value}{w':World}(hr:jEy w' r (jBZ R bs bs.length)):jDS bs R (.returned (.tuple #[r,.int .u8 0])) w':=by
 have h:sgE bs R=0:=by unfold sgE;rw[if_neg (by simp[h0]),if_neg (by simp[h1])];exact hS
 refine⟨r,by rw[h],?_⟩
 unfold sgL
 rw[if_pos h]
 exact hr
theorem jEZ.more {w w':World}{v u:Value}{Q:List (List Pc)}{B n:Nat}{xs:List Value}(h:jEZ w v Q)(o:Obj)(ho:w.ownsRow B 41 2 u n xs)(hg:(w.alloc o).grownBy w' u.ownBlock):jEZ w' v Q:=by
 have hb:Below w.heap.size w (w.alloc o):=jAb o
 have ho2:=jAZ hb (jCW ho)
 obtain⟨us,h1,h2,h3⟩:=h.step hb
 exact⟨us,h1,h2.kept hg (jBX h2 ho2 (by decide)),fun i hi=>(h3 i hi).kept hg (jBX (h3 i hi) ho2 (by decide))⟩
theorem jEZ.own {w:World}{v:Value}{Q:List (List Pc)}(h:jEZ w v Q){j:Nat}(hj:j<Q.length):∃A q c cap,v=.slice (some A) Q.length cap∧w.cell? (A.add j)=some (.slice q (Q.getD j []).length c)∧jA7 0 (.slice q (Q.getD j []).length c) (Q.getD j []) w:=by
 obtain⟨us,h1,h2,h3⟩:=h
 obtain⟨p,cap,e,_,_,hc⟩:=jI3 h2
 obtain⟨A,rfl,_,jAj⟩:=hc (by omega)
 have x:=jAj j 0 hj (by omega)
 have h4:=h3 j hj
 obtain⟨q,c,e2⟩:=h4.form
 rw[show j*1+0=j by omega]at x
 unfold ptF at x
 rw[e2]at x h4
 exact⟨A,q,c,cap,e,x,h4⟩
theorem jLK (bs:List Bk)(R:List Rl)(v vR:Value)(w:World)
 (hv:jDr w v bs) (hr:jB5 w vR R) (hz:SzR R) (hk:∀b ∈ bs,0≤b.k) (hs:∀b ∈ bs,∀x ∈ b.l,x.s.size≤maxLen) (hb:bs.length≤256→∀b ∈ bs,bulk b.l≤2500) (hT:Tabs w) (hC:jGn jH4 w) :
 Calls Tryz.prog 11 #[.agg #[v],vR] w fun e w'=>jDS bs R e w'∧Below w.heap.size w w':=by
 have HD0:=hid (jGg w v 24)
 have HB0:=hid (jAb (w:=w) (.cells #[v] 24))
 have cD:=fun wr (h:Below w.heap.size w wr)=>jHi bs v wr (hv.step h) hk hs (hT.step h)
 have cR:=fun wr (h:Below w.heap.size w wr)=>jIs R vR wr (hr.step h) hz (hT.step h)
 have hg:5≤w.heap.size:=hT.2.2
 obtain⟨i0,hi,hz0,hz1,hz2⟩:=info_parts jS0
 have ag:=Tryz.isAgg44
 have zg:=Tryz.sizeOf44
 have ag2:=Tryz.isAgg24
 have zg2:=Tryz.sizeOf24
 have HV:=hid hv
 have HRu:=hid hr
 have HZ:=hid hz
 have HT:=hid hT
 have HC:=hid hC
 obtain⟨us0,qAz,⟨p,cap,rfl,hl1,hc,jA4⟩,jQi⟩:=hv
 obtain⟨pR,cpR,rfl,hlR,hcR,_⟩:=hr
 unfold maxLen at hc hcR
 have HR:=hid jA4
 have HU:=hid jQi
 clear jA4 jQi hz hT hC
 by_cases hD:jFz bs=0
 ·obtain⟨jNz,jH0⟩:=jKM hD
  have hbk:=hb jNz
  by_cases hE:jDw R=0
  ·have HF:=hid jH0
   have HK:=hid hbk
   have jJD:=hid (fun (h:jDV R bs bs.length=0) (r:Value) (w':World) (hr:jEy w' r (jBZ R bs bs.length))=>jDS.good hD hE h hr)
   have jUq:=hid (fun (k:Nat) (hk:k<bs.length) (hS:jDV R bs k=0) (h:jOY R (bs.getD k jBp)≠0) (w':World)=>jDS.block hD hE hk hS h w')
   have HE:=hid hE
   have jBi:=fun k hk=>jIj (R:=R) hbk k hk
   rw[hD]at cD
   rw[hE]at cR
   clear hD hE jH0 hbk hb hk hs
   go_enter Tryz.func11,Tryz.ntmps11
   go_wp2_with (first
    | (go_at_call 38;(with_reducible refine (cD _ HB0.out).mono ?_);rintro e w1 ⟨rfl,hb1⟩;have HB1:=hid (jAa HB0.out hb1);have HD1:=hid (HD0.out.step hb1);have b1:=HD1.out.1;clear hb1)
    | (go_at_call 39;(with_reducible refine (cR _ HB1.out).mono ?_);rintro e w2 ⟨rfl,hb2⟩;have HB2:=hid (jAa HB1.out hb2);have HD2:=hid (HD1.out.step hb2);have b2:=HD2.out.1;clear hb2))
   go_loopw [8,29] (fun o i wr=>∃k:Nat,k≤bs.length∧i=.int .i64 k∧Hid (jDV R bs k=0)∧Hid (jCr w.heap.size o (jBZ R bs k) wr)∧Hid (Below w.heap.size w wr)) (fun _ i _=>bs.length-(RowKit.intOf i).toNat)
   case atStart=>exact⟨0,Nat.zero_le _,rfl,rfl,jCr.nil _ _,HB2.out⟩
   case round =>
    obtain⟨k,hk,rfl,HS,HO,HB⟩:=hrel
    obtain⟨ao,ca0,rfl⟩:=HO.out.form
    by_cases hlt:k<bs.length
    ·have hkI:(k:Int)<(bs.length:Int):=by omega
     have hk0:(0:Int)≤(k:Int):=by omega
     obtain⟨A,rfl,hA,jAj⟩:=HR.out (by omega)
     obtain⟨x0,x1⟩:=jBv hA jAj hlt HB.out
     have hp1:=HU.out k hlt
     obtain⟨aq,cq,e1⟩:=jBT hp1
     rw[e1]at x1 hp1
     have jFu:=jDH hlt
     have hck:=jJu (HF.out _ jFu)
     have hbu:=HK.out _ jFu
     have hsc:=jGQ R bs k
     have hl0:=jBi k (by omega)
     have hl2:=jBi (k+1) hlt
     have HSN:=hid (fun h:jOY R (bs.getD k jBp)=0=>(jGV HS.out).trans h)
     have HBK:=hid (jUq.out k hlt HS.out)
     rw[hsc]at hl2
     have HSC:=hid hsc
     clear jAj e1 jFu hsc
     generalize bs.getD k jBp=x at *
     obtain⟨xk,xl⟩:=x
     simp only at x0 x1 hp1 hck hbu
     have HBX:=hid (jAa HB.out (jAb (w:=wr) (.cells #[.int .u8 xk,.slice aq xl.length cq] 44)))
     have HX:=hid (jVg.new wr xk (.slice aq xl.length cq) 44)
     have HOX:=hid (HO.out.step (jAb (.cells #[.int .u8 xk,.slice aq xl.length cq] 44)))
     by_cases h6:xk=6
     ·subst h6
      have HN:=hid (HSN.out (jPs rfl))
      have HQ:=hid (show jBZ R bs (k+1)=jBZ R bs k by rw[HSC.out,jLl rfl,List.append_nil])
      clear HSN HBK HSC hl2 hck hp1
      go_wp2
      go_roundw
      case rel=>exact⟨k+1,hlt,by go_num,HN.out,by rw[HQ.out];exact HOX.out,HBX.out⟩
      case measure=>simp[RowKit.intOf];omega
     ·have h6b:(xk == 6)=false:=by simpa using h6
      have eE:=jO3 (R:=R) (b:=⟨xk,xl⟩) h6
      have eS:=jLj (R:=R) (i:=k) (b:=⟨xk,xl⟩) h6
      simp only at eE eS
      rw[eE]at HSN HBK
      rw[eS]at hl2 HSC
      have hE0:=HE.out
      have ebE:brE R xl=0:=by unfold brE;rw[if_neg (by simp[hE0])];exact hck
      have ebR:(brR R xl).map (fun p:Nat=>(p:Int))=plcs R xl:=by unfold brR plcs;rw[if_pos ebE]
      have cB:=fun wr (h:Below w.heap.size w wr)=>jQX R xl _ _ wr (HRu.out.step h) HZ.out (hp1.step h) (by omega) (HT.out.step h) (HC.out.below h (by omega))
      rw[ebE,ebR]at cB
      have hpl:=jK6 R hbu
      have cC:=fun va wr (h:Below w.heap.size w wr) (ha:jC0 wr va (plcs R xl))=>jXz xl (plcs R xl) _ va wr (hp1.step h) ha (by omega) (by omega) (HT.out.step h)
      clear eE eS ebE ebR hE0 hp1 hck h6
      generalize plcs R xl=PL at *
      generalize ctE xl PL=Z at *
      generalize ctR xl PL=Q at *
      rw[List.length_append,jEc]at hl2
      by_cases hZ:Z=0
      ·subst hZ
       have HN:=hid (HSN.out rfl)
       clear HSN HBK
       go_wp2_with (first
        | (go_at_call 36;(with_reducible refine (cB _ HBX.out).mono ?_);rintro e w4 ⟨⟨r4,rfl,hr4⟩,hb4⟩;obtain⟨p4,c4,rfl,_,_⟩:=hr4.form;have HI4:=hid hr4;have HB4:=hid (jAa HBX.out hb4);have HX4:=hid (HX.out.step hb4);obtain⟨y0,y1,_⟩:=HX4.out;have HO4:=hid (HOX.out.step hb4);clear hb4 hr4)
        | (go_at_call 37;(with_reducible refine (cC _ _ HB4.out HI4.out).mono ?_);rintro e w5 ⟨⟨r5,rfl,hr5⟩,hb5⟩;obtain⟨p5,c5,rfl,_,_⟩:=hr5.form;have HP5:=hid hr5;have HB5:=hid (jAa HB4.out hb5);have HO5:=hid (HO4.out.step hb5);clear hb5 hr5 y0 y1))
       have HS0:Hid (jCr w.heap.size (.slice ao (jBZ R bs k).length ca0) (jBZ R bs k++jB3 k (Q.take 0)) w5):=by
        have h:=HO5.out
        show jCr _ _ _ _
        rw[jIp,List.append_nil]
        exact h
       clear HO HO4 HO5 HOX HX HX4
       go_loopw [8,59] (fun o i wr=>∃j:Nat,j≤Q.length∧i=.int .i64 j∧Hid (jCr w.heap.size o (jBZ R bs k++jB3 k (Q.take j)) wr)∧Hid (jEZ wr (.slice p5 Q.length c5) Q)∧Hid (Below w.heap.size w wr)) (fun _ i _=>Q.length-(RowKit.intOf i).toNat)
       case atStart=>exact⟨0,Nat.zero_le _,rfl,HS0.out,HP5.out,HB5.out⟩
       case round =>
        obtain⟨j,hj,rfl,HOj,HPt,HBj⟩:=hrel
        have hlj:(jBZ R bs k++jB3 k (Q.take j)).length=(jBZ R bs k).length+j:=by rw[List.length_append,jEc,List.length_take];omega
        obtain⟨ao7,ca7,rfl⟩:=HOj.out.form
        by_cases hjl:j<Q.length
        ·have hjI:(j:Int)<(Q.length:Int):=by omega
         have hj0:(0:Int)≤(j:Int):=by omega
         obtain⟨A5,q7,c7,cap5,e5,z0,hq⟩:=HPt.out.own hjl
         injection e5 with e51 e52 e53
         subst e51 e53
         have HQ7:=hid hq
         have HSS:=hid (show jBZ R bs k++jB3 k (Q.take (j+1))=jBZ R bs k++jB3 k (Q.take j)++[⟨(k:Int),Q.getD j []⟩] by rw[jIg hjl,List.append_assoc])
         obtain⟨us,hul,jAN,hup⟩:=HOj.out
         generalize jBZ R bs k++jB3 k (Q.take j)=L at *
         generalize Q.getD j []=part at *
         have q1:=hid (show L.length+1≤maxLen by unfold maxLen;omega)
         have q2:=hid (show (L.length+1)*32≤140737488355328 by omega)
         have one2:Hid (∀ao n cap,∀u ∈ ([.int .i64 (k:Int),.slice ao n cap]:List Value),u.oneCell'=true):=by intro ao n cap u hu;simp at hu;rcases hu with rfl | rfl <;> rfl
         clear hq hlj e52
         go_wp2_with (first
          | (at_builtin;refine wpList_append_own _ rfl _ _ 26 rfl w.heap.size 41 i0 _ 2 32 Tryz.underlying26 hi hz0 hz1 hz2 rfl (by decide) _ _ _ rfl (jAN.alloc (.cells #[.int .i64 (k:Int),.slice q7 part.length c7] 41)) ⟨wr.heap.size,0,none⟩ 1 1 [.int .i64 (k:Int),.slice q7 part.length c7] rfl rfl (jBV _ _ _ _) (one2.out _ _ _) q1.out q2.out (Nat.le_trans HBj.out.size (jAb (w:=wr) (.cells #[.int .i64 (k:Int),.slice q7 part.length c7] 41)).size) ?_;intro v6 w6 jA5 jAv jC8
             have HO6:=hid (jCr.more (b:=⟨(k:Int),part⟩) hul (jAN.alloc (.cells #[.int .i64 (k:Int),.slice q7 part.length c7] 41)) (fun i hi=>(hup i hi).step (jAb _)) (HQ7.out.step (jAb _)) jAv jA5)
             have HB6:=hid ((HBj.out.alloc HBj.out.size (.cells #[.int .i64 (k:Int),.slice q7 part.length c7] 41)).grown jAv (Nat.le_trans HBj.out.size (jAb (w:=wr) (.cells #[.int .i64 (k:Int),.slice q7 part.length c7] 41)).size) (fun k hk=>(jAN.lt k hk).1))
             have HP6:=hid (jEZ.more HPt.out (.cells #[.int .i64 (k:Int),.slice q7 part.length c7] 41) jAN jAv)
             clear jA5 jAv jC8))
         go_roundw
         case rel=>exact⟨j+1,hjl,by go_num,by show jCr _ _ _ _;rw[HSS.out];exact HO6.out,HP6.out,HB6.out⟩
         case measure=>simp[RowKit.intOf];omega
        ·obtain rfl:j=Q.length:=by omega
         have hjI:¬(Q.length:Int)<(Q.length:Int):=by omega
         have HOz:Hid (jCr w.heap.size (.slice ao7 (jBZ R bs k++jB3 k (Q.take Q.length)).length ca7) (jBZ R bs (k+1)) wr):=by
          have h:=HOj.out
          show jCr _ _ _ _
          rw[HSC.out]
          rw[List.take_length]at h ⊢
          exact h
         clear HOj
         go_wp2
         go_roundw
         case rel=>exact⟨k+1,hlt,by go_num,HN.out,HOz.out,HBj.out⟩
         case measure=>simp[RowKit.intOf];omega
      ·have hZ2:(Z == 0)=false:=by simpa using hZ
       have HX9:=hid (HBK.out hZ)
       clear HSN HBK hZ
       go_wp2_with (first
        | (go_at_call 36;(with_reducible refine (cB _ HBX.out).mono ?_);rintro e w4 ⟨⟨r4,rfl,hr4⟩,hb4⟩;obtain⟨p4,c4,rfl,_,_⟩:=hr4.form;have HI4:=hid hr4;have HB4:=hid (jAa HBX.out hb4);have HX4:=hid (HX.out.step hb4);obtain⟨y0,y1,_⟩:=HX4.out;have HO4:=hid (HOX.out.step hb4);clear hb4 hr4)
        | (go_at_call 37;(with_reducible refine (cC _ _ HB4.out HI4.out).mono ?_);rintro e w5 ⟨⟨r5,rfl,hr5⟩,hb5⟩;obtain⟨p5,c5,rfl,_,_⟩:=hr5.form;have HP5:=hid hr5;have HB5:=hid (jAa HB4.out hb5);have HO5:=hid (HO4.out.step hb5);clear hb5 hr5 y0 y1))
       go_ret2
       exact⟨HX9.out _,HB5.out⟩
    ·obtain rfl:k=bs.length:=by omega
     have hkI:¬(bs.length:Int)<(bs.length:Int):=by omega
     have HX9:=hid (jJD.out HS.out _ wr HO.out.at)
     clear jJD jUq
     generalize jBZ R bs bs.length=L at *
     go_wp2
     go_ret2
     exact⟨HX9.out,HB.out⟩
  ·have HX9:=hid (fun w'=>jDS.rules (bs:=bs) hD hE w')
   rw[hD]at cD
   generalize jDw R=Z at *
   have hZ2:(Z == 0)=false:=by simpa using hE
   clear hE hD jH0 hbk
   go_enter Tryz.func11,Tryz.ntmps11
   go_wp2_with (first
    | (go_at_call 38;(with_reducible refine (cD _ HB0.out).mono ?_);rintro e w1 ⟨rfl,hb1⟩;have HB1:=hid (jAa HB0.out hb1);have HD1:=hid (HD0.out.step hb1);have b1:=HD1.out.1;clear hb1)
    | (go_at_call 39;(with_reducible refine (cR _ HB1.out).mono ?_);rintro e w2 ⟨rfl,hb2⟩;have HB2:=hid (jAa HB1.out hb2);have HD2:=hid (HD1.out.step hb2);have b2:=HD2.out.1;clear hb2))
   go_ret2
   exact⟨HX9.out _,HB2.out⟩
 ·have HX9:=hid (fun w'=>jDS.doc (R:=R) hD w')
  generalize jFz bs=Z at *
  have hZ2:(Z == 0)=false:=by simpa using hD
  clear hD
  go_enter Tryz.func11,Tryz.ntmps11
  go_wp2_with (first
   | (go_at_call 38;(with_reducible refine (cD _ HB0.out).mono ?_);rintro e w1 ⟨rfl,hb1⟩;have HB1:=hid (jAa HB0.out hb1);have HD1:=hid (HD0.out.step hb1);have b1:=HD1.out.1;clear hb1))
  go_ret2
  exact⟨HX9.out _,HB1.out⟩
end Go.Proofs.YtldapapdolkiaaaGreatDoor
namespace Go.Proofs.YtldapapdolkiaaaGreatDoor
set_option maxHeartbeats 64000000
open Go Go.RowKit Go.Lib
set_option maxRecDepth 100000
theorem jIq (bs:List Bk)(R:List Rl)(v vR:Value)(w:World)
 (hv:jDr w v bs) (hr:jB5 w vR R) (hz:SzR R) (hb:bs.length≤256→∀b ∈ bs,bulk b.l≤2500) :
 Calls Tryz.prog 12 #[.agg #[v],vR] w fun e w'=>jDS bs R e w'∧Below w.heap.size w w':=by
 obtain⟨i0,hi,hz0,hz1,hz2⟩:=info_parts jS0
 have ag:=Tryz.isAgg44
 have zg:=Tryz.sizeOf44
 have ag2:=Tryz.isAgg24
 have zg2:=Tryz.sizeOf24
 have HV:=hid hv
 have HRu:=hid hr
 have HZ:=hid hz
 obtain⟨us0,qAz,⟨p,cap,rfl,hl1,hc,jA4⟩,jQi⟩:=hv
 obtain⟨pR,cpR,rfl,hlR,hcR,_⟩:=hr
 have HB0:Hid (Below (w.heap.size+1) (w.alloc (.cells #[.slice p bs.length cap] 24)) (w.alloc (.cells #[.slice p bs.length cap] 24))):=Below.refl _ _
 have cD:=fun wr (h:Below (w.heap.size+1) (w.alloc (.cells #[.slice p bs.length cap] 24)) wr)=>jEQ bs _ wr (HV.out.step (jAm h).2) hb
 have cR:=fun wr (h:Below (w.heap.size+1) (w.alloc (.cells #[.slice p bs.length cap] 24)) wr)=>jED R _ wr (HRu.out.step (jAm h).2) HZ.out
 unfold maxLen at hc hcR
 have HR:=hid jA4
 have HU:=hid jQi
 clear jA4 jQi hz
 by_cases hD:jFz bs=0
 ·obtain⟨jNz,jH0⟩:=jKM hD
  have hbk:=hb jNz
  by_cases hE:jDw R=0
  ·have HF:=hid jH0
   have HK:=hid hbk
   have jJD:=hid (fun (h:jDV R bs bs.length=0) (r:Value) (w':World) (hr:jEy w' r (jBZ R bs bs.length))=>jDS.good hD hE h hr)
   have jUq:=hid (fun (k:Nat) (hk:k<bs.length) (hS:jDV R bs k=0) (h:jOY R (bs.getD k jBp)≠0) (w':World)=>jDS.block hD hE hk hS h w')
   have HE:=hid hE
   have jBi:=fun k hk=>jIj (R:=R) hbk k hk
   rw[hD]at cD
   rw[hE]at cR
   clear hD hE jH0 hbk hb
   go_enter Tryz.func12,Tryz.ntmps12
   go_wp2_with (first
    | (go_at_call 40;(with_reducible refine (cD _ HB0.out).mono ?_);rintro e w1 ⟨rfl,hb1⟩;have HB1:=hid (jAC HB0.out hb1);have b1:=(jAm HB1.out).1;clear hb1)
    | (go_at_call 41;(with_reducible refine (cR _ HB1.out).mono ?_);rintro e w2 ⟨rfl,hb2⟩;have HB2:=hid (jAC HB1.out hb2);have b2:=(jAm HB2.out).1;clear hb2))
   go_loopw [7,8] (fun o i wr=>∃k:Nat,k≤bs.length∧i=.int .i64 k∧Hid (jDV R bs k=0)∧Hid (jCr (w.heap.size+1) o (jBZ R bs k) wr)∧Hid (Below (w.heap.size+1) (w.alloc (.cells #[.slice p bs.length cap] 24)) wr)) (fun _ i _=>bs.length-(RowKit.intOf i).toNat)
   case atStart=>exact⟨0,Nat.zero_le _,rfl,rfl,jCr.nil _ _,HB2.out⟩
   case round =>
    clear b2 b1
    obtain⟨k,hk,rfl,HS,HO,HB⟩:=hrel
    obtain⟨ao,ca0,rfl⟩:=HO.out.form
    obtain⟨b0,hW0⟩:=jAm HB.out
    by_cases hlt:k<bs.length
    ·have hkI:(k:Int)<(bs.length:Int):=by omega
     have hk0:(0:Int)≤(k:Int):=by omega
     obtain⟨A,rfl,hA,jAj⟩:=HR.out (by omega)
     obtain⟨x0,x1⟩:=jBv hA jAj hlt hW0
     have jLF:=hid (fun wx (h:Below w.heap.size w wx)=>(jBv hA jAj hlt h).2)
     have hp1:=HU.out k hlt
     obtain⟨aq,cq,e1⟩:=jBT hp1
     rw[e1]at x1 hp1 jLF
     have jFu:=jDH hlt
     have hck:=jJu (HF.out _ jFu)
     have hbu:=HK.out _ jFu
     have hsc:=jGQ R bs k
     have hl0:=jBi k (by omega)
     have hl2:=jBi (k+1) hlt
     have HSN:=hid (fun h:jOY R (bs.getD k jBp)=0=>(jGV HS.out).trans h)
     have HBK:=hid (jUq.out k hlt HS.out)
     rw[hsc]at hl2
     have HSC:=hid hsc
     clear jAj e1 jFu hsc hW0
     generalize bs.getD k jBp=x at *
     obtain⟨xk,xl⟩:=x
     simp only at x0 x1 hp1 hck hbu jLF
     by_cases h6:xk=6
     ·subst h6
      have HN:=hid (HSN.out (jPs rfl))
      have HQ:=hid (show jBZ R bs (k+1)=jBZ R bs k by rw[HSC.out,jLl rfl,List.append_nil])
      clear HSN HBK HSC hl2 hck hp1
      go_wp2
      go_roundw
      case rel=>exact⟨k+1,hlt,by go_num,HN.out,by rw[HQ.out];exact HO.out,HB.out⟩
      case measure=>simp[RowKit.intOf];omega
     ·have h6b:(xk == 6)=false:=by simpa using h6
      have eE:=jO3 (R:=R) (b:=⟨xk,xl⟩) h6
      have eS:=jLj (R:=R) (i:=k) (b:=⟨xk,xl⟩) h6
      simp only at eE eS
      rw[eE]at HSN HBK
      rw[eS]at hl2 HSC
      have hE0:=HE.out
      have ebE:brE R xl=0:=by unfold brE;rw[if_neg (by simp[hE0])];exact hck
      have ebR:(brR R xl).map (fun p:Nat=>(p:Int))=plcs R xl:=by unfold brR plcs;rw[if_pos ebE]
      have cB:=fun wr (h:Below (w.heap.size+1) (w.alloc (.cells #[.slice (some A) bs.length cap] 24)) wr)=>jOi R xl _ _ wr (HRu.out.step (jAm h).2) HZ.out (hp1.step (jAm h).2) (by omega)
      rw[ebE,ebR]at cB
      have hpl:=jK6 R hbu
      have cC:=fun va wr (h:Below (w.heap.size+1) (w.alloc (.cells #[.slice (some A) bs.length cap] 24)) wr) (ha:jC0 wr va (plcs R xl))=>jRe xl (plcs R xl) _ va wr (hp1.step (jAm h).2) ha (by omega) (by omega)
      clear eE eS ebE ebR hE0 hp1 hck h6
      generalize plcs R xl=PL at *
      generalize ctE xl PL=Z at *
      generalize ctR xl PL=Q at *
      rw[List.length_append,jEc]at hl2
      by_cases hZ:Z=0
      ·subst hZ
       have HN:=hid (HSN.out rfl)
       clear HSN HBK
       go_wp2_with (first
        | (go_at_call 42;(with_reducible refine (cB _ HB.out).mono ?_);rintro e w4 ⟨⟨r4,rfl,hr4⟩,hb4⟩;obtain⟨p4,c4,rfl,_,_⟩:=hr4.form;have HI4:=hid hr4;have HB4:=hid (jAC HB.out hb4);obtain⟨b4,HW4⟩:=jAm HB4.out;have y1:=jLF.out w4 HW4;have HO4:=hid (HO.out.step hb4);clear hb4 hr4)
        | (go_at_call 43;(with_reducible refine (cC _ _ HB4.out HI4.out).mono ?_);rintro e w5 ⟨⟨r5,rfl,hr5⟩,hb5⟩;obtain⟨p5,c5,rfl,_,_⟩:=hr5.form;have HP5:=hid hr5;have HB5:=hid (jAC HB4.out hb5);have HO5:=hid (HO4.out.step hb5);clear hb5 hr5 y1 b4))
       have HS0:Hid (jCr (w.heap.size+1) (.slice ao (jBZ R bs k).length ca0) (jBZ R bs k++jB3 k (Q.take 0)) w5):=by
        have h:=HO5.out
        show jCr _ _ _ _
        rw[jIp,List.append_nil]
        exact h
       clear HO HO4 HO5 b0 x0 x1
       go_loopw [7,13] (fun o i wr=>∃j:Nat,j≤Q.length∧i=.int .i64 j∧Hid (jCr (w.heap.size+1) o (jBZ R bs k++jB3 k (Q.take j)) wr)∧Hid (jEZ wr (.slice p5 Q.length c5) Q)∧Hid (Below (w.heap.size+1) (w.alloc (.cells #[.slice (some A) bs.length cap] 24)) wr)) (fun _ i _=>Q.length-(RowKit.intOf i).toNat)
       case atStart=>exact⟨0,Nat.zero_le _,rfl,HS0.out,HP5.out,HB5.out⟩
       case round =>
        obtain⟨j,hj,rfl,HOj,HPt,HBj⟩:=hrel
        have hlj:(jBZ R bs k++jB3 k (Q.take j)).length=(jBZ R bs k).length+j:=by rw[List.length_append,jEc,List.length_take];omega
        obtain⟨ao7,ca7,rfl⟩:=HOj.out.form
        by_cases hjl:j<Q.length
        ·have hjI:(j:Int)<(Q.length:Int):=by omega
         have hj0:(0:Int)≤(j:Int):=by omega
         obtain⟨A5,q7,c7,cap5,e5,z0,hq⟩:=HPt.out.own hjl
         injection e5 with e51 e52 e53
         subst e51 e53
         have HQ7:=hid hq
         have HSS:=hid (show jBZ R bs k++jB3 k (Q.take (j+1))=jBZ R bs k++jB3 k (Q.take j)++[⟨(k:Int),Q.getD j []⟩] by rw[jIg hjl,List.append_assoc])
         obtain⟨us,hul,jAN,hup⟩:=HOj.out
         generalize jBZ R bs k++jB3 k (Q.take j)=L at *
         generalize Q.getD j []=part at *
         have q1:=hid (show L.length+1≤maxLen by unfold maxLen;omega)
         have q2:=hid (show (L.length+1)*32≤140737488355328 by omega)
         have one2:Hid (∀ao n cap,∀u ∈ ([.int .i64 (k:Int),.slice ao n cap]:List Value),u.oneCell'=true):=by intro ao n cap u hu;simp at hu;rcases hu with rfl | rfl <;> rfl
         clear hq hlj e52
         go_wp2_with (first
          | (at_builtin;refine wpList_append_own _ rfl _ _ 26 rfl (w.heap.size+1) 41 i0 _ 2 32 Tryz.underlying26 hi hz0 hz1 hz2 rfl (by decide) _ _ _ rfl (jAN.alloc (.cells #[.int .i64 (k:Int),.slice q7 part.length c7] 41)) ⟨wr.heap.size,0,none⟩ 1 1 [.int .i64 (k:Int),.slice q7 part.length c7] rfl rfl (jBV _ _ _ _) (one2.out _ _ _) q1.out q2.out (Nat.le_trans (jRm HBj.out) (jAb (w:=wr) (.cells #[.int .i64 (k:Int),.slice q7 part.length c7] 41)).size) ?_;intro v6 w6 jA5 jAv jC8
             have HO6:=hid (jCr.more (b:=⟨(k:Int),part⟩) hul (jAN.alloc (.cells #[.int .i64 (k:Int),.slice q7 part.length c7] 41)) (fun i hi=>(hup i hi).step (jAb _)) (HQ7.out.step (jAb _)) jAv jA5)
             have HB6:=hid ((HBj.out.alloc (jRm HBj.out) (.cells #[.int .i64 (k:Int),.slice q7 part.length c7] 41)).grown jAv (Nat.le_trans (jRm HBj.out) (jAb (w:=wr) (.cells #[.int .i64 (k:Int),.slice q7 part.length c7] 41)).size) (fun k hk=>(jAN.lt k hk).1))
             have HP6:=hid (jEZ.more HPt.out (.cells #[.int .i64 (k:Int),.slice q7 part.length c7] 41) jAN jAv)
             clear jA5 jAv jC8))
         go_roundw
         case rel=>exact⟨j+1,hjl,by go_num,by show jCr _ _ _ _;rw[HSS.out];exact HO6.out,HP6.out,HB6.out⟩
         case measure=>simp[RowKit.intOf];omega
        ·obtain rfl:j=Q.length:=by omega
         have hjI:¬(Q.length:Int)<(Q.length:Int):=by omega
         have HOz:Hid (jCr (w.heap.size+1) (.slice ao7 (jBZ R bs k++jB3 k (Q.take Q.length)).length ca7) (jBZ R bs (k+1)) wr):=by
          have h:=HOj.out
          show jCr _ _ _ _
          rw[HSC.out]
          rw[List.take_length]at h ⊢
          exact h
         clear HOj
         go_wp2
         go_roundw
         case rel=>exact⟨k+1,hlt,by go_num,HN.out,HOz.out,HBj.out⟩
         case measure=>simp[RowKit.intOf];omega
      ·have hZ2:(Z == 0)=false:=by simpa using hZ
       have HX9:=hid (HBK.out hZ)
       clear HSN HBK hZ
       go_wp2_with (first
        | (go_at_call 42;(with_reducible refine (cB _ HB.out).mono ?_);rintro e w4 ⟨⟨r4,rfl,hr4⟩,hb4⟩;obtain⟨p4,c4,rfl,_,_⟩:=hr4.form;have HI4:=hid hr4;have HB4:=hid (jAC HB.out hb4);obtain⟨b4,HW4⟩:=jAm HB4.out;have y1:=jLF.out w4 HW4;have HO4:=hid (HO.out.step hb4);clear hb4 hr4)
        | (go_at_call 43;(with_reducible refine (cC _ _ HB4.out HI4.out).mono ?_);rintro e w5 ⟨⟨r5,rfl,hr5⟩,hb5⟩;obtain⟨p5,c5,rfl,_,_⟩:=hr5.form;have HP5:=hid hr5;have HB5:=hid (jAC HB4.out hb5);have HO5:=hid (HO4.out.step hb5);clear hb5 hr5 y1 b4))
       go_ret2
       exact⟨HX9.out _,(jAm HB5.out).2⟩
    ·obtain rfl:k=bs.length:=by omega
     have hkI:¬(bs.length:Int)<(bs.length:Int):=by omega
     have HX9:=hid (jJD.out HS.out _ wr HO.out.at)
     clear jJD jUq
     generalize jBZ R bs bs.length=L at *
     go_wp2
     go_ret2
     exact⟨HX9.out,hW0⟩
  ·have HX9:=hid (fun w'=>jDS.rules (bs:=bs) hD hE w')
   rw[hD]at cD
   generalize jDw R=Z at *
   have hZ2:(Z == 0)=false:=by simpa using hE
   clear hE hD jH0 hbk
   go_enter Tryz.func12,Tryz.ntmps12
   go_wp2_with (first
    | (go_at_call 40;(with_reducible refine (cD _ HB0.out).mono ?_);rintro e w1 ⟨rfl,hb1⟩;have HB1:=hid (jAC HB0.out hb1);have b1:=(jAm HB1.out).1;clear hb1)
    | (go_at_call 41;(with_reducible refine (cR _ HB1.out).mono ?_);rintro e w2 ⟨rfl,hb2⟩;have HB2:=hid (jAC HB1.out hb2);have b2:=(jAm HB2.out).1;clear hb2))
   go_ret2
   exact⟨HX9.out _,(jAm HB2.out).2⟩
 ·have HX9:=hid (fun w'=>jDS.doc (R:=R) hD w')
  generalize jFz bs=Z at *
  have hZ2:(Z == 0)=false:=by simpa using hD
  clear hD
  go_enter Tryz.func12,Tryz.ntmps12
  go_wp2_with (first
   | (go_at_call 40;(with_reducible refine (cD _ HB0.out).mono ?_);rintro e w1 ⟨rfl,hb1⟩;have HB1:=hid (jAC HB0.out hb1);have b1:=(jAm HB1.out).1;clear hb1))
  go_ret2
  exact⟨HX9.out _,(jAm HB1.out).2⟩
end Go.Proofs.YtldapapdolkiaaaGreatDoor
