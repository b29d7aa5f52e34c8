/- Cut by the program. Cut by the program, for any list and any places. -/
import Derived.Test.YtldapapdolkiaaaGreatDoorCuC
import Derived.Test.YtldapapdolkiaaaGreatDoorGlD
namespace Go.Proofs.YtldapapdolkiaaaGreatDoor
set_option maxHeartbeats 64000000
open Go Go.RowKit Go.Lib
set_option maxRecDepth 100000
attribute [local go_sem] Oper.semAt_some
theorem jUV (l:List Pc)(at':List Int)(v va:Value)(w:World)(hv:jBe w v l)(ha:jC0 w va at')(hb:bulk l≤9000)(hn:at'.length≤9000)(hT:Tabs w)(hE:jAu l=0)(hA:jE6 (jAW l) 0 at'=true) :
 Calls Tryz.prog 37 #[v,va] w fun e w'=>(∃u,e=.returned (.tuple #[u,.int .u8 (ctE l at')])∧jEZ w' u (ctR l at'))∧Below w.heap.size w w':=by
 have jDx:=jCV hE
 have jFu:=jE3 hE
 have cU:=fun w1 (h:Below w.heap.size w w1)=>jFG l v w1 (hv.step h) (by omega) (hT.step h)
 have hU:unE l=jAW l:=by unfold unE;rw[if_pos hE]
 have cA:=fun w1 (h:Below w.heap.size w w1)=>jIW at' (jAW l:Nat) va w1 (ha.step h)
 rw[hA]at cA
 rw[hE,hU]at cU
 have HV:=hid hv
 have HAT:=hid ha
 have HT:=hid hT
 obtain⟨p,cap,rfl,hl,hc⟩:∃p cap,v=.slice p l.length cap∧l.length≤cap∧cap≤maxLen:=by
  obtain⟨p,cap,e,h1,h2,_⟩:=hv
  exact⟨p,cap,e,h1,h2⟩
 obtain⟨pa,ca,rfl,hla,hca⟩:=ha.form
 unfold maxLen at hc hca
 have cS:=fun w=>jIw p l.length cap w
 have hNs:(jAh l).length≤9000:=Nat.le_trans (jFo l) hb
 clear hv ha hT hU
 refine (callsIn_wide (n:=9)).1 ?_
 refine callsIn_of_wp_marks Tryz.func37 rfl trivial ?_ rfl
 simp only[Tryz.ntmps37,List.size_toArray,List.length_cons,List.length_nil,Nat.reduceAdd,Nat.reduceSub,Array.replicate_succ,Array.replicate_zero,List.push_toArray,List.append_toArray,List.nil_append,List.cons_append]
 have HB0:=hid (jAb (w:=w) (.cells #[.slice pa at'.length ca] 78))
 have HN0:=hid (heap_alloc_new w (.cells #[.slice pa at'.length ca] 78))
 gi_wp2_with (first
  | (refine⟨trivial,?_⟩;gi_at_call 79;(with_reducible refine (callsIn_wide.2 (cU _ HB0.out)).mono ?_);rintro e w1 ⟨rfl,hb1⟩;have HB1:=hid (jAa HB0.out hb1);have HN1:=hid ((hb1.block _ (lt_of_block HN0.out)).trans HN0.out);have c3:=(Lib.cell_of_heap HN1.out 0).trans rfl;clear hb1)
  | (refine⟨trivial,?_⟩;gi_at_call 80;(with_reducible refine (callsIn_wide.2 (cA _ HB1.out)).mono ?_);rintro e w2 ⟨rfl,rfl⟩)
  | (refine⟨trivial,?_⟩;gi_at_call 81;(with_reducible refine (callsIn_wide.2 (cS _)).mono ?_);rintro e w3 ⟨rfl,rfl⟩))
 generalize hz8:w2.heap.size=b8 at *
 have hs1:=HB1.out.size
 rw[hz8]at hs1
 obtain⟨Wr,hWr⟩:∃Wr,Wr=((((w2.alloc (.cells #[.slice none 0 0] 47)).alloc (.cells #[.slice none 0 0,.slice none 0 0] 92)).alloc (.cells #[.slice none 0 0] 138)).alloc (.cells #[.slice p l.length cap] 39)):=⟨_,rfl⟩
 have hzr:Wr.heap.size=b8+4:=by rw[hWr];simp;omega
 have hn8:Wr.heap[b8]? = some (.cells #[.slice none 0 0] 47 (0,0)):=by
  rw[hWr,Below.heap_alloc _ _ _ (by simp;omega),Below.heap_alloc _ _ _ (by simp;omega),Below.heap_alloc _ _ _ (by simp;omega),←hz8];exact heap_alloc_new w2 _
 have hn9:Wr.heap[b8+1]? = some (.cells #[.slice none 0 0,.slice none 0 0] 92 (0,0)):=by
  rw[hWr,Below.heap_alloc _ _ _ (by simp;omega),Below.heap_alloc _ _ _ (by simp;omega),←hz8]
  have:=heap_alloc_new (w2.alloc (.cells #[.slice none 0 0] 47)) (.cells #[.slice none 0 0,.slice none 0 0] 92)
  rwa [World.size_alloc]at this
 have jY3:Wr.heap[b8+1+1]? = some (.cells #[.slice none 0 0] 138 (0,0)):=by
  rw[hWr,Below.heap_alloc _ _ _ (by simp;omega),←hz8]
  have:=heap_alloc_new ((w2.alloc (.cells #[.slice none 0 0] 47)).alloc (.cells #[.slice none 0 0,.slice none 0 0] 92)) (.cells #[.slice none 0 0] 138)
  rwa [World.size_alloc,World.size_alloc]at this
 have jY4:Wr.heap[b8+1+1+1]? = some (.cells #[.slice p l.length cap] 39 (0,0)):=by
  rw[hWr,←hz8]
  have:=heap_alloc_new (((w2.alloc (.cells #[.slice none 0 0] 47)).alloc (.cells #[.slice none 0 0,.slice none 0 0] 92)).alloc (.cells #[.slice none 0 0] 138)) (.cells #[.slice p l.length cap] 39)
  rwa [World.size_alloc,World.size_alloc,World.size_alloc]at this
 have hbr:Below w.heap.size w Wr:=by
  rw[hWr]
  exact jAa (jAa (jAa (jAa HB1.out (jAb _)) (jAb _)) (jAb _)) (jAb _)
 have hn3:Wr.heap[w.heap.size]? = some (.cells #[.slice pa at'.length ca] 78 (0,0)):=by
  have h3:=lt_of_block HN1.out
  rw[hWr,Below.heap_alloc _ _ _ (by simp;omega),Below.heap_alloc _ _ _ (by simp;omega),Below.heap_alloc _ _ _ (by simp;omega),Below.heap_alloc _ _ _ (by omega)]
  exact HN1.out
 rw[←hWr]
 clear hWr HB1 HN1 c3 hz8 HB0 HN0 cU cA
 have HP0:=hid (show jBO w.heap.size w.heap.size b8 (b8+1) (b8+1+1) [] Wr.heap.size [] js0 [] at' Wr from
  ⟨⟨_,hn3,HAT.out.below hbr⟩,⟨_,hn8,World.ownsRow_nil _ _ _ _⟩,rfl,fun i hi=>absurd hi (by simp),⟨Nat.zero_le _,_,_,hn9,jA7.nil _ _,World.ownsRow_nil _ _ _ _,fun _=>rfl⟩,
   ⟨by omega,_,jY3,World.ownsRow_nil _ _ _ _,by simp[Value.ownBlock]⟩,by omega,Nat.le_refl _,Nat.le_refl _,hs1,by omega⟩)
 have cT:=jJm (9-1) (by omega) w.heap.size (b8+1+1+1) l p cap Wr (fun i hi h=>jHc (jDx i hi) h) (fun i hi=>by have:=jBJ hi;omega) (fun i hi h=>jDL (jDx i hi) h) (by omega) jY4 (by omega) HT.out.2.2 (Utf8Tabs_below HT.out.2.1 hbr) (HV.out.below hbr)
 have hpl:(placed 0 (jAh l)).length≤9000:=by rw[jCK];exact hNs
 have HBR:=hid hbr
 clear hn3 hn8 hn9 jY3 jY4 hbr HV HAT jDx
 refine wpIn_rangeFunc_ownH rfl (by omega) (gf:=143) (lb:=#[.pointer (some ⟨b8+1+1+1,0,none⟩)]) rfl trivial (enters_of Tryz.func143 (by kernel_rfl) rfl)
  cT KpS.t (KpS.b (by omega)) (Below.refl _ _) (fun _=>rfl)
  (fun pre W'=>(∃us Bp,jBO w.heap.size w.heap.size b8 (b8+1) (b8+1+1) us Bp (jF9 at' pre).out (jF9 at' pre).j (jF9 at' pre).opn (jF9 at' pre).rest W')∧Below w.heap.size w W')
  (fun _ _ _=>False)
  (fun pre X Y row ⟨⟨us,Bp,h1⟩,h2⟩ hg hr=>⟨⟨us,Bp,h1.turned (base:=Wr.heap.size) (by omega) hg hr⟩,h2.grown hg h2.size (fun k e=>by have:=(hr k e).1;omega)⟩)
  (fun _ _ _ _ _ h _ _=>h.elim)
  ⟨⟨[],_,HP0.out⟩,HBR.out⟩
  (fun y a' W'=>(∃b12:Nat,a'={ tmps:=#[.slice p l.length cap,.slice pa at'.length ca,undef,.pointer (some ⟨w.heap.size,0,none⟩),.slice none 0 0,.int .u8 0,.int .i64 (jAW l:Nat),.int .u8 0,.pointer (some ⟨b8,0,none⟩),.pointer (some ⟨b8+1,0,none⟩),.pointer (some ⟨b8+1+1,0,none⟩),.int .i64 (y.1:Int),.pointer (some ⟨b12,0,none⟩),undef,undef,undef,undef,.tuple #[.int .i64 (jAW l:Nat),.int .u8 0],.slice p l.length cap,.tuple #[.int .i64 (jAW l:Nat),.int .u8 0],.int .i64 (jAW l:Nat),.int .u8 0,.int .u8 0,.bool false,undef,.slice pa at'.length ca,.int .i64 (jAW l:Nat),.bool true,.bool false,.slice p l.length cap,.func (.func 143) #[] #[.pointer (some ⟨b8+1+1+1,0,none⟩)],.int .i64 (y.1:Int),pcV (clip y.2),undef,undef,undef,undef,undef,undef,undef,undef,undef,undef,undef,undef,undef,undef,undef,undef,undef,undef,undef,undef,undef,undef,undef,undef,undef,undef,undef,undef,undef,undef,undef,undef,undef,undef,undef,undef,undef,undef,undef,undef,undef,undef,undef,undef,undef,undef,undef,undef,undef,undef],defers:=[] }∧W'.heap[b12]? = some (pcC (clip y.2))))
  (fun y a' _ X Y row ⟨b4,h1,h2⟩ hg hr=>⟨b4,h1,(hg.block _ (lt_of_block h2) (fun e=>by obtain⟨o,ho,hc⟩:=(hr _ e.symm).2;rw[h2]at ho;cases ho;cases hc)).trans h2⟩)
  ?assign ?body ?done ?stop
 case assign =>
  rintro l1 pre y W1 K ⟨⟨us,Bp,h1⟩,h2⟩ hK
  have HK:=hid hK
  have hs2:=h2.size
  have HB1:=hid (jAb (w:=W1) (pcC (clip y.2)))
  have HN1:=hid (heap_alloc_new W1 (pcC (clip y.2)))
  have HP1:=hid (h1.step HB1.out)
  have HL1:=hid (h2.trans (HB1.out.mono hs2))
  clear hK h1 h2
  unfold jYY
  generalize clip y.2=q at *
  obtain⟨k,s,c⟩:=q
  unfold pcC at HB1 HN1 HP1 HL1
  unfold pcV
  gi_wp2
  exact HK.out _ _ (KeepsFrom.of_below HB1.out) (KpS.of_below hs2 HB1.out) ⟨⟨us,Bp,HP1.out⟩,HL1.out⟩ ⟨_,rfl,HN1.out⟩
 case body =>
  rintro lp pre y a' W1 hlp ⟨r0,hr0⟩ ⟨⟨us,Bp,h1⟩,h2⟩ ⟨b12,rfl,h4⟩ hlt
  have hF:=jS5 at' pre
  have HST:=hid (jSK at' pre y)
  have jBi:pre.length≤9000:=by omega
  generalize jF9 at' pre=st at *
  generalize pre.length=m at *
  have HW:=hid h2
  have jYF:=h2.size
  have hx16:=jJ4 y.2
  have HY1:=hid (show jF4 st y=false→jF9 at' (pre++[y])=⟨st.out,js3 (clip y.2) st.j,jAM st.opn (clip y.2),st.rest⟩ from fun h=>by rw[HST.out];unfold jFC jFM;rw[h];rfl)
  have HY2:=hid (show jF4 st y=true→jF9 at' (pre++[y])=⟨st.out++[jB2 (jDs st.j (jAE st.opn))],js3 (clip y.2) (jDs js0 (jAt st.opn)),jAM st.opn (clip y.2),st.rest.tail⟩ from fun h=>by rw[HST.out];unfold jFC jFM;rw[h];rfl)
  have hH:jF4 st y=(match st.rest with | []=>false | p :: _=>decide ((y.1:Int)=p) && decide ((clip y.2).k≠3)):=rfl
  have hop:=hF.op
  have hjo:=hF.o
  have hjt:=hF.t
  have qAb:=hF.out
  have hnm:=hid hF.nm
  clear HST hF
  generalize clip y.2=q at *
  generalize jF4 st y=hb at *
  obtain⟨out,j,opn,rest⟩:=st
  dsimp only at *
  have hB1:w.heap.size≤W1.heap.size:=jYF
  have HA1:=hid (Acc.refl w.heap.size W1)
  have HQ1:=hid h4
  have HP1:=hid h1
  have qCi:=lt_of_block h4
  obtain⟨v3,h31,p3,cap3,rfl,h33,h34,h35⟩:=h1.at3
  have c3:W1.cell? ⟨w.heap.size,0,none⟩=some (.slice p3 rest.length cap3):=(Lib.cell_of_heap h31 0).trans rfl
  obtain⟨z0,z1,z2⟩:=jCF h4
  have hlb:=lt_of_block h31
  have ag:=Tryz.isAgg76
  have zg:=Tryz.sizeOf76
  have hn2:1≤9-1:=by decide
  have cF:=fun us Bp out j rest W (hP:jBO w.heap.size w.heap.size b8 (b8+1) (b8+1+1) us Bp out j opn rest W)=>jOn w.heap.size (b8+1+1) opn q W hP.stk (by omega) (Nat.le_trans hP.le hP.lt)
  have cP:=fun us Bp out (j:Js) op2 rest W (hP:jBO w.heap.size w.heap.size b8 (b8+1) (b8+1+1) us Bp out j op2 rest W) (hb1:j.t.length≤1000000) (hb2:j.o.length≤1000000)=>jGS Bp (b8+1) j q W hP.jn (by omega) (by omega) hP.lt
  obtain⟨k,s,c⟩:=q
  unfold pcV at cF cP ⊢
  dsimp only at z0 z1 z2 hH hx16
  have HR0:=hid hr0
  clear h1 h2 h4 hr0 HP0 HBR cT h31 hlt
  rcases rest with _ | ⟨pl,r⟩
  ·dsimp only at hH
   have HY:=hid (HY1.out hH)
   clear HY1 HY2 h35
   gi_wp2_with (first
    | (refine⟨trivial,?_⟩;gi_at_call 83;(with_reducible refine (CallsIn.inRound lp (callsIn_wide.2 (cF _ _ _ _ _ _ HP1.out))).mono ?_);rintro e w3 ⟨⟨z,rfl⟩,hs3,hb3,hk3⟩;have HP3:=hid (HP1.out.stack hs3 hb3 hk3);have HA3:=hid (HA1.out.trans (Acc.ofS hb3 hk3));have HQ3:=hid (HA3.out.calm.same _ _ HQ1.out (jCv _));obtain⟨x0,x1,x2⟩:=jCF HQ3.out;dsimp only at x0 x1 x2;clear hs3 hb3 hk3)
    | (refine⟨trivial,?_⟩;gi_at_call 53;(with_reducible refine (CallsIn.inRound lp (callsIn_wide.2 (cP _ _ _ _ _ _ _ HP3.out (by omega) (by omega)))).mono ?_);rintro e w4 ⟨rfl,hj4,hk4,hc4⟩;have HP4:=hid (HP3.out.join hj4 hk4 hc4);have HA4:=hid (HA3.out.trans (Acc.ofJ (hk4.below HP3.out.le HP3.out.l9) hc4));clear hj4 hk4 hc4))
   exact⟨HA4.out.from,HA4.out.kp,⟨us,Bp,by rw[HY.out];exact HP4.out⟩,HW.out.trans HA4.out.bel⟩
  ·obtain⟨A3,rfl,hA3,hc3⟩:=h35 (by simp)
   have e3:W1.cell? A3=some (.int .i64 pl):=by have:=hc3 0 0 (by simp) (by omega);simpa [atF,Addr.add] using this
   have e3':W1.cell? (A3.add 0)=some (.int .i64 pl):=by have:=hc3 0 0 (by simp) (by omega);simpa [atF] using this
   have hl1:(0:Int)<(r.length:Int)+1:=by omega
   have hl2:(0:Int)<((r.length+1:Nat):Int):=by omega
   clear h35
   dsimp only at hH
   by_cases jY6:(y.1:Int)=pl
   ·by_cases hk3:k=3
    ·have hpb:((y.1:Int) == pl)=true:=by simp[jY6]
     subst hk3
     have HY:=hid (HY1.out (by rw[hH];simp))
     clear HY1 HY2 jY6
     gi_wp2_with (first
      | (refine⟨trivial,?_⟩;gi_at_call 83;(with_reducible refine (CallsIn.inRound lp (callsIn_wide.2 (cF _ _ _ _ _ _ HP1.out))).mono ?_);rintro e w3 ⟨⟨z,rfl⟩,hs3,hb3,hk3⟩;have HP3:=hid (HP1.out.stack hs3 hb3 hk3);have HA3:=hid (HA1.out.trans (Acc.ofS hb3 hk3));have HQ3:=hid (HA3.out.calm.same _ _ HQ1.out (jCv _));obtain⟨x0,x1,x2⟩:=jCF HQ3.out;dsimp only at x0 x1 x2;clear hs3 hb3 hk3)
      | (refine⟨trivial,?_⟩;gi_at_call 53;(with_reducible refine (CallsIn.inRound lp (callsIn_wide.2 (cP _ _ _ _ _ _ _ HP3.out (by omega) (by omega)))).mono ?_);rintro e w4 ⟨rfl,hj4,hk4,hc4⟩;have HP4:=hid (HP3.out.join hj4 hk4 hc4);have HA4:=hid (HA3.out.trans (Acc.ofJ (hk4.below HP3.out.le HP3.out.l9) hc4));clear hj4 hk4 hc4))
     exact⟨HA4.out.from,HA4.out.kp,⟨us,Bp,by rw[HY.out];exact HP4.out⟩,HW.out.trans HA4.out.bel⟩
    ·have HY:=hid (HY2.out (by rw[hH];simp[hk3,jY6]))
     clear HY1 HY2
     have hpb:((y.1:Int) == pl)=true:=by simp[jY6]
     have hkb:(k != 3)=true:=by simp[hk3]
     have hl0:=lt_of_block HR0.out
     obtain⟨ao,ca2,h10,qAk⟩:=HP1.out.stack_form
     have c10:W1.cell? ⟨b8+1+1,0,none⟩=some (.slice ao opn.length ca2):=(Lib.cell_of_heap h10 0).trans rfl
     have cK:=fun W=>jV1 ao opn.length ca2 W
     clear h10
     gi_wp2_with (refine⟨trivial,?_⟩;gi_at_call 82;(with_reducible refine (CallsIn.inRound lp (callsIn_wide.2 (cK _))).mono ?_);rintro e w3 ⟨rfl,rfl⟩)
     have hs3:(W1.alloc (.cells #[.slice ao opn.length ca2] 138)).heap.size=W1.heap.size+1:=by simp
     have HBX:=hid (jAb (w:=W1) (.cells #[.slice ao opn.length ca2] 138))
     have HXB:=hid (heap_alloc_new W1 (.cells #[.slice ao opn.length ca2] 138))
     have HP3:=hid (HP1.out.step HBX.out)
     have HA3:=hid (HA1.out.trans (Acc.step hB1 HBX.out))
     have HR3:=hid ((HBX.out.block _ hl0).trans HR0.out)
     have hr3:=jAZ HBX.out qAk
     generalize W1.alloc (.cells #[.slice ao opn.length ca2] 138)=W3 at *
     have cB:=jQO (9-1-1-1) (by omega) w.heap.size W1.heap.size opn (.slice ao opn.length ca2) W3 (fun s hs=>by have:=hnm.out s hs;omega) (by omega) HXB.out hr3
     refine wpIn_rangeFunc_ownN rfl HR3.out (by omega) (gf:=144) (lb:=#[.pointer (some ⟨W1.heap.size,0,none⟩)]) rfl trivial (enters_of Tryz.func144 (by kernel_rfl) rfl)
      (SeqStopsK.inRound lp cB) (fun h k=>h.trans k) (fun W l o o' _ h hc _=>jUx W l o o' h hc) (Below.refl _ _) (fun _=>rfl)
      (fun pre2 W'=>jBO w.heap.size w.heap.size b8 (b8+1) (b8+1+1) us Bp out (jDs j (pre2.map clP)) opn (pl :: r) W'∧Acc w.heap.size W1 W')
      (fun _ _ _=>False)
      (fun pre2 X Y row ⟨g1,g2⟩ hg hr=>⟨g1.turned (base:=W3.heap.size) (by omega) hg hr,g2.turned (base:=W3.heap.size) (by omega) (by omega) (by have:=g2.bel.size;omega) hg hr⟩)
      (fun _ _ _ _ _ h _ _=>h.elim)
      ⟨HP3.out,HA3.out⟩
      (fun y2 a' _=>a'={ tmps:=#[.slice p l.length cap,.slice pa at'.length ca,undef,.pointer (some ⟨w.heap.size,0,none⟩),.slice none 0 0,.int .u8 0,.int .i64 (jAW l:Nat),.int .u8 0,.pointer (some ⟨b8,0,none⟩),.pointer (some ⟨b8+1,0,none⟩),.pointer (some ⟨b8+1+1,0,none⟩),.int .i64 pl,.pointer (some ⟨b12,0,none⟩),undef,.string (jJH y2.2),undef,undef,.tuple #[.int .i64 (jAW l:Nat),.int .u8 0],.slice p l.length cap,.tuple #[.int .i64 (jAW l:Nat),.int .u8 0],.int .i64 (jAW l:Nat),.int .u8 0,.int .u8 0,.bool false,undef,.slice pa at'.length ca,.int .i64 (jAW l:Nat),.bool true,.bool false,.slice p l.length cap,.func (.func 143) #[] #[.pointer (some ⟨b8+1+1+1,0,none⟩)],.int .i64 pl,.agg #[.int .u8 k,.string s,.bool c],.slice (some A3) (r.length+1) cap3,.int .i64 ((r.length:Int)+1),.bool true,.bool true,.int .i64 pl,.slice (some A3) (r.length+1) cap3,.pointer (some A3),.int .i64 pl,.bool true,.bool true,.bool true,.pointer (some ⟨b12,0,none⟩),.int .u8 k,.bool true,.bool true,.slice ao opn.length ca2,.func (.func 144) #[] #[.pointer (some ⟨W1.heap.size,0,none⟩)],.int .i64 (y2.1:Int),.string (jJH y2.2),undef,undef,undef,undef,undef,undef,undef,undef,undef,undef,undef,undef,undef,undef,undef,undef,undef,undef,undef,undef,undef,undef,undef,undef,undef,undef,undef,undef,undef,undef,undef],defers:=[] })
      (fun _ _ _ _ _ _ h _ _=>h)
      ?assign2 ?body2 ?done2 ?stop2
     case assign2 =>
      rintro l2 pre2 y2 W4 K ⟨g1,g2⟩ hK
      have HK:=hid hK
      have HG:=hid (And.intro g1 g2)
      clear hK g1 g2
      unfold encB
      gi_wp2
      exact HK.out _ _ (KeepsFrom.refl _ _) (Keeps.refl _ _) HG.out rfl
     case body2 =>
      rintro lp2 pre2 y2 a2 W4 hlp2 ⟨r2,hr2⟩ ⟨g1,g2⟩ rfl jKI
      have HPP:=hid g1
      have HAA:=hid g2
      have HMP:=hid (show jDs j ((pre2++[y2]).map clP)=js3 (clP y2) (jDs j (pre2.map clP)) by rw[List.map_append];exact jP9 _ _ _)
      have b1:=jSo (pre2.map clP) j
      have b2:=jPQ (pre2.map clP) (fun x hx=>by obtain⟨z,_,rfl⟩:=List.mem_map.1 hx;exact (by decide:¬(3:Int)=1)) j
      rw[List.length_map]at b1
      have b3:=jN0 y2.2
      have cP2:=jGS Bp (b8+1) (jDs j (pre2.map clP)) (clP y2) W4 g1.jn (by show (jDs j (pre2.map clP)).t.length+(jJH y2.2).size≤_;omega) (by omega) g1.lt
      unfold clP pcV at cP2
      dsimp only at cP2
      unfold clP at HMP
      clear g1 g2 hr2 b1 b2 cP cF
      generalize jJH y2.2=s2 at *
      gi_wp2_with (refine⟨trivial,?_⟩;gi_at_call 53;(with_reducible refine (CallsIn.inRound lp2 (CallsIn.inRound lp (callsIn_wide.2 cP2))).mono ?_);rintro e w4 ⟨rfl,hj4,hk4,hc4⟩;have HP4:=hid (HPP.out.join hj4 hk4 hc4);have HA4:=hid (Acc.ofJ (hk4.below HPP.out.le HPP.out.l9) hc4);have HC4:=hid (hc4.mono fun _=>jXW);clear hj4 hk4 hc4)
      exact⟨HA4.out.from,HC4.out,by unfold clP;rw[HMP.out];exact HP4.out,HAA.out.trans HA4.out⟩
     case done2 =>
      rintro ys2 Wd rfl ⟨g1,g2⟩
      rw[jNh hnm.out]at g1
      have HPc:=hid g1
      have HAc:=hid g2
      clear g1 g2 cB HP3 HA3 HXB HBX HR3 hr3 HP1 HA1
      gi_wp2
      have HPd:=hid (HPc.out.step (w':=Wd.drew) ⟨rfl,rfl,rfl,Nat.le_refl _,fun _ _=>rfl⟩)
      have HAd:=hid (HAc.out.trans (Acc.step (W:=Wd) (W':=Wd.drew) (by have:=HAc.out.bel.size;omega) ⟨rfl,rfl,rfl,Nat.le_refl _,fun _ _=>rfl⟩))
      obtain⟨v8,h8d,hr8⟩:=HPd.out.prt
      obtain⟨o8,q8,rfl⟩:∃o8 q8,v8=.slice o8 out.length q8:=by
       rcases hr8.2 with ⟨rfl,h0⟩ | ⟨g,cp,cur,hv8,_⟩
       ·exact⟨none,0,by rw[h0]⟩
       ·exact⟨_,_,hv8⟩
      have c8:Wd.drew.cell? ⟨b8,0,none⟩=some (.slice o8 out.length q8):=(Lib.cell_of_heap h8d 0).trans rfl
      have b1:=jSo (jAE opn) j
      have b2:=jPQ (jAE opn) (jNk opn) j
      have b4:(jAE opn).length=opn.length:=by unfold jAE;simp
      have cDn:=jLR Bp (b8+1) (jDs j (jAE opn)).o (jDs j (jAE opn)).t Wd.drew HPd.out.jn (by omega) (by omega) HPd.out.lt
      obtain⟨i0,hi0,hz0,hz1,hz2⟩:=info_parts jP2
      have hol:out.length≤9000:=by omega
      refine wpIn_mono (Q:=fun e a' wx=>e=Exit.normal∧∃v55 v56 v57 v58,a'={ tmps:=#[.slice p l.length cap,.slice pa at'.length ca,undef,.pointer (some ⟨w.heap.size,0,none⟩),.slice none 0 0,.int .u8 0,.int .i64 (jAW l:Nat),.int .u8 0,.pointer (some ⟨b8,0,none⟩),.pointer (some ⟨b8+1,0,none⟩),.pointer (some ⟨b8+1+1,0,none⟩),.int .i64 pl,.pointer (some ⟨b12,0,none⟩),undef,undef,undef,undef,.tuple #[.int .i64 (jAW l:Nat),.int .u8 0],.slice p l.length cap,.tuple #[.int .i64 (jAW l:Nat),.int .u8 0],.int .i64 (jAW l:Nat),.int .u8 0,.int .u8 0,.bool false,undef,.slice pa at'.length ca,.int .i64 (jAW l:Nat),.bool true,.bool false,.slice p l.length cap,.func (.func 143) #[] #[.pointer (some ⟨b8+1+1+1,0,none⟩)],.int .i64 pl,.agg #[.int .u8 k,.string s,.bool c],.slice (some A3) (r.length+1) cap3,.int .i64 ((r.length:Int)+1),.bool true,.bool true,.int .i64 pl,.slice (some A3) (r.length+1) cap3,.pointer (some A3),.int .i64 pl,.bool true,.bool true,.bool true,.pointer (some ⟨b12,0,none⟩),.int .u8 k,.bool true,.bool true,.slice ao opn.length ca2,.func (.func 144) #[] #[.pointer (some ⟨W1.heap.size,0,none⟩)],undef,undef,undef,undef,undef,v55,v56,v57,v58,undef,undef,undef,undef,undef,undef,undef,undef,undef,undef,undef,undef,undef,undef,undef,undef,undef,undef,undef,undef,undef,undef,undef,undef],defers:=[] }∧jCs w.heap.size w.heap.size b8 (b8+1) (b8+1+1) us Bp out (jB2 (jDs j (jAE opn))) opn (pl :: r) W1 wx) ?reg ?rest16
      case reg =>
       clear HPc HAc cF cP
       refine wpIn_region_any (by kernel_rfl) ?_
       change wpAnyIn _ _ _ _ _ _ _ _ _ (World.drew _)
       refine wpAnyIn_ready (rs:=[0,1]) (by kernel_rfl) (by simp) ?_
       refine AllReadyIn.cons rfl (fun K hK=>?_) ?_
       ·go_simp
        refine hK _ _ ?_
        clear hK K
        refine wpAnyIn_ready (rs:=[1]) (by kernel_rfl) (by simp) ?_
        refine AllReadyIn.cons rfl (fun K hK=>?_) ?_
        rotate_left
        ·exact AllReadyIn.nil
        go_simp
        gi_wp2_with (refine⟨trivial,?_⟩;gi_at_call 54;(with_reducible refine (CallsIn.inRound lp (callsIn_wide.2 cDn)).mono ?_);rintro e w4 ⟨u,rfl,hu4,hj4,hk4,hc4⟩;have HU4:=hid (show jA7 Bp u (jB2 (jDs j (jAE opn))) w4 from hu4);have HP4:=hid (HPd.out.join (j':=⟨jB2 (jDs j (jAE opn)),[],nil,false⟩) hj4 hk4 hc4);have HA4:=hid (HAd.out.trans (Acc.ofJ (hk4.below HPd.out.le HPd.out.l9) hc4));have h84:=hc4.same _ _ h8d (show jBS _ from ⟨by decide,by decide,fun e=>absurd e (by decide)⟩);have c84:w4.cell? ⟨b8,0,none⟩=some (.slice o8 out.length q8):=(Lib.cell_of_heap h84 0).trans rfl;have jHh:=hc4.row hr8 (fun _=>(show jBS _ from ⟨by decide,by decide,fun e=>absurd e (by decide)⟩));have jWz:=lt_of_block h84;obtain⟨uo,uc,rfl⟩:=HU4.out.form;have H84:=hid h84;clear hu4 hj4 hk4 hc4 h84)
        first | (refine hK _ _ ?_) | skip
        try clear hK K
        refine wpAnyIn_ready (rs:=[2]) (by kernel_rfl) (by simp) ?_
        refine AllReadyIn.cons rfl (fun K hK=>?_) ?_
        rotate_left
        ·exact AllReadyIn.nil
        go_simp
        refine hK _ _ ?_
        clear hK K
        refine wpAnyIn_ready (rs:=[3]) (by kernel_rfl) (by simp) ?_
        refine AllReadyIn.cons rfl (fun K hK=>?_) ?_
        rotate_left
        ·exact AllReadyIn.nil
        refine jBt rfl (.tmp 55) (.tmp 57) 47 rfl w.heap.size 39 i0 (.slice none 0 0) 1 24 Tryz.underlying47 hi0 hz0 hz1 hz2 rfl (by decide) (.slice o8 out.length q8) (out).length us (by simp[Act.eval]) (jHh.alloc _) ⟨w4.heap.size,0,none⟩ 1 1 [.slice uo (jB2 (jDs j (jAE opn))).length uc] (by simp[Act.eval]) rfl (cell_one_new _ _ _) (by simp[Value.oneCell']) (by unfold maxLen;omega) (by omega) (by simp;omega) ?_
        intro v9 w6 jA5 jAv
        refine hK _ _ ?_
        clear hK K
        have hk6:Keeps jEM w4 w6:=((Keeps.refl jEM w4).alloc _).trans (Keeps.grown (jHh.alloc _) jAv (fun _ h=>h.1 rfl))
        have hb6:Below w.heap.size w4 w6:=((Below.refl _ w4).alloc (by have:=HA4.out.bel.size;omega) _).grown jAv (by have:=HA4.out.bel.size;simp;omega) (fun k e=>(jHh.lt k e).1)
        have h86:w6.heap[b8]? = some (.cells #[.slice o8 out.length q8] 47 (0,0)):=(jAv.block b8 (by simp;omega) (fun e=>jAI jHh H84.out (by decide) e.symm)).trans ((Below.heap_alloc _ _ _ jWz).trans H84.out)
        have c86:w6.cell? ⟨b8,0,none⟩=some (.slice o8 out.length q8):=(Lib.cell_of_heap h86 0).trans rfl
        have f86:w6.frozen? ⟨b8,0,none⟩=false:=Lib.frozen_of_heap h86 0
        have jUp:=hid (show jCs w.heap.size w.heap.size b8 (b8+1) (b8+1+1) us Bp (out) (jB2 (jDs j (jAE opn))) (opn) (pl :: r) W1 (w6.setCell ⟨b8,0,none⟩ v9) from ⟨w4,w6,_,v9,_,HP4.out,HU4.out,hk6,hb6,⟨_,h86,rfl⟩,jA5,rfl,HA4.out.trans ((Acc.ofQ hb6 hk6).trans (Acc.set h86 HP4.out.l8 (jA3 (by decide) (by decide)) 0 _))⟩)
        obtain⟨o9,c9,rfl⟩:∃o9 c9,v9=.slice o9 ((out).length+1) c9:=by
         rcases jA5.2 with ⟨_,h0⟩ | ⟨g,cp,cur,hv9,_⟩
         ·omega
         ·exact⟨_,_,hv9⟩
        clear jA5 jAv hk6 hb6 h86
        refine wpAnyIn_ready (rs:=[4]) (by kernel_rfl) (by simp) ?_
        refine AllReadyIn.cons rfl (fun K hK=>?_) ?_
        rotate_left
        ·exact AllReadyIn.nil
        go_simp
        refine hK _ _ ?_
        clear hK K
        refine wpAnyIn_done (by kernel_rfl) ?_ _
        exact⟨rfl,_,_,_,_,rfl,jUp.out⟩
       refine AllReadyIn.cons rfl (fun K hK=>?_) ?_
       rotate_left
       ·exact AllReadyIn.nil
       go_simp
       gi_wp2_with (refine⟨trivial,?_⟩;gi_at_call 54;(with_reducible refine (CallsIn.inRound lp (callsIn_wide.2 cDn)).mono ?_);rintro e w4 ⟨u,rfl,hu4,hj4,hk4,hc4⟩;have HU4:=hid (show jA7 Bp u (jB2 (jDs j (jAE opn))) w4 from hu4);have HP4:=hid (HPd.out.join (j':=⟨jB2 (jDs j (jAE opn)),[],nil,false⟩) hj4 hk4 hc4);have HA4:=hid (HAd.out.trans (Acc.ofJ (hk4.below HPd.out.le HPd.out.l9) hc4));have h84:=hc4.same _ _ h8d (show jBS _ from ⟨by decide,by decide,fun e=>absurd e (by decide)⟩);have c84:w4.cell? ⟨b8,0,none⟩=some (.slice o8 out.length q8):=(Lib.cell_of_heap h84 0).trans rfl;have jHh:=hc4.row hr8 (fun _=>(show jBS _ from ⟨by decide,by decide,fun e=>absurd e (by decide)⟩));have jWz:=lt_of_block h84;obtain⟨uo,uc,rfl⟩:=HU4.out.form;have H84:=hid h84;clear hu4 hj4 hk4 hc4 h84)
       first | (refine hK _ _ ?_) | skip
       try clear hK K
       refine wpAnyIn_ready (rs:=[0,2]) (by kernel_rfl) (by simp) ?_
       refine AllReadyIn.cons rfl (fun K hK=>?_) ?_
       ·go_simp
        refine hK _ _ ?_
        clear hK K
        refine wpAnyIn_ready (rs:=[2]) (by kernel_rfl) (by simp) ?_
        refine AllReadyIn.cons rfl (fun K hK=>?_) ?_
        rotate_left
        ·exact AllReadyIn.nil
        go_simp
        refine hK _ _ ?_
        clear hK K
        refine wpAnyIn_ready (rs:=[3]) (by kernel_rfl) (by simp) ?_
        refine AllReadyIn.cons rfl (fun K hK=>?_) ?_
        rotate_left
        ·exact AllReadyIn.nil
        refine jBt rfl (.tmp 55) (.tmp 57) 47 rfl w.heap.size 39 i0 (.slice none 0 0) 1 24 Tryz.underlying47 hi0 hz0 hz1 hz2 rfl (by decide) (.slice o8 out.length q8) (out).length us (by simp[Act.eval]) (jHh.alloc _) ⟨w4.heap.size,0,none⟩ 1 1 [.slice uo (jB2 (jDs j (jAE opn))).length uc] (by simp[Act.eval]) rfl (cell_one_new _ _ _) (by simp[Value.oneCell']) (by unfold maxLen;omega) (by omega) (by simp;omega) ?_
        intro v9 w6 jA5 jAv
        refine hK _ _ ?_
        clear hK K
        have hk6:Keeps jEM w4 w6:=((Keeps.refl jEM w4).alloc _).trans (Keeps.grown (jHh.alloc _) jAv (fun _ h=>h.1 rfl))
        have hb6:Below w.heap.size w4 w6:=((Below.refl _ w4).alloc (by have:=HA4.out.bel.size;omega) _).grown jAv (by have:=HA4.out.bel.size;simp;omega) (fun k e=>(jHh.lt k e).1)
        have h86:w6.heap[b8]? = some (.cells #[.slice o8 out.length q8] 47 (0,0)):=(jAv.block b8 (by simp;omega) (fun e=>jAI jHh H84.out (by decide) e.symm)).trans ((Below.heap_alloc _ _ _ jWz).trans H84.out)
        have c86:w6.cell? ⟨b8,0,none⟩=some (.slice o8 out.length q8):=(Lib.cell_of_heap h86 0).trans rfl
        have f86:w6.frozen? ⟨b8,0,none⟩=false:=Lib.frozen_of_heap h86 0
        have jUp:=hid (show jCs w.heap.size w.heap.size b8 (b8+1) (b8+1+1) us Bp (out) (jB2 (jDs j (jAE opn))) (opn) (pl :: r) W1 (w6.setCell ⟨b8,0,none⟩ v9) from ⟨w4,w6,_,v9,_,HP4.out,HU4.out,hk6,hb6,⟨_,h86,rfl⟩,jA5,rfl,HA4.out.trans ((Acc.ofQ hb6 hk6).trans (Acc.set h86 HP4.out.l8 (jA3 (by decide) (by decide)) 0 _))⟩)
        obtain⟨o9,c9,rfl⟩:∃o9 c9,v9=.slice o9 ((out).length+1) c9:=by
         rcases jA5.2 with ⟨_,h0⟩ | ⟨g,cp,cur,hv9,_⟩
         ·omega
         ·exact⟨_,_,hv9⟩
        clear jA5 jAv hk6 hb6 h86
        refine wpAnyIn_ready (rs:=[4]) (by kernel_rfl) (by simp) ?_
        refine AllReadyIn.cons rfl (fun K hK=>?_) ?_
        rotate_left
        ·exact AllReadyIn.nil
        go_simp
        refine hK _ _ ?_
        clear hK K
        refine wpAnyIn_done (by kernel_rfl) ?_ _
        exact⟨rfl,_,_,_,_,rfl,jUp.out⟩
       refine AllReadyIn.cons rfl (fun K hK=>?_) ?_
       rotate_left
       ·exact AllReadyIn.nil
       go_simp
       refine hK _ _ ?_
       clear hK K
       refine wpAnyIn_ready (rs:=[0]) (by kernel_rfl) (by simp) ?_
       refine AllReadyIn.cons rfl (fun K hK=>?_) ?_
       rotate_left
       ·exact AllReadyIn.nil
       go_simp
       refine hK _ _ ?_
       clear hK K
       refine wpAnyIn_ready (rs:=[3]) (by kernel_rfl) (by simp) ?_
       refine AllReadyIn.cons rfl (fun K hK=>?_) ?_
       rotate_left
       ·exact AllReadyIn.nil
       refine jBt rfl (.tmp 55) (.tmp 57) 47 rfl w.heap.size 39 i0 (.slice none 0 0) 1 24 Tryz.underlying47 hi0 hz0 hz1 hz2 rfl (by decide) (.slice o8 out.length q8) (out).length us (by simp[Act.eval]) (jHh.alloc _) ⟨w4.heap.size,0,none⟩ 1 1 [.slice uo (jB2 (jDs j (jAE opn))).length uc] (by simp[Act.eval]) rfl (cell_one_new _ _ _) (by simp[Value.oneCell']) (by unfold maxLen;omega) (by omega) (by simp;omega) ?_
       intro v9 w6 jA5 jAv
       refine hK _ _ ?_
       clear hK K
       have hk6:Keeps jEM w4 w6:=((Keeps.refl jEM w4).alloc _).trans (Keeps.grown (jHh.alloc _) jAv (fun _ h=>h.1 rfl))
       have hb6:Below w.heap.size w4 w6:=((Below.refl _ w4).alloc (by have:=HA4.out.bel.size;omega) _).grown jAv (by have:=HA4.out.bel.size;simp;omega) (fun k e=>(jHh.lt k e).1)
       have h86:w6.heap[b8]? = some (.cells #[.slice o8 out.length q8] 47 (0,0)):=(jAv.block b8 (by simp;omega) (fun e=>jAI jHh H84.out (by decide) e.symm)).trans ((Below.heap_alloc _ _ _ jWz).trans H84.out)
       have c86:w6.cell? ⟨b8,0,none⟩=some (.slice o8 out.length q8):=(Lib.cell_of_heap h86 0).trans rfl
       have f86:w6.frozen? ⟨b8,0,none⟩=false:=Lib.frozen_of_heap h86 0
       have jUp:=hid (show jCs w.heap.size w.heap.size b8 (b8+1) (b8+1+1) us Bp (out) (jB2 (jDs j (jAE opn))) (opn) (pl :: r) W1 (w6.setCell ⟨b8,0,none⟩ v9) from ⟨w4,w6,_,v9,_,HP4.out,HU4.out,hk6,hb6,⟨_,h86,rfl⟩,jA5,rfl,HA4.out.trans ((Acc.ofQ hb6 hk6).trans (Acc.set h86 HP4.out.l8 (jA3 (by decide) (by decide)) 0 _))⟩)
       obtain⟨o9,c9,rfl⟩:∃o9 c9,v9=.slice o9 ((out).length+1) c9:=by
        rcases jA5.2 with ⟨_,h0⟩ | ⟨g,cp,cur,hv9,_⟩
        ·omega
        ·exact⟨_,_,hv9⟩
       clear jA5 jAv hk6 hb6 h86
       refine wpAnyIn_ready (rs:=[4]) (by kernel_rfl) (by simp) ?_
       refine AllReadyIn.cons rfl (fun K hK=>?_) ?_
       rotate_left
       ·exact AllReadyIn.nil
       go_simp
       refine hK _ _ ?_
       clear hK K
       refine wpAnyIn_done (by kernel_rfl) ?_ _
       exact⟨rfl,_,_,_,_,rfl,jUp.out⟩
      case rest16 =>
       clear c8 h8d hr8 cDn HPd HAd HPc HAc hi0 hz0 hz1 hz2
       rintro e a6 w6 ⟨rfl,v55,v56,v57,v58,rfl,jQg⟩
       obtain⟨vo,vt,h9⟩:=jQg.box9
       have f90:=Lib.frozen_of_heap h9 0
       have f91:=Lib.frozen_of_heap h9 1
       have c90:w6.cell? ⟨b8+1,0,none⟩=some vo:=(Lib.cell_of_heap h9 0).trans rfl
       have c91:w6.cell? ⟨b8+1,1,none⟩=some vt:=(Lib.cell_of_heap h9 1).trans rfl
       obtain⟨⟨us',Bp',hp7⟩,ha7⟩:=jQg.reset
       have HP7:=hid hp7
       have HA7:=hid ha7
       obtain⟨ao',ca',h10',hr10'⟩:=hp7.stack_form
       have c10':=(Lib.cell_of_heap h10' 0).trans rfl
       have HR7:=hid hr10'
       have hbp':=hp7.lt
       clear jQg h9 hp7 ha7 h10' hr10'
       gi_wp2
       generalize (w6.setCell ⟨b8+1,0,none⟩ (.slice none 0 0)).setCell ⟨b8+1,1,none⟩ (.slice none 0 0)=w7 at *
       clear f90 f91 c90 c91
       have HP0:=hid (show jBO w.heap.size w.heap.size b8 (b8+1) (b8+1+1) us' Bp' (out++[jB2 (jDs j (jAE opn))]) (jDs js0 ((jAt opn).take 0)) opn (pl :: r) w7 from HP7.out)
       have b5:(jAt opn).length=opn.length:=by unfold jAt;simp
       gi_loopw [62] (fun v62 wr=>∃i:Nat,v62=.int .i64 i∧i≤opn.length∧Hid (jBO w.heap.size w.heap.size b8 (b8+1) (b8+1+1) us' Bp' (out++[jB2 (jDs j (jAE opn))]) (jDs js0 ((jAt opn).take i)) opn (pl :: r) wr)∧Hid (Acc w.heap.size W1 wr)∧Hid (wr.ownsRow w.heap.size 9 1 (.slice ao' opn.length ca') opn.length (opn.map Value.string))) (fun v62 _=>opn.length-(RowKit.intOf v62).toNat)
       case atStart=>exact⟨0,rfl,Nat.zero_le _,HP0.out,HA7.out,HR7.out⟩
       case round =>
        obtain⟨i,rfl,hi,HPi,HAi,HRi⟩:=hrel
        clear HP0 HP7 HA7 HR7 c10' hbp'
        have b6:=jSo ((jAt opn).take i) js0
        have b7:=jPQ ((jAt opn).take i) (fun x hx=>jIE opn x (List.mem_of_mem_take hx)) js0
        rw[List.length_take]at b6
        have b8':js0.o.length=0∧js0.t.length=0:=⟨rfl,rfl⟩
        by_cases jYC:i<opn.length
        ·have ltI:(i:Int)<(opn.length:Int):=by omega
         have geI:(0:Int)≤(i:Int):=by omega
         obtain⟨g,rfl⟩:∃g,ao'=some ⟨g,0,none⟩:=by
          rcases HRi.out.2 with ⟨hv,h0⟩ | ⟨g,_,_,hv,_⟩
          ·omega
          ·injection hv with hv;exact⟨g,hv⟩
         have cr:wr.cell? ⟨g,i,none⟩=some (.string (opn.getD i ByteArray.empty)):=by
          rw[←jHK]
          refine World.ownsRow.cells HRi.out (g:=g) rfl i _ ?_
          rw[List.getElem?_map,List.getD_eq_getElem?_getD,List.getElem?_eq_getElem jYC]
          rfl
         have hsm:(opn.getD i ByteArray.empty).size≤16:=by
          rw[List.getD_eq_getElem?_getD,List.getElem?_eq_getElem jYC]
          exact hnm.out _ (List.getElem_mem _)
         have HTK:=hid (show jDs js0 ((jAt opn).take (i+1))=js3 ⟨2,opn.getD i ByteArray.empty,true⟩ (jDs js0 ((jAt opn).take i)) by
          unfold jAt
          rw[←List.map_take,jFA opn i jYC,List.map_append,List.map_take]
          exact jP9 _ _ _)
         have cP3:=jGS Bp' (b8+1) (jDs js0 ((jAt opn).take i)) ⟨2,opn.getD i ByteArray.empty,true⟩ wr HPi.out.jn (by dsimp only;omega) (by omega) HPi.out.lt
         unfold pcV at cP3
         dsimp only at cP3
         have c9:Tryz.prog.cellsOf 9=1:=by kernel_rfl
         clear cP cF hsm b6 b7 b8'
         generalize opn.getD i ByteArray.empty=s3 at *
         gi_wp2_with (refine⟨trivial,?_⟩;gi_at_call 53;(with_reducible refine (CallsIn.inRound lp (callsIn_wide.2 cP3)).mono ?_);rintro e w8 ⟨rfl,hj8,hk8,hc8⟩;have HP8:=hid (HPi.out.join hj8 hk8 hc8);have HA8:=hid (HAi.out.trans (Acc.ofJ (hk8.below HPi.out.le HPi.out.l9) hc8));have HR8:=hid (hc8.row HRi.out (fun _=>(show jBS _ from ⟨by decide,by decide,fun e=>absurd e (by decide)⟩)));clear hj8 hk8 hc8)
         go_roundw
         case rel=>exact⟨i+1,by go_num,by omega,by rw[HTK.out];exact HP8.out,HA8.out,HR8.out⟩
         case measure=>simp[RowKit.intOf];omega
        ·have ltI:¬(i:Int)<(opn.length:Int):=by omega
         obtain rfl:i=opn.length:=by omega
         rw[show (jAt opn).take opn.length=jAt opn by rw[←b5];exact List.take_length]at HPi b6 b7
         obtain⟨v4,h41,p4,q4,rfl,h43,h44,h45⟩:=HPi.out.at3
         have c4:wr.cell? ⟨w.heap.size,0,none⟩=some (.slice p4 (r.length+1) q4):=(Lib.cell_of_heap h41 0).trans rfl
         have f4:=Lib.frozen_of_heap h41 0
         have lt4:(1:Int)≤(r.length:Int)+1:=by omega
         simp only[List.length_cons]at h43 h45
         have hq4:(1:Int)≤(q4:Int):=by omega
         have hq5:(r.length:Int)+1≤(q4:Int):=by omega
         obtain⟨A4,rfl,hA4,hc4⟩:=h45 (by omega)
         by_cases hq1:q4=1
         ·subst hq1
          obtain rfl:r=[]:=List.eq_nil_of_length_eq_zero (by omega)
          have HP9:=hid (HPi.out.cutTail0 (A:=A4))
          have HA9:=hid (HAi.out.trans (Acc.set h41 HPi.out.l3 (jA3 (by decide) (by decide)) 0 (.slice (some A4) 0 0)))
          have HQ9:=hid (HA9.out.calm.same _ _ HQ1.out (jCv _))
          obtain⟨t0,t1,t2⟩:=jCF HQ9.out
          dsimp only at t0 t1 t2
          clear h41 h43 h44 h45 hc4 HPi HAi HRi hA4
          gi_wp2_with (first
           | (refine⟨trivial,?_⟩;gi_at_call 83;(with_reducible refine (CallsIn.inRound lp (callsIn_wide.2 (cF _ _ _ _ _ _ HP9.out))).mono ?_);rintro e w3 ⟨⟨z,rfl⟩,hs3,hb3,hk3⟩;have HPA:=hid (HP9.out.stack hs3 hb3 hk3);have HAA:=hid (HA9.out.trans (Acc.ofS hb3 hk3));have HQ3:=hid (HAA.out.calm.same _ _ HQ1.out (jCv _));obtain⟨x0,x1,x2⟩:=jCF HQ3.out;dsimp only at x0 x1 x2;clear hs3 hb3 hk3)
           | (refine⟨trivial,?_⟩;gi_at_call 53;(with_reducible refine (CallsIn.inRound lp (callsIn_wide.2 (cP _ _ _ _ _ _ _ HPA.out (by omega) (by omega)))).mono ?_);rintro e w4 ⟨rfl,hj4,hk4,hc4⟩;have HPB:=hid (HPA.out.join hj4 hk4 hc4);have HAB:=hid (HAA.out.trans (Acc.ofJ (hk4.below HPA.out.le HPA.out.l9) hc4));clear hj4 hk4 hc4))
          exact⟨HAB.out.from,HAB.out.kp,⟨us',Bp',by rw[HY.out];exact HPB.out⟩,HW.out.trans HAB.out.bel⟩
         ·have hq6:¬q4-1=0:=by omega
          have hq7:¬(q4:Int)=1:=by omega
          have hq8:¬(1:Int)=(q4:Int):=by omega
          have hq9:(1:Int)<(q4:Int):=by omega
          have hq10:1<q4:=by omega
          have HP9:=hid (HPi.out.cutTail h43 h44 hA4 hc4)
          have HA9:=hid (HAi.out.trans (Acc.set h41 HPi.out.l3 (jA3 (by decide) (by decide)) 0 (.slice (some { block:=A4.block,off:=A4.off+1 }) r.length (q4-1))))
          have HQ9:=hid (HA9.out.calm.same _ _ HQ1.out (jCv _))
          obtain⟨t0,t1,t2⟩:=jCF HQ9.out
          dsimp only at t0 t1 t2
          clear h41 h43 h44 h45 hc4 HPi HAi HRi hA4
          gi_wp2_with (first
           | (refine⟨trivial,?_⟩;gi_at_call 83;(with_reducible refine (CallsIn.inRound lp (callsIn_wide.2 (cF _ _ _ _ _ _ HP9.out))).mono ?_);rintro e w3 ⟨⟨z,rfl⟩,hs3,hb3,hk3⟩;have HPA:=hid (HP9.out.stack hs3 hb3 hk3);have HAA:=hid (HA9.out.trans (Acc.ofS hb3 hk3));have HQ3:=hid (HAA.out.calm.same _ _ HQ1.out (jCv _));obtain⟨x0,x1,x2⟩:=jCF HQ3.out;dsimp only at x0 x1 x2;clear hs3 hb3 hk3)
           | (refine⟨trivial,?_⟩;gi_at_call 53;(with_reducible refine (CallsIn.inRound lp (callsIn_wide.2 (cP _ _ _ _ _ _ _ HPA.out (by omega) (by omega)))).mono ?_);rintro e w4 ⟨rfl,hj4,hk4,hc4⟩;have HPB:=hid (HPA.out.join hj4 hk4 hc4);have HAB:=hid (HAA.out.trans (Acc.ofJ (hk4.below HPA.out.le HPA.out.l9) hc4));clear hj4 hk4 hc4))
          exact⟨HAB.out.from,HAB.out.kp,⟨us',Bp',by rw[HY.out];exact HPB.out⟩,HW.out.trans HAB.out.bel⟩
     case stop2 =>
      rintro c2 pre2 Wd qAG h
      exact h.elim
   ·have hpb:((y.1:Int) == pl)=false:=by simp[jY6]
    have HY:=hid (HY1.out (by rw[hH];simp[jY6]))
    clear HY1 HY2
    gi_wp2_with (first
     | (refine⟨trivial,?_⟩;gi_at_call 83;(with_reducible refine (CallsIn.inRound lp (callsIn_wide.2 (cF _ _ _ _ _ _ HP1.out))).mono ?_);rintro e w3 ⟨⟨z,rfl⟩,hs3,hb3,hk3⟩;have HP3:=hid (HP1.out.stack hs3 hb3 hk3);have HA3:=hid (HA1.out.trans (Acc.ofS hb3 hk3));have HQ3:=hid (HA3.out.calm.same _ _ HQ1.out (jCv _));obtain⟨x0,x1,x2⟩:=jCF HQ3.out;dsimp only at x0 x1 x2;clear hs3 hb3 hk3)
     | (refine⟨trivial,?_⟩;gi_at_call 53;(with_reducible refine (CallsIn.inRound lp (callsIn_wide.2 (cP _ _ _ _ _ _ _ HP3.out (by omega) (by omega)))).mono ?_);rintro e w4 ⟨rfl,hj4,hk4,hc4⟩;have HP4:=hid (HP3.out.join hj4 hk4 hc4);have HA4:=hid (HA3.out.trans (Acc.ofJ (hk4.below HP3.out.le HP3.out.l9) hc4));clear hj4 hk4 hc4))
    exact⟨HA4.out.from,HA4.out.kp,⟨us,Bp,by rw[HY.out];exact HP4.out⟩,HW.out.trans HA4.out.bel⟩
 case done =>
  rintro D ys Wd hD rfl ⟨⟨us,Bp,g1⟩,g2⟩ hK
  have hF:=jS5 at' (placed 0 (jAh l))
  have HTW:=hid (jUC (at':=at') (jN4 jFu))
  generalize jF9 at' (placed 0 (jAh l))=st at *
  generalize (placed 0 (jAh l)).length=m at *
  have hjo:=hF.o
  have hjt:=hF.t
  have qAb:=hF.out
  obtain⟨out,j,opn,rest⟩:=st
  dsimp only at *
  have HK:=hid hK
  have HW:=hid g2
  have HD:=hid hD
  have HC:=hid (show ctE l at'=(if jCg (out++[jB2 j])=true then 3 else 0) by unfold ctE;rw[if_neg (by simp[hE]),if_neg (by simp[hA]),HTW.out])
  have HCR:=hid (show ctR l at'=(if jCg (out++[jB2 j])=true then [] else out++[jB2 j]) by
   unfold ctR
   rw[HC.out]
   cases jCg (out++[jB2 j])
   ·simp[HTW.out]
   ·simp)
  have hsd:=g2.size
  have HPd:=hid (g1.step (w':=Wd.drew) ⟨rfl,rfl,rfl,Nat.le_refl _,fun _ _=>rfl⟩)
  have HAd:=hid (Acc.step (B:=w.heap.size) (W:=Wd) (W':=Wd.drew) hsd ⟨rfl,rfl,rfl,Nat.le_refl _,fun _ _=>rfl⟩)
  have hzd:Wd.heap.size=Wd.heap.size:=rfl
  clear hK hF g1 g2 HBR cT HTW HP0 hD
  gi_wp2
  obtain⟨v8,h8d,hr8⟩:=HPd.out.prt
  obtain⟨o8,q8,rfl⟩:∃o8 q8,v8=.slice o8 out.length q8:=by
   rcases hr8.2 with ⟨rfl,h0⟩ | ⟨g,cp,cur,hv8,_⟩
   ·exact⟨none,0,by rw[h0]⟩
   ·exact⟨_,_,hv8⟩
  have c8:Wd.drew.cell? ⟨b8,0,none⟩=some (.slice o8 out.length q8):=(Lib.cell_of_heap h8d 0).trans rfl
  have cDn:=jLR Bp (b8+1) j.o j.t Wd.drew HPd.out.jn (by omega) (by omega) HPd.out.lt
  obtain⟨i0,hi0,hz0,hz1,hz2⟩:=info_parts jP2
  have hol:out.length≤9000:=by omega
  refine wpIn_mono (Q:=fun e a' wx=>e=Exit.normal∧∃v55 v56 v57 v58,a'={ tmps:=#[.slice p l.length cap,.slice pa at'.length ca,undef,.pointer (some ⟨w.heap.size,0,none⟩),.slice none 0 0,.int .u8 0,.int .i64 (jAW l:Nat),.int .u8 0,.pointer (some ⟨b8,0,none⟩),.pointer (some ⟨b8+1,0,none⟩),.pointer (some ⟨b8+1+1,0,none⟩),undef,undef,undef,undef,undef,undef,.tuple #[.int .i64 (jAW l:Nat),.int .u8 0],.slice p l.length cap,.tuple #[.int .i64 (jAW l:Nat),.int .u8 0],.int .i64 (jAW l:Nat),.int .u8 0,.int .u8 0,.bool false,undef,.slice pa at'.length ca,.int .i64 (jAW l:Nat),.bool true,.bool false,.slice p l.length cap,.func (.func 143) #[] #[.pointer (some ⟨b8+1+1+1,0,none⟩)],undef,undef,undef,undef,undef,undef,undef,undef,undef,undef,undef,undef,undef,undef,undef,undef,undef,undef,undef,undef,undef,undef,undef,undef,undef,undef,undef,undef,undef,undef,undef,undef,undef,undef,undef,undef,undef,undef,undef,undef,undef,undef,undef,undef,undef,v55,v56,v57,v58,undef,undef,undef],defers:=[jWN D] }∧jCs w.heap.size w.heap.size b8 (b8+1) (b8+1+1) us Bp out (jB2 j) opn rest Wd wx) ?reg26 ?rest26
  case reg26 =>
   refine wpIn_region_any (by kernel_rfl) ?_
   change wpAnyIn _ _ _ _ _ _ _ _ _ (World.drew _)
   refine wpAnyIn_ready (rs:=[0,1]) (by kernel_rfl) (by simp) ?_
   refine AllReadyIn.cons rfl (fun K hK=>?_) ?_
   ·go_simp
    refine hK _ _ ?_
    clear hK K
    refine wpAnyIn_ready (rs:=[1]) (by kernel_rfl) (by simp) ?_
    refine AllReadyIn.cons rfl (fun K hK=>?_) ?_
    rotate_left
    ·exact AllReadyIn.nil
    go_simp
    gi_wp2_with (refine⟨trivial,?_⟩;gi_at_call 54;(with_reducible refine (callsIn_wide.2 cDn).mono ?_);rintro e w4 ⟨u,rfl,hu4,hj4,hk4,hc4⟩;have HU4:=hid (show jA7 Bp u (jB2 (j)) w4 from hu4);have HP4:=hid (HPd.out.join (j':=⟨jB2 (j),[],nil,false⟩) hj4 hk4 hc4);have HA4:=hid (HAd.out.trans (Acc.ofJ (hk4.below HPd.out.le HPd.out.l9) hc4));have h84:=hc4.same _ _ h8d (show jBS _ from ⟨by decide,by decide,fun e=>absurd e (by decide)⟩);have c84:w4.cell? ⟨b8,0,none⟩=some (.slice o8 out.length q8):=(Lib.cell_of_heap h84 0).trans rfl;have jHh:=hc4.row hr8 (fun _=>(show jBS _ from ⟨by decide,by decide,fun e=>absurd e (by decide)⟩));have jWz:=lt_of_block h84;obtain⟨uo,uc,rfl⟩:=HU4.out.form;have H84:=hid h84;clear hu4 hj4 hk4 hc4 h84)
    first | (refine hK _ _ ?_) | skip
    try clear hK K
    refine wpAnyIn_ready (rs:=[2]) (by kernel_rfl) (by simp) ?_
    refine AllReadyIn.cons rfl (fun K hK=>?_) ?_
    rotate_left
    ·exact AllReadyIn.nil
    go_simp
    refine hK _ _ ?_
    clear hK K
    refine wpAnyIn_ready (rs:=[3]) (by kernel_rfl) (by simp) ?_
    refine AllReadyIn.cons rfl (fun K hK=>?_) ?_
    rotate_left
    ·exact AllReadyIn.nil
    refine jBt rfl (.tmp 76) (.tmp 78) 47 rfl w.heap.size 39 i0 (.slice none 0 0) 1 24 Tryz.underlying47 hi0 hz0 hz1 hz2 rfl (by decide) (.slice o8 out.length q8) (out).length us (by simp[Act.eval]) (jHh.alloc _) ⟨w4.heap.size,0,none⟩ 1 1 [.slice uo (jB2 (j)).length uc] (by simp[Act.eval]) rfl (cell_one_new _ _ _) (by simp[Value.oneCell']) (by unfold maxLen;omega) (by omega) (by simp;omega) ?_
    intro v9 w6 jA5 jAv
    refine hK _ _ ?_
    clear hK K
    have hk6:Keeps jEM w4 w6:=((Keeps.refl jEM w4).alloc _).trans (Keeps.grown (jHh.alloc _) jAv (fun _ h=>h.1 rfl))
    have hb6:Below w.heap.size w4 w6:=((Below.refl _ w4).alloc (by have:=HA4.out.bel.size;omega) _).grown jAv (by have:=HA4.out.bel.size;simp;omega) (fun k e=>(jHh.lt k e).1)
    have h86:w6.heap[b8]? = some (.cells #[.slice o8 out.length q8] 47 (0,0)):=(jAv.block b8 (by simp;omega) (fun e=>jAI jHh H84.out (by decide) e.symm)).trans ((Below.heap_alloc _ _ _ jWz).trans H84.out)
    have c86:w6.cell? ⟨b8,0,none⟩=some (.slice o8 out.length q8):=(Lib.cell_of_heap h86 0).trans rfl
    have f86:w6.frozen? ⟨b8,0,none⟩=false:=Lib.frozen_of_heap h86 0
    have jUp:=hid (show jCs w.heap.size w.heap.size b8 (b8+1) (b8+1+1) us Bp (out) (jB2 (j)) (opn) (rest) Wd (w6.setCell ⟨b8,0,none⟩ v9) from ⟨w4,w6,_,v9,_,HP4.out,HU4.out,hk6,hb6,⟨_,h86,rfl⟩,jA5,rfl,HA4.out.trans ((Acc.ofQ hb6 hk6).trans (Acc.set h86 HP4.out.l8 (jA3 (by decide) (by decide)) 0 _))⟩)
    obtain⟨o9,c9,rfl⟩:∃o9 c9,v9=.slice o9 ((out).length+1) c9:=by
     rcases jA5.2 with ⟨_,h0⟩ | ⟨g,cp,cur,hv9,_⟩
     ·omega
     ·exact⟨_,_,hv9⟩
    clear jA5 jAv hk6 hb6 h86
    refine wpAnyIn_ready (rs:=[4]) (by kernel_rfl) (by simp) ?_
    refine AllReadyIn.cons rfl (fun K hK=>?_) ?_
    rotate_left
    ·exact AllReadyIn.nil
    go_simp
    refine hK _ _ ?_
    clear hK K
    refine wpAnyIn_done (by kernel_rfl) ?_ _
    exact⟨rfl,_,_,_,_,rfl,jUp.out⟩
   refine AllReadyIn.cons rfl (fun K hK=>?_) ?_
   rotate_left
   ·exact AllReadyIn.nil
   go_simp
   gi_wp2_with (refine⟨trivial,?_⟩;gi_at_call 54;(with_reducible refine (callsIn_wide.2 cDn).mono ?_);rintro e w4 ⟨u,rfl,hu4,hj4,hk4,hc4⟩;have HU4:=hid (show jA7 Bp u (jB2 (j)) w4 from hu4);have HP4:=hid (HPd.out.join (j':=⟨jB2 (j),[],nil,false⟩) hj4 hk4 hc4);have HA4:=hid (HAd.out.trans (Acc.ofJ (hk4.below HPd.out.le HPd.out.l9) hc4));have h84:=hc4.same _ _ h8d (show jBS _ from ⟨by decide,by decide,fun e=>absurd e (by decide)⟩);have c84:w4.cell? ⟨b8,0,none⟩=some (.slice o8 out.length q8):=(Lib.cell_of_heap h84 0).trans rfl;have jHh:=hc4.row hr8 (fun _=>(show jBS _ from ⟨by decide,by decide,fun e=>absurd e (by decide)⟩));have jWz:=lt_of_block h84;obtain⟨uo,uc,rfl⟩:=HU4.out.form;have H84:=hid h84;clear hu4 hj4 hk4 hc4 h84)
   first | (refine hK _ _ ?_) | skip
   try clear hK K
   refine wpAnyIn_ready (rs:=[0,2]) (by kernel_rfl) (by simp) ?_
   refine AllReadyIn.cons rfl (fun K hK=>?_) ?_
   ·go_simp
    refine hK _ _ ?_
    clear hK K
    refine wpAnyIn_ready (rs:=[2]) (by kernel_rfl) (by simp) ?_
    refine AllReadyIn.cons rfl (fun K hK=>?_) ?_
    rotate_left
    ·exact AllReadyIn.nil
    go_simp
    refine hK _ _ ?_
    clear hK K
    refine wpAnyIn_ready (rs:=[3]) (by kernel_rfl) (by simp) ?_
    refine AllReadyIn.cons rfl (fun K hK=>?_) ?_
    rotate_left
    ·exact AllReadyIn.nil
    refine jBt rfl (.tmp 76) (.tmp 78) 47 rfl w.heap.size 39 i0 (.slice none 0 0) 1 24 Tryz.underlying47 hi0 hz0 hz1 hz2 rfl (by decide) (.slice o8 out.length q8) (out).length us (by simp[Act.eval]) (jHh.alloc _) ⟨w4.heap.size,0,none⟩ 1 1 [.slice uo (jB2 (j)).length uc] (by simp[Act.eval]) rfl (cell_one_new _ _ _) (by simp[Value.oneCell']) (by unfold maxLen;omega) (by omega) (by simp;omega) ?_
    intro v9 w6 jA5 jAv
    refine hK _ _ ?_
    clear hK K
    have hk6:Keeps jEM w4 w6:=((Keeps.refl jEM w4).alloc _).trans (Keeps.grown (jHh.alloc _) jAv (fun _ h=>h.1 rfl))
    have hb6:Below w.heap.size w4 w6:=((Below.refl _ w4).alloc (by have:=HA4.out.bel.size;omega) _).grown jAv (by have:=HA4.out.bel.size;simp;omega) (fun k e=>(jHh.lt k e).1)
    have h86:w6.heap[b8]? = some (.cells #[.slice o8 out.length q8] 47 (0,0)):=(jAv.block b8 (by simp;omega) (fun e=>jAI jHh H84.out (by decide) e.symm)).trans ((Below.heap_alloc _ _ _ jWz).trans H84.out)
    have c86:w6.cell? ⟨b8,0,none⟩=some (.slice o8 out.length q8):=(Lib.cell_of_heap h86 0).trans rfl
    have f86:w6.frozen? ⟨b8,0,none⟩=false:=Lib.frozen_of_heap h86 0
    have jUp:=hid (show jCs w.heap.size w.heap.size b8 (b8+1) (b8+1+1) us Bp (out) (jB2 (j)) (opn) (rest) Wd (w6.setCell ⟨b8,0,none⟩ v9) from ⟨w4,w6,_,v9,_,HP4.out,HU4.out,hk6,hb6,⟨_,h86,rfl⟩,jA5,rfl,HA4.out.trans ((Acc.ofQ hb6 hk6).trans (Acc.set h86 HP4.out.l8 (jA3 (by decide) (by decide)) 0 _))⟩)
    obtain⟨o9,c9,rfl⟩:∃o9 c9,v9=.slice o9 ((out).length+1) c9:=by
     rcases jA5.2 with ⟨_,h0⟩ | ⟨g,cp,cur,hv9,_⟩
     ·omega
     ·exact⟨_,_,hv9⟩
    clear jA5 jAv hk6 hb6 h86
    refine wpAnyIn_ready (rs:=[4]) (by kernel_rfl) (by simp) ?_
    refine AllReadyIn.cons rfl (fun K hK=>?_) ?_
    rotate_left
    ·exact AllReadyIn.nil
    go_simp
    refine hK _ _ ?_
    clear hK K
    refine wpAnyIn_done (by kernel_rfl) ?_ _
    exact⟨rfl,_,_,_,_,rfl,jUp.out⟩
   refine AllReadyIn.cons rfl (fun K hK=>?_) ?_
   rotate_left
   ·exact AllReadyIn.nil
   go_simp
   refine hK _ _ ?_
   clear hK K
   refine wpAnyIn_ready (rs:=[0]) (by kernel_rfl) (by simp) ?_
   refine AllReadyIn.cons rfl (fun K hK=>?_) ?_
   rotate_left
   ·exact AllReadyIn.nil
   go_simp
   refine hK _ _ ?_
   clear hK K
   refine wpAnyIn_ready (rs:=[3]) (by kernel_rfl) (by simp) ?_
   refine AllReadyIn.cons rfl (fun K hK=>?_) ?_
   rotate_left
   ·exact AllReadyIn.nil
   refine jBt rfl (.tmp 76) (.tmp 78) 47 rfl w.heap.size 39 i0 (.slice none 0 0) 1 24 Tryz.underlying47 hi0 hz0 hz1 hz2 rfl (by decide) (.slice o8 out.length q8) (out).length us (by simp[Act.eval]) (jHh.alloc _) ⟨w4.heap.size,0,none⟩ 1 1 [.slice uo (jB2 (j)).length uc] (by simp[Act.eval]) rfl (cell_one_new _ _ _) (by simp[Value.oneCell']) (by unfold maxLen;omega) (by omega) (by simp;omega) ?_
   intro v9 w6 jA5 jAv
   refine hK _ _ ?_
   clear hK K
   have hk6:Keeps jEM w4 w6:=((Keeps.refl jEM w4).alloc _).trans (Keeps.grown (jHh.alloc _) jAv (fun _ h=>h.1 rfl))
   have hb6:Below w.heap.size w4 w6:=((Below.refl _ w4).alloc (by have:=HA4.out.bel.size;omega) _).grown jAv (by have:=HA4.out.bel.size;simp;omega) (fun k e=>(jHh.lt k e).1)
   have h86:w6.heap[b8]? = some (.cells #[.slice o8 out.length q8] 47 (0,0)):=(jAv.block b8 (by simp;omega) (fun e=>jAI jHh H84.out (by decide) e.symm)).trans ((Below.heap_alloc _ _ _ jWz).trans H84.out)
   have c86:w6.cell? ⟨b8,0,none⟩=some (.slice o8 out.length q8):=(Lib.cell_of_heap h86 0).trans rfl
   have f86:w6.frozen? ⟨b8,0,none⟩=false:=Lib.frozen_of_heap h86 0
   have jUp:=hid (show jCs w.heap.size w.heap.size b8 (b8+1) (b8+1+1) us Bp (out) (jB2 (j)) (opn) (rest) Wd (w6.setCell ⟨b8,0,none⟩ v9) from ⟨w4,w6,_,v9,_,HP4.out,HU4.out,hk6,hb6,⟨_,h86,rfl⟩,jA5,rfl,HA4.out.trans ((Acc.ofQ hb6 hk6).trans (Acc.set h86 HP4.out.l8 (jA3 (by decide) (by decide)) 0 _))⟩)
   obtain⟨o9,c9,rfl⟩:∃o9 c9,v9=.slice o9 ((out).length+1) c9:=by
    rcases jA5.2 with ⟨_,h0⟩ | ⟨g,cp,cur,hv9,_⟩
    ·omega
    ·exact⟨_,_,hv9⟩
   clear jA5 jAv hk6 hb6 h86
   refine wpAnyIn_ready (rs:=[4]) (by kernel_rfl) (by simp) ?_
   refine AllReadyIn.cons rfl (fun K hK=>?_) ?_
   rotate_left
   ·exact AllReadyIn.nil
   go_simp
   refine hK _ _ ?_
   clear hK K
   refine wpAnyIn_done (by kernel_rfl) ?_ _
   exact⟨rfl,_,_,_,_,rfl,jUp.out⟩
  case rest26 =>
   clear c8 h8d hr8 cDn HPd HAd hi0 hz0 hz1 hz2
   rintro e a6 w6 ⟨rfl,v55,v56,v57,v58,rfl,jQg⟩
   obtain⟨v9,h89,qAy,qA6⟩:=jQg.parts
   obtain⟨o9,q9,rfl,_,_⟩:=qAy.form
   have c89:w6.cell? ⟨b8,0,none⟩=some (.slice o9 (out++[jB2 j]).length q9):=(Lib.cell_of_heap h89 0).trans rfl
   have cL:=jLu (out++[jB2 j]) _ w6 qAy.at
   have HPT:=hid qAy
   have HB6:=hid (HW.out.trans qA6.bel)
   have HK6:=hid (qA6.non _ _ HK.out rfl)
   clear qAy qA6 jQg h89
   have HDz:=HD.out
   generalize hQ:out++[jB2 j]=Q9 at *
   cases hlg:jCg Q9
   ·have HC2:=hid (show ctE l at'=0 by rw[HC.out,hlg];rfl)
    have HC3:=hid (show ctR l at'=Q9 by rw[HCR.out,hlg];rfl)
    rw[hlg]at cL
    clear HC HCR hlg
    gi_wp2_with (refine⟨trivial,?_⟩;gi_at_call 84;(with_reducible refine (callsIn_wide.2 cL).mono ?_);rintro e w7 ⟨rfl,rfl⟩)
    exact jBE (fun W'=>jEZ W' (.slice o9 Q9.length q9) Q9∧Below w.heap.size w W') Wr.heap.size (fun X D1 h hD1 hk1=>⟨h.1.turned (grownBy_putObj' X D1 _) (fun r e=>by cases e;exact⟨_,hk1,rfl⟩),h.2.trans (belowK_b (w:=w) (Nat.le_refl _) X D1 _ _ (by omega) hk1 rfl rfl)⟩) (fun X h=>⟨_,results_tmp2 rfl _ _ _,⟨_,by rw[HC2.out];rfl,by rw[HC3.out];exact h.1⟩,h.2⟩) [D] _ ⟨HPT.out,HB6.out⟩ ((jBx.nil _ _).cons HDz (by simp) HK6.out)
   ·have HC2:=hid (show ctE l at'=3 by rw[HC.out,hlg];rfl)
    have HC3:=hid (show ctR l at'=[] by rw[HCR.out,hlg];rfl)
    rw[hlg]at cL
    clear HC HCR hlg
    gi_wp2_with (refine⟨trivial,?_⟩;gi_at_call 84;(with_reducible refine (callsIn_wide.2 cL).mono ?_);rintro e w7 ⟨rfl,rfl⟩)
    exact jBE (fun W'=>Below w.heap.size w W') Wr.heap.size (fun X D1 h hD1 hk1=>h.trans (belowK_b (w:=w) (Nat.le_refl _) X D1 _ _ (by omega) hk1 rfl rfl)) (fun X h=>⟨_,results_tmp2 rfl _ _ _,⟨_,by rw[HC2.out];rfl,by rw[HC3.out];exact jEZ.nil _⟩,h⟩) [D] _ HB6.out ((jBx.nil _ _).cons HDz (by simp) HK6.out)
 case stop =>
  rintro D c pre Wd hD jRD h
  exact h.elim
end Go.Proofs.YtldapapdolkiaaaGreatDoor
namespace Go.Proofs.YtldapapdolkiaaaGreatDoor
set_option maxHeartbeats 64000000
open Go Go.RowKit Go.Lib
set_option maxRecDepth 100000
theorem jXz (l:List Pc)(at':List Int)(v va:Value)(w:World)(hv:jBe w v l)(ha:jC0 w va at')(hb:bulk l≤9000)(hn:at'.length≤9000)(hT:Tabs w) :
 Calls Tryz.prog 37 #[v,va] w fun e w'=>(∃u,e=.returned (.tuple #[u,.int .u8 (ctE l at')])∧jEZ w' u (ctR l at'))∧Below w.heap.size w w':=by
 by_cases hE:jAu l=0
 ·by_cases hA:jE6 (jAW l) 0 at'=true
  ·exact jUV l at' v va w hv ha hb hn hT hE hA
  ·have hA0:jE6 (jAW l) 0 at'=false:=by simpa using hA
   have HC:=hid (show ctE l at'=1 by unfold ctE;rw[if_neg (by simp[hE]),if_pos hA0])
   have HR:=hid (show ctR l at'=[] by unfold ctR;rw[HC.out];rfl)
   have cU:=fun w1 (h:Below w.heap.size w w1)=>jFG l v w1 (hv.step h) (by omega) (hT.step h)
   have hU:unE l=jAW l:=by unfold unE;rw[if_pos hE]
   have cA:=fun w1 (h:Below w.heap.size w w1)=>jIW at' (jAW l:Nat) va w1 (ha.step h)
   rw[hA0]at cA
   rw[hE,hU]at cU
   obtain⟨p,cap,rfl,hl,hc⟩:∃p cap,v=.slice p l.length cap∧l.length≤cap∧cap≤maxLen:=by
    obtain⟨p,cap,e,h1,h2,_⟩:=hv
    exact⟨p,cap,e,h1,h2⟩
   obtain⟨pa,ca,rfl,hla,hca⟩:=ha.form
   unfold maxLen at hc hca
   have HB0:=hid (jAb (w:=w) (.cells #[.slice pa at'.length ca] 78))
   have HN0:=hid (heap_alloc_new w (.cells #[.slice pa at'.length ca] 78))
   clear hv ha hT hU hA hA0 hE
   go_enter Tryz.func37,Tryz.ntmps37
   go_wp2_with (first
    | (go_at_call 79;(with_reducible refine (cU _ HB0.out).mono ?_);rintro e w1 ⟨rfl,hb1⟩;have HB1:=hid (jAa HB0.out hb1);have HN1:=hid ((hb1.block _ (lt_of_block HN0.out)).trans HN0.out);have c3:=(Lib.cell_of_heap HN1.out 0).trans rfl;clear hb1)
    | (go_at_call 80;(with_reducible refine (cA _ HB1.out).mono ?_);rintro e w2 ⟨rfl,rfl⟩))
   go_ret2
   exact⟨⟨_,by rw[HC.out];rfl,by rw[HR.out];exact jEZ.nil _⟩,HB1.out⟩
 ·have hC:ctE l at'=jAu l:=by unfold ctE;rw[if_pos hE]
  obtain⟨Z,hZ⟩:∃Z,jAu l=Z:=⟨_,rfl⟩
  have HC:=hid (hC.trans hZ)
  have HR:=hid (show ctR l at'=[] by unfold ctR;rw[hC,if_neg hE])
  have cU:=fun w1 (h:Below w.heap.size w w1)=>jFG l v w1 (hv.step h) (by omega) (hT.step h)
  have hU:unE l=0:=by unfold unE;rw[if_neg hE]
  rw[hZ]at cU hE
  rw[hU]at cU
  have hz2:(Z != 0)=true:=by simpa using hE
  have HB0:=hid (jAb (w:=w) (.cells #[va] 78))
  obtain⟨p,cap,rfl,_,_⟩:∃p cap,v=.slice p l.length cap∧l.length≤cap∧cap≤maxLen:=by
   obtain⟨p,cap,e,h1,h2,_⟩:=hv
   exact⟨p,cap,e,h1,h2⟩
  obtain⟨pa,ca,rfl,_,_⟩:=ha.form
  clear hv ha hT hU hZ hE hC
  go_enter Tryz.func37,Tryz.ntmps37
  go_wp2_with (go_at_call 79;(with_reducible refine (cU _ HB0.out).mono ?_);rintro e w1 ⟨rfl,hb1⟩;have HB1:=hid (jAa HB0.out hb1);clear hb1)
  go_ret2
  exact⟨⟨_,by rw[HC.out];rfl,by rw[HR.out];exact jEZ.nil _⟩,HB1.out⟩
end Go.Proofs.YtldapapdolkiaaaGreatDoor
