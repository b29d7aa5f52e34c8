/- The break rules compiled, by the program. The break rules compiled, by the program: the call. Compiled rules read; whether a rule fits a place, by the program. Fits, by the program. -/
import Derived.Test.YtldapapdolkiaaaGreatDoorBrC
namespace Go.Proofs.YtldapapdolkiaaaGreatDoor
set_option maxHeartbeats 64000000
open Go Go.RowKit Go.Lib
set_option maxRecDepth 100000
def jHI:Rl:=⟨⟨#[]⟩,⟨#[]⟩,false⟩
def rF (R:List Rl)(i j:Nat):Value:=if j=0 then .string (R.getD i jHI).b else if j=1 then .string (R.getD i jHI).a else .bool (R.getD i jHI).k
def SzR (R:List Rl):Prop:=R.length≤64→∀x ∈ R,x.b.size≤100000∧x.a.size≤100000
def jB5 (w:World)(v:Value)(R:List Rl):Prop:=jAO w.heap.size w v R.length 3 (rF R)
theorem jB5.step {w w':World}{v:Value}{R:List Rl}(hb:Below w.heap.size w w')(h:jB5 w v R):jB5 w' v R:=(jAO.below hb h).mono hb.size
theorem jB5.get {w:World}{p:Option Addr}{n cap:Nat}{R:List Rl}(h:jB5 w (.slice p n cap) R){i:Nat}(hi:i<R.length):∃A,p=some A∧w.cell? (A.add (i*3))=some (.string (R.getD i jHI).b)∧w.cell? { block:=(A.add (i*3)).block,off:=(A.add (i*3)).off+1 }=some (.string (R.getD i jHI).a)∧w.cell? { block:=(A.add (i*3)).block,off:=(A.add (i*3)).off+2 }=some (.bool (R.getD i jHI).k):=by
 obtain⟨p',cap',e,_,_,h3⟩:=h
 injection e with e1 e2 e3
 subst e1
 obtain⟨A,rfl,hA,hc⟩:=h3 (by omega)
 exact⟨A,rfl,hc i 0 hi (by omega),jBq (by omega) (hc i 1 hi (by omega)),jBq (by omega) (hc i 2 hi (by omega))⟩
theorem jJo {R:List Rl}{k:Nat}(h:jE7 R k≠0):∀d,jE7 R (k+d)=jE7 R k
 | 0=>rfl
 | d+1=>by
   have ih:=jJo h d
   show jE7 R (k+d+1)=_
   rw[jE7,ih,if_pos h]
theorem jH3 {R:List Rl}{k:Nat}(h:jE7 R k=0):jE7 R (k+1)=rlE (R.getD k jHI):=by
 rw[jE7,if_neg (by simp[h])]
 rfl
theorem jTu {R:List Rl}{k:Nat}(hl:R.length≤64)(hk:k<R.length)(h:jE7 R k=0)(hE:rlE (R.getD k jHI)≠0):jDw R=rlE (R.getD k jHI):=by
 have h1:=jH3 h
 have h2:=jJo (R:=R) (k:=k+1) (by rw[h1];exact hE) (R.length-(k+1))
 unfold jDw
 rw[if_neg (by omega),show R.length=k+1+(R.length-(k+1)) by omega,h2,h1]
structure Cr where
 vb:Value
 va:Value
 x:Rl
def jFN:Cr:=⟨jDy,jDy,jHI⟩
def jCi (us:List Cr):List Value:=us.flatMap fun u=>[u.vb,.int .i64 (ftW (items u.x.b):Nat),u.va,.int .i64 (ftW (items u.x.a):Nat),.bool u.x.k]
def jHU (B:Nat)(v:Value)(us:List Cr)(w:World):Prop:=w.ownsRow B 133 5 v us.length (jCi us)∧∀u ∈ us,jK7 w u.vb (items u.x.b)∧jK7 w u.va (items u.x.a)
theorem jHU.step {B:Nat}{v:Value}{us:List Cr}{w w':World}(h:jHU B v us w)(hb:Below w.heap.size w w'):jHU B v us w':=by
 have hk:=Keeps.below (C:=fun _=>True) hb
 exact⟨hk.row h.1 fun _=>trivial,fun u hu=>⟨(h.2 u hu).1.keeps hk (fun _=>trivial) (fun _=>trivial) (fun _=>trivial),(h.2 u hu).2.keeps hk (fun _=>trivial) (fun _=>trivial) (fun _=>trivial)⟩⟩
theorem jHU.put {B:Nat}{v v':Value}{us:List Cr}{u:Cr}{w w2:World}(h:jHU B v us w)(hu:jK7 w u.vb (items u.x.b)∧jK7 w u.va (items u.x.a))(hg:w.grownBy w2 v.ownBlock)
 (hr:w2.ownsRow B 133 5 v' (us.length+1) (jCi us++[u.vb,.int .i64 (ftW (items u.x.b):Nat),u.va,.int .i64 (ftW (items u.x.a):Nat),.bool u.x.k])):jHU B v' (us++[u]) w2:=by
 have hk:Keeps (fun q=>match q with | .cells _ t _=>t≠133 | _=>True) w w2:=Keeps.grown h.1 hg (fun _ hh=>hh rfl)
 have d1:∀ {X:List Ft} {vt:Value},jK7 w vt X→jK7 w2 vt X:=fun ht=>ht.keeps hk (fun _=>(show 228≠133 by decide)) (fun _=>(show 21≠133 by decide)) (fun _=>(show 245≠133 by decide))
 refine⟨?_,fun y hy=>?_⟩
 ·rw[List.length_append,List.length_singleton]
  have e:jCi (us++[u])=jCi us++[u.vb,.int .i64 (ftW (items u.x.b):Nat),u.va,.int .i64 (ftW (items u.x.a):Nat),.bool u.x.k]:=by unfold jCi;rw[List.flatMap_append];rfl
  rw[e]
  exact hr
 ·rcases List.mem_append.1 hy with hy | hy
  ·exact⟨d1 (h.2 y hy).1,d1 (h.2 y hy).2⟩
  ·rw[List.mem_singleton.1 hy]
   exact⟨d1 hu.1,d1 hu.2⟩
theorem jXN:(Tryz.prog.info? 133).map (fun i=>(i.zero,i.size,i.bytes))=some (some (.agg #[.slice none 0 0,.int .i64 0,.slice none 0 0,.int .i64 0,.bool false]),5,72):=by kernel_rfl
theorem jQQ:∃i,Tryz.prog.info? 133=some i∧i.zero=some (.agg #[.slice none 0 0,.int .i64 0,.slice none 0 0,.int .i64 0,.bool false])∧i.size=5∧i.bytes=72:=by
 have h:=jXN
 cases hq:Tryz.prog.info? 133 with
 | none=>rw[hq]at h;cases h
 | some i=>rw[hq]at h;simp only[Option.map_some,Option.some.injEq,Prod.mk.injEq]at h;exact⟨i,rfl,h.1,h.2.1,h.2.2⟩
theorem jSE (w:World)(a b c d e:Value)(t:TypeId):∀j u,[a,b,c,d,e][j]? = some u→(w.alloc (.cells #[a,b,c,d,e] t)).cell? ((⟨w.heap.size,0,none⟩:Addr).add j)=some u:=by
 intro j u hj
 have h:=heap_alloc_new w (.cells #[a,b,c,d,e] t)
 match j,hj with
 | 0,hj=>simp only[List.getElem?_cons_zero,Option.some.injEq]at hj;subst hj;exact (Lib.cell_of_heap h 0).trans rfl
 | 1,hj=>simp only[List.getElem?_cons_succ,List.getElem?_cons_zero,Option.some.injEq]at hj;subst hj;exact (Lib.cell_of_heap h 1).trans rfl
 | 2,hj=>simp only[List.getElem?_cons_succ,List.getElem?_cons_zero,Option.some.injEq]at hj;subst hj;exact (Lib.cell_of_heap h 2).trans rfl
 | 3,hj=>simp only[List.getElem?_cons_succ,List.getElem?_cons_zero,Option.some.injEq]at hj;subst hj;exact (Lib.cell_of_heap h 3).trans rfl
 | 4,hj=>simp only[List.getElem?_cons_succ,List.getElem?_cons_zero,Option.some.injEq]at hj;subst hj;exact (Lib.cell_of_heap h 4).trans rfl
def jM3 (R:List Rl)(w:World)(e:Ending)(w':World):Prop:=(∃vr,e=.returned (.tuple #[vr,.int .u8 (jDw R)])∧(∃q m c,vr=.slice q m c)∧(jDw R=0→∃us,us.map Cr.x=R∧jHU w.heap.size vr us w'))∧Below w.heap.size w w'
end Go.Proofs.YtldapapdolkiaaaGreatDoor
namespace Go.Proofs.YtldapapdolkiaaaGreatDoor
set_option maxHeartbeats 64000000
open Go Go.RowKit Go.Lib
set_option maxRecDepth 100000
theorem cell_new5' {w:World}{n:Nat}(hs:w.heap.size=n)(a b c d e:Value)(t:TypeId):∀j u,[a,b,c,d,e][j]? = some u→(w.alloc (.cells #[a,b,c,d,e] t)).cell? ((⟨n,0,none⟩:Addr).add j)=some u:=by
 subst hs
 exact jSE _ _ _ _ _ _ _
theorem jQd {w:World}{v:Value}{X:List Ft}{o o2:Obj}(h:jK7 w v X):jK7 ((w.alloc o).alloc o2) v X :=
 h.keeps (Keeps.below (C:=fun _=>True) (jAa (jAb (w:=w) o) (jAb o2))) (fun _=>trivial) (fun _=>trivial) (fun _=>trivial)
theorem jCd (R:List Rl)(v:Value)(w:World)(hv:jB5 w v R)(hz:SzR R)(hT:Tabs w):Calls Tryz.prog 75 #[v] w fun e w'=>jM3 R w e w':=by
 have ap:=Tryz.isAgg131
 have zp:=Tryz.sizeOf131
 have ab:=Tryz.isAgg133
 have zb:=Tryz.sizeOf133
 have ar:=Tryz.isAgg72
 have zr:=Tryz.sizeOf72
 have HV:=hid hv
 have HZ:=hid hz
 have HT:=hid hT
 obtain⟨p,cap,rfl,hl,hc,jA4⟩:=hv
 clear jA4 hz hT
 unfold maxLen at hc
 by_cases hE:64<R.length
 ·have hEI:(64:Int)<(R.length:Int):=by omega
  have HE:=hid (show jDw R=3 by unfold jDw;rw[if_pos hE])
  go_enter Tryz.func75,Tryz.ntmps75
  go_wp2
  go_ret2
  exact⟨⟨_,by rw[HE.out];rfl,⟨_,_,_,rfl⟩,fun h=>by rw[HE.out]at h;cases h⟩,Below.refl _ _⟩
 ·have hEI:¬(64:Int)<(R.length:Int):=by omega
  have jZ9:R.length≤64:=by omega
  obtain⟨i0,hi0,hz0,hz1,hz2⟩:=jQQ
  go_enter Tryz.func75,Tryz.ntmps75
  go_wp2
  go_loopw [4,15] (fun v4 v15 wr=>∃ (k:Nat) (us:List Cr),v15=.int .i64 k∧k≤R.length∧us.length=k∧Hid (jE7 R k=0)∧Hid (us.map Cr.x=R.take k)∧Hid (jHU w.heap.size v4 us wr)∧Hid (Below w.heap.size w wr)) (fun _ v15 _=>R.length-(RowKit.intOf v15).toNat)
  case atStart=>exact⟨0,[],rfl,Nat.zero_le _,rfl,rfl,rfl,⟨World.ownsRow_nil _ _ _ _,fun u hu=>by cases hu⟩,Below.refl _ _⟩
  case round =>
   obtain⟨k,us,rfl,hk,hus,HS,HM,HO,HB⟩:=hrel
   by_cases hlt:k<R.length
   ·have hki:(k:Int)<(R.length:Int):=by omega
    have hk0:(0:Int)≤(k:Int):=by omega
    obtain⟨A,rfl,x0,x1,x2⟩:=(HV.out.step HB.out).get hlt
    have hsz:=HZ.out jZ9 (R.getD k jHI) (by rw[List.getD_eq_getElem?_getD,List.getElem?_eq_getElem hlt];exact List.getElem_mem hlt)
    have HRN:=hid (jH3 HS.out)
    have HRE:=hid (jTu jZ9 hlt HS.out)
    have HMN:=hid (show ∀b a,(us++[(⟨b,a,R.getD k jHI⟩:Cr)]).map Cr.x=R.take (k+1) by
     intro b a
     rw[List.map_append,HM.out,List.take_add_one,List.getD_eq_getElem?_getD,List.getElem?_eq_getElem hlt]
     rfl)
    generalize R.getD k jHI=x at *
    obtain⟨xb,xa,xk⟩:=x
    dsimp only at x0 x1 x2 hsz
    have hbx:=jAb (w:=wr) (.cells #[.string xb,.string xa,.bool xk] 72)
    have HX1:=hid (heap_alloc_new wr (.cells #[.string xb,.string xa,.bool xk] 72))
    have HO1:=hid (HO.out.step hbx)
    have HB1:=hid (jAa HB.out hbx)
    have cC1:=jJx xb _ hsz.1 (HT.out.step HB1.out)
    have cC2:=fun w' ht=>jJx xa w' hsz.2 ht
    unfold jWF at cC1 cC2
    have jZ8:=HB.out.size
    clear hbx HS
    by_cases he1:jDz xb=0
    ·by_cases he2:jDz xa=0
     ·rw[he1]at cC1
      rw[he2]at cC2
      have HSN:=hid (HRN.out.trans (show rlE ⟨xb,xa,xk⟩=0 by unfold rlE;dsimp only;rw[if_neg (by simp[he1])];exact he2))
      go_wp2_with (first
       | (go_at_call 139;(with_reducible refine cC1.mono ?_);rintro e w3 ⟨⟨vt,n,rfl,⟨q3,m3,c3,rfl⟩,h3⟩,hb3⟩;obtain⟨rfl,ho3⟩:=h3 (by first | trivial | rfl);have HT3:=hid ho3;have HB3:=hid (jAa HB1.out hb3);have HX3:=hid ((hb3.block _ (lt_of_block HX1.out)).trans HX1.out);have HO3:=hid (HO1.out.step hb3);have y1:w3.cell? ⟨wr.heap.size,1,none⟩=some (.string xa):=(Lib.cell_of_heap HX3.out 1).trans rfl;have y2:w3.cell? ⟨wr.heap.size,2,none⟩=some (.bool xk):=(Lib.cell_of_heap HX3.out 2).trans rfl;have hw3:=lt_of_block HX3.out;have HB4:=hid (jAa HB3.out (jAb (w:=w3) (.cells #[.slice q3 m3 c3,.int .i64 (ftW (items xb):Nat)] 131)));clear h3 hb3 ho3)
       | (go_at_call 139;(with_reducible refine (cC2 _ (HT.out.step HB4.out)).mono ?_);rintro e w5 ⟨⟨vt5,n5,rfl,⟨q5,m5,c5,rfl⟩,h5⟩,hb5⟩;obtain⟨rfl,ho5⟩:=h5 (by first | trivial | rfl);have hbb:=jAa (jAb (w:=w3) (.cells #[.slice q3 m3 c3,.int .i64 (ftW (items xb):Nat)] 131)) hb5;have HT5:=hid ho5;have HT35:=hid (HT3.out.keeps (Keeps.below (C:=fun _=>True) hbb) (fun _=>trivial) (fun _=>trivial) (fun _=>trivial));have HX5:=hid ((hbb.block _ (lt_of_block HX3.out)).trans HX3.out);have HX7:=hid ((hb5.block _ (lt_of_block (heap_alloc_new w3 _))).trans (heap_alloc_new w3 _));have HO5:=hid (HO3.out.step hbb);have z2:w5.cell? ⟨wr.heap.size,2,none⟩=some (.bool xk):=(Lib.cell_of_heap HX5.out 2).trans rfl;have z0:w5.cell? ⟨w3.heap.size,0,none⟩=some (.slice q3 m3 c3):=(Lib.cell_of_heap HX7.out 0).trans rfl;have z1:w5.cell? ⟨w3.heap.size,1,none⟩=some (.int .i64 (ftW (items xb):Nat)):=(Lib.cell_of_heap HX7.out 1).trans rfl;have hw5:=lt_of_block HX5.out;have hw7:=lt_of_block HX7.out;have hv5:w.heap.size≤w5.heap.size:=Nat.le_trans jZ8 (Nat.le_of_lt hw5);clear ho5 hbb;have HB5:=hid (jAa HB4.out hb5);clear h5 hb5)
       | (at_builtin;refine wpList_append_own _ rfl _ _ 121 rfl w.heap.size 133 i0 _ 5 72 Tryz.underlying121 hi0 hz0 hz1 hz2 rfl (by decide) _ _ _ rfl ((HO5.out.1.alloc (.cells #[.slice q5 m5 c5,.int .i64 (ftW (items xa):Nat)] 131)).alloc _) ⟨w5.heap.size+1,0,none⟩ 1 1 [.slice q3 m3 c3,.int .i64 (ftW (items xb):Nat),.slice q5 m5 c5,.int .i64 (ftW (items xa):Nat),.bool xk] rfl rfl (cell_new5' (by simp) _ _ _ _ _ _) (fun u hu=>by simp at hu;rcases hu with rfl | rfl | rfl | rfl | rfl <;> rfl) (by unfold maxLen;omega) (by omega) (by simp;omega) ?_;intro v9 w9 jCy jBL jFS;have HK:=hid (jHU.put (u:=⟨.slice q3 m3 c3,.slice q5 m5 c5,⟨xb,xa,xk⟩⟩) ((HO5.out.step (jAb (.cells #[.slice q5 m5 c5,.int .i64 (ftW (items xa):Nat)] 131))).step (jAb _)) ⟨jQd HT35.out,jQd HT5.out⟩ jBL jCy);have HB9:=hid (((jAa (jAa HB5.out (jAb (.cells #[.slice q5 m5 c5,.int .i64 (ftW (items xa):Nat)] 131))) (jAb _)).grown jBL (by simp;omega) (fun k e=>(HO5.out.1.lt k e).1)));clear jCy jBL jFS))
      go_roundw
      case rel=>exact⟨k+1,us++[(⟨.slice q3 m3 c3,.slice q5 m5 c5,⟨xb,xa,xk⟩⟩:Cr)],by go_num,by omega,by simp[hus],HSN.out,HMN.out _ _,HK.out,HB9.out⟩
      case measure=>simp[RowKit.intOf];omega
     ·have HE:=hid (show jDw R=jDz xa by
       have h0:rlE ⟨xb,xa,xk⟩=jDz xa:=by unfold rlE;dsimp only;rw[if_neg (by simp[he1])]
       rw[HRE.out (by rw[h0];exact he2),h0])
      have he2':(jDz xa != 0)=true:=by simpa using he2
      rw[he1]at cC1
      clear HRN HRE
      generalize jDz xa=Z at *
      go_wp2_with (first
       | (go_at_call 139;(with_reducible refine cC1.mono ?_);rintro e w3 ⟨⟨vt,n,rfl,⟨q3,m3,c3,rfl⟩,h3⟩,hb3⟩;obtain⟨rfl,ho3⟩:=h3 (by first | trivial | rfl);have HT3:=hid ho3;have HB3:=hid (jAa HB1.out hb3);have HX3:=hid ((hb3.block _ (lt_of_block HX1.out)).trans HX1.out);have HO3:=hid (HO1.out.step hb3);have y1:w3.cell? ⟨wr.heap.size,1,none⟩=some (.string xa):=(Lib.cell_of_heap HX3.out 1).trans rfl;have y2:w3.cell? ⟨wr.heap.size,2,none⟩=some (.bool xk):=(Lib.cell_of_heap HX3.out 2).trans rfl;have hw3:=lt_of_block HX3.out;have HB4:=hid (jAa HB3.out (jAb (w:=w3) (.cells #[.slice q3 m3 c3,.int .i64 (ftW (items xb):Nat)] 131)));clear h3 hb3 ho3)
       | (go_at_call 139;(with_reducible refine (cC2 _ (HT.out.step HB4.out)).mono ?_);rintro e w5 ⟨⟨vt5,n5,rfl,⟨q5,m5,c5,rfl⟩,h5⟩,hb5⟩;have HB5:=hid (jAa HB4.out hb5);clear h5 hb5))
      go_ret2
      exact⟨⟨_,by rw[HE.out];rfl,⟨_,_,_,rfl⟩,fun h=>by rw[HE.out]at h;exact absurd h he2⟩,jAa HB5.out (jAb _)⟩
    ·have HE:=hid (show jDw R=jDz xb by
      rw[HRE.out (by unfold rlE;dsimp only;rw[if_pos he1];exact he1)]
      unfold rlE;dsimp only;rw[if_pos he1])
     clear HRN HRE
     have he1':(jDz xb != 0)=true:=by simpa using he1
     generalize jDz xb=Z at *
     go_wp2_with (go_at_call 139;(with_reducible refine cC1.mono ?_);rintro e w3 ⟨⟨vt,n,rfl,⟨q3,m3,c3,rfl⟩,h3⟩,hb3⟩;have HB3:=hid (jAa HB1.out hb3);clear h3 hb3)
     go_ret2
     exact⟨⟨_,by rw[HE.out];rfl,⟨_,_,_,rfl⟩,fun h=>by rw[HE.out]at h;exact absurd h he1⟩,jAa HB3.out (jAb _)⟩
   ·have hki:¬(k:Int)<(R.length:Int):=by omega
    obtain rfl:k=R.length:=by omega
    have HE:=hid (show jDw R=0 by unfold jDw;rw[if_neg hE];exact HS.out)
    obtain⟨q4,c4,rfl⟩:=jEb HO.out.1
    have HO2:=hid (show jHU w.heap.size (.slice q4 R.length c4) us wr by have:=HO.out;rwa [show Value.slice q4 us.length c4=.slice q4 R.length c4 by rw[hus]]at this)
    clear HO
    go_wp2
    go_ret2
    exact⟨⟨.slice q4 R.length c4,by rw[HE.out];rfl,⟨_,_,_,rfl⟩,fun _=>⟨us,by rw[HM.out,List.take_length],HO2.out⟩⟩,HB.out⟩
end Go.Proofs.YtldapapdolkiaaaGreatDoor
namespace Go.Proofs.YtldapapdolkiaaaGreatDoor
set_option maxHeartbeats 64000000
open Go Go.RowKit Go.Lib
set_option maxRecDepth 100000
theorem jSs:∀ (rs:List Nat),(∀r ∈ rs,r≠0)→∀X,jC2 rs=some X→∀x ∈ X,x.r≠0
 | [],_,X,h,x,hx=>by simp[jC2]at h;subst h;cases hx
 | [r],hr,X,h,x,hx=>by
   unfold jC2 at h
   split at h
   ·cases h
   ·injection h with h;subst h
    rw[List.mem_singleton.1 hx]
    exact hr r (List.mem_cons_self ..)
 | r :: s :: l,hr,X,h,x,hx=>by
   unfold jC2 at h
   split at h
   ·split at h
    ·cases hq:jC2 l with
     | none=>rw[hq]at h;cases h
     | some Y =>
       rw[hq]at h
       injection h with h;subst h
       rcases List.mem_cons.1 hx with rfl | hx
       ·exact hr s (by simp)
       ·exact jSs l (fun q hq'=>hr q (by simp[hq'])) Y hq x hx
    ·cases h
   ·cases hq:jC2 (s :: l) with
    | none=>rw[hq]at h;cases h
    | some Y =>
      rw[hq]at h
      injection h with h;subst h
      rcases List.mem_cons.1 hx with rfl | hx
      ·exact hr r (List.mem_cons_self ..)
      ·exact jSs (s :: l) (fun q hq'=>hr q (List.mem_cons_of_mem _ hq')) Y hq x hx
theorem jPP {s:ByteArray}(h:jDz s=0):(items s).length≤32∧∀x ∈ items s,x.r≠0:=by
 unfold jDz at h
 split at h
 ·cases h
 ·rename_i ht
  have ht:jBK s=true:=by simpa using ht
  cases hq:jGm s with
  | none=>rw[hq]at h;cases h
  | some X =>
    rw[hq]at h
    dsimp only at h
    split at h
    ·cases h
    ·rename_i hl
     unfold items
     rw[hq]
     refine⟨by simpa using hl,?_⟩
     refine jSs (jAi s) (fun r hr=>?_) X hq
     have:=(jKY _ s (Nat.le_refl _) ht r hr).2
     rintro rfl
     revert this
     decide
theorem rl_ok {x:Rl}(h:rlE x=0):jDz x.b=0∧jDz x.a=0:=by
 unfold rlE at h
 split at h
 ·rename_i h1;exact absurd h h1
 ·rename_i h1;exact⟨by simpa using h1,h⟩
theorem jZT {R:List Rl}(h:jDw R=0):∀i,i<R.length→rlE (R.getD i jHI)=0:=by
 unfold jDw at h
 split at h
 ·cases h
 ·have key:∀k,jE7 R k=0→∀i,i<k→rlE (R.getD i jHI)=0:=by
   intro k
   induction k with
   | zero=>intro _ i hi;cases hi
   | succ k ih =>
     intro hk i hi
     have h0:jE7 R k=0:=by
      by_cases e:jE7 R k=0
      ·exact e
      ·have:=jJo e 1
       rw[hk]at this
       exact absurd this.symm e
     rcases Nat.lt_succ_iff_lt_or_eq.1 hi with h1 | rfl
     ·exact ih h0 i h1
     ·rw[←jH3 h0];exact hk
  exact key _ h
theorem jI7:∀ (us:List Cr) (i:Nat),i<us.length→(jCi us)[i*5]? = some (us.getD i jFN).vb∧(jCi us)[i*5+1]? = some (.int .i64 (ftW (items (us.getD i jFN).x.b):Nat))∧(jCi us)[i*5+2]? = some (us.getD i jFN).va∧(jCi us)[i*5+3]? = some (.int .i64 (ftW (items (us.getD i jFN).x.a):Nat))∧(jCi us)[i*5+4]? = some (.bool (us.getD i jFN).x.k)
 | [],i,hi=>by cases hi
 | u :: us,0,_=>⟨rfl,rfl,rfl,rfl,rfl⟩
 | u :: us,i+1,hi=>by
   have h:=jI7 us i (by rw[List.length_cons]at hi;omega)
   have e:∀j,(jCi (u :: us))[(i+1)*5+j]? = (jCi us)[i*5+j]?:=fun j=>by
    have e1:jCi (u :: us)=[u.vb,.int .i64 (ftW (items u.x.b):Nat),u.va,.int .i64 (ftW (items u.x.a):Nat),.bool u.x.k]++jCi us:=rfl
    rw[e1,List.getElem?_append_right (by show 5≤_;omega)]
    show (jCi us)[(i+1)*5+j-5]? = _
    rw[show (i+1)*5+j-5=i*5+j by omega]
   have e0:=e 0
   rw[Nat.add_zero,Nat.add_zero]at e0
   rw[e0,e 1,e 2,e 3,e 4]
   exact h
theorem jHU.get {B i:Nat}{v:Value}{us:List Cr}{w:World}(h:jHU B v us w)(hi:i<us.length):∃A cap,v=.slice (some A) us.length cap∧A.block<w.heap.size∧w.cell? (A.add (i*5))=some (us.getD i jFN).vb∧w.cell? { block:=(A.add (i*5)).block,off:=(A.add (i*5)).off+1 }=some (.int .i64 (ftW (items (us.getD i jFN).x.b):Nat)) ∧
 w.cell? { block:=(A.add (i*5)).block,off:=(A.add (i*5)).off+2 }=some (us.getD i jFN).va∧w.cell? { block:=(A.add (i*5)).block,off:=(A.add (i*5)).off+3 }=some (.int .i64 (ftW (items (us.getD i jFN).x.a):Nat))∧w.cell? { block:=(A.add (i*5)).block,off:=(A.add (i*5)).off+4 }=some (.bool (us.getD i jFN).x.k):=by
 have hc:=h.1
 rcases h.1.2 with ⟨_,h0⟩ | ⟨g,cap,cur,rfl,hg,hh,hn,hm,_⟩
 ·omega
 ·obtain⟨c0,c1,c2,c3,c4⟩:=jI7 us i hi
  have hx:=World.ownsRow.cells hc (g:=g) rfl
  exact⟨_,_,rfl,lt_of_block hh,hx _ _ c0,jBq (by omega) (hx _ _ c1),jBq (by omega) (hx _ _ c2),jBq (by omega) (hx _ _ c3),jBq (by omega) (hx _ _ c4)⟩
theorem jIs (R:List Rl)(v:Value)(w:World)(hv:jB5 w v R)(hz:SzR R)(hT:Tabs w):Calls Tryz.prog 39 #[v] w fun e w'=>e=.returned (.int .u8 (jDw R))∧Below w.heap.size w w':=by
 have cR:=jCd R v w hv hz hT
 unfold jM3 at cR
 obtain⟨p,cap,rfl,hl,hc,jA4⟩:=hv
 clear jA4 hz hT
 generalize jDw R=Z at *
 go_enter Tryz.func39,Tryz.ntmps39
 go_wp2_with (go_at_call 75;(with_reducible refine cR.mono ?_);rintro e w1 ⟨⟨vr,rfl,⟨q,m,c,rfl⟩,h1⟩,hb1⟩;have HB1:=hid hb1;clear h1 hb1)
 go_ret
 exact⟨rfl,HB1.out⟩
end Go.Proofs.YtldapapdolkiaaaGreatDoor
namespace Go.Proofs.YtldapapdolkiaaaGreatDoor
set_option maxHeartbeats 64000000
open Go Go.RowKit Go.Lib
set_option maxRecDepth 100000
def ftE (x:Rl)(l:List Pc)(p:Int):Int:=if jDw [x]≠0 then jDw [x] else if jAu l≠0 then jAu l else if p<0∨((jCa l).length:Int)<p then 1 else 0
def ftR (x:Rl)(l:List Pc)(p:Int):Bool:=decide (ftE x l p=0) && jKF x (jCa l) p.toNat
end Go.Proofs.YtldapapdolkiaaaGreatDoor
