/- The document with segments in their place, as the specification makes it. The law DocsSegments over any document, rules and segments, given that the layer's examples hold. -/
import Derived.Test.YtldapapdolkiaaaGreatDoorSgD
import Derived.Test.YtldapapdolkiaaaGreatDoorGlC
import Derived.Test.YtldapapdolkiaaaGreatDoorDoA
import Derived.Test.YtldapapdolkiaaaGreatDoorSgA
import Derived.Test.YtldapapdolkiaaaGreatDoorSgB
import Derived.Test.YtldapapdolkiaaaGreatDoorBsC
namespace Go.Proofs.YtldapapdolkiaaaGreatDoor
set_option maxHeartbeats 64000000
open Go Go.RowKit Go.Lib
set_option maxRecDepth 100000
theorem jSp {K:List Bk}{S:List Sg}:∀ {k:Nat},jE5 K S k=true→0≤(if k=0 then 0 else (S.getD (k-1) jCf).b)
 | 0,_=>by simp
 | k+1,h=>by
   have h1:jE5 K S k=true∧jLH K (if k=0 then 0 else (S.getD (k-1) jCf).b) (S.getD k jCf)=true:=by
    have h2:(jE5 K S k && jLH K (if k=0 then 0 else (S.getD (k-1) jCf).b) (S.getD k jCf))=true:=h
    simpa using h2
   have h3:=jSp h1.1
   have h4:(if k=0 then 0 else (S.getD (k-1) jCf).b)≤(S.getD k jCf).b:=by
    have h5:=h1.2
    unfold jLH at h5
    simp only[Bool.and_eq_true,decide_eq_true_eq]at h5
    exact h5.1.1
   rw[if_neg (by omega),show k+1-1=k by omega]
   omega
theorem jPF {K:List Bk}{p:Int}{s:Sg}(h:¬p≤s.b):jLH K p s=false:=by unfold jLH;rw[decide_eq_false h];rfl
theorem jUy {K:List Bk}{p:Int}{s:Sg}(h:¬s.b<(K.length:Int)):jLH K p s=false:=by unfold jLH;rw[decide_eq_false h,Bool.and_false,Bool.false_and]
theorem jUR {K:List Bk}{p:Int}{q:Nat}{l:List Pc}(h:(K.getD q jBp).k=6):jLH K p ⟨(q:Int),l⟩=false:=by
 unfold jLH
 rw[show (⟨(q:Int),l⟩:Sg).b.toNat=q from Int.toNat_natCast q,decide_eq_false (show ¬((K.getD q jBp).k≠6) from fun e=>e h),Bool.and_false]
theorem jUL {K:List Bk}{p:Int}{q:Nat}{l:List Pc}(h1:p≤(q:Int))(h2:(q:Int)<(K.length:Int))(h:(K.getD q jBp).k≠6):jLH K p ⟨(q:Int),l⟩=true:=by
 unfold jLH
 rw[show (⟨(q:Int),l⟩:Sg).b.toNat=q from Int.toNat_natCast q,decide_eq_true h,decide_eq_true (show p≤(⟨(q:Int),l⟩:Sg).b from h1),decide_eq_true (show (⟨(q:Int),l⟩:Sg).b<(K.length:Int) from h2)]
 rfl
theorem jVI {K:List Bk}{S:List Sg}(h:jE5 K S S.length=false):jJK K S=false:=by unfold jJK;rw[h,Bool.false_and]
theorem jWh {K:List Bk}{S:List Sg}(h:jFU K S K.length=false):jJK K S=false:=by unfold jJK;rw[h,Bool.and_false]
theorem jUF {K:List Bk}{S:List Sg}(h1:jE5 K S S.length=true)(h2:jFU K S K.length=true):jJK K S=true:=by unfold jJK;rw[h1,h2];rfl
theorem jKo {S:List Sg}{j:Nat}(hj:j<S.length)(n:Nat):jAe (S.take (j+1)) n=if (S.getD j jCf).b=(n:Int) then jAe (S.take j) n++[(S.getD j jCf).l] else jAe (S.take j) n:=by rw[jKe hj,jKE]
theorem jJ6 {w:World}{b:Nat}{v0 v1:Value}{t:TypeId}(h:w.heap[b]? = some (.cells #[v0,v1] t (0,0)))(x:Value):(w.setCell ⟨b,1,none⟩ x).heap[b]? = some (.cells #[v0,x] t (0,0)):=jDe h 1 x
theorem jD1 {w:World}{b:Nat}{v0 v1:Value}{t:TypeId}{fr:Nat × Nat}(h:w.heap[b]? = some (.cells #[v0,v1] t fr)):w.cell? ⟨b,0,none⟩=some v0∧w.cell? ⟨b,1,none⟩=some v1:=by
 constructor
 ·rw[Lib.cell_of_heap h];rfl
 ·rw[Lib.cell_of_heap h];rfl
theorem PRow.more {B:Nat}{w0 w':World}{v' u:Value}{us:List Value}{ps:List (List Pc)}{p:List Pc}(h1:us.length=ps.length)(h3:∀t,t<ps.length→jBe w0 (us.getD t jDy) (ps.getD t []))(hp:jBe w0 u p)(h:w'.ownsRow B 39 1 v' (ps.length+1) (us++[u])):PRow B w0 v' (ps++[p]) w':=by
 refine⟨us++[u],by simp[h1],by rw[List.length_append,List.length_singleton];exact h,fun i hi=>?_⟩
 by_cases hio:i<ps.length
 ·rw[jCc us _ _ (by omega),jCc ps _ _ hio]
  exact h3 i hio
 ·obtain rfl:i=ps.length:=by rw[List.length_append,List.length_singleton]at hi;omega
  have e1:(us++[u]).getD ps.length jDy=u:=by rw[List.getD_eq_getElem?_getD,List.getElem?_append_right (by omega),h1];simp
  have e2:(ps++[p]).getD ps.length []=p:=by rw[List.getD_eq_getElem?_getD,List.getElem?_append_right (Nat.le_refl _)];simp
  rw[e1,e2]
  exact hp
theorem jLg {P:Program}{w:World}{ops:Array Oper}{o:Oper}{a:Act}{K:Act→World→Prop}{Q:Exit→Act→World→Prop}{E:Prop}(hgd:o.guard=none)(s x:Operand)(t:TypeId)
 (ho:o.op=.call { callee:=.builtin .append,args:=#[s,x],argTypes:=#[t,t] })
 (base:Nat) (e:TypeId) (i:TypeInfo) (size:Nat) (ht:P.underlying t=some (.slice e)) (hi:P.info? e=some i)
 (v:Value) (n c:Nat) (xs:List Value) (hs:a.eval s=v) (jAN:w.ownsRow base e size v n xs) (hx:a.eval x=.slice none 0 c)
 (h:K (a.put o.dst v) w):if Region.wanted o (yielded ops a.tmps)=true then Oper.wp P o a w K Q else E:=by
 have hw:Region.wanted o (yielded ops a.tmps)=true:=by simp[Region.wanted,hgd]
 rw[if_pos hw]
 have jA9:(Builtin.append_ #[t,t] o.type #[v,.slice none 0 c]).run P w=.ok v w:=by
  rcases jAN.2 with ⟨rfl,rfl⟩ | ⟨g,cap,cur,rfl,_,_,hnc,_⟩
  ·simp[Builtin.append_,run_underlying ht,sizeOf,typeInfo,hi,Builtin.lenOf,Builtin.firstCells]
  ·simp[Builtin.append_,run_underlying ht,sizeOf,typeInfo,hi,Builtin.lenOf,Builtin.firstCells,hnc,storeCells]
 unfold Oper.wp
 simp[execOp,ho,resolve,invoke,builtin,hs,hx,jA9,Result.andThen]
 exact h
theorem jMK {P:Program}{w:World}{ops:Array Oper}{o:Oper}{a:Act}{K:Act→World→Prop}{Q:Exit→Act→World→Prop}{E:Prop}(hgd:o.guard=none)(s x:Operand)(t:TypeId)
 (ho:o.op=.call { callee:=.builtin .append,args:=#[s,x],argTypes:=#[t,t] })
 (base:Nat) (e:TypeId) (i:TypeInfo) (z:Value) (size bytes:Nat) (ht:P.underlying t=some (.slice e)) (hi:P.info? e=some i) (hz:i.zero=some z)
 (jHg:i.size=size) (hby:i.bytes=bytes) (hzs:z.cells.size=size) (hsz:0<size)
 (v:Value) (n:Nat) (xs:List Value) (hs:a.eval s=v) (jAN:w.ownsRow base e size v n xs)
 (ao:Option Addr) (m c:Nat) (news:List Value) (hx:a.eval x=.slice ao m c) (hl:news.length=m*size) (qA8:ao=none→m=0) (jNp:∀ad,ao=some ad→∀j u,news[j]? = some u→w.cell? (ad.add j)=some u) (h1:∀u ∈ news,u.oneCell'=true)
 (h63:n+m≤maxLen) (jHP:(n+m)*bytes≤140737488355328) (jDu:base≤w.heap.size)
 (h:∀v' w',w'.ownsRow base e size v' (n+m) (xs++news)→w.grownBy w' v.ownBlock→K (a.put o.dst v') w'):if Region.wanted o (yielded ops a.tmps)=true then Oper.wp P o a w K Q else E:=by
 cases ao with
 | some ad =>
   have hw:Region.wanted o (yielded ops a.tmps)=true:=by simp[Region.wanted,hgd]
   rw[if_pos hw]
   exact wp_append_own w s x t ho base e i z size bytes ht hi hz jHg hby hzs hsz v n xs hs jAN ad m c news hx hl (jNp ad rfl) h1 h63 jHP jDu (fun v' w' h1 h2 _=>h v' w' h1 h2)
 | none =>
   have hm:=qA8 rfl
   subst hm
   have hn0:news=[]:=List.eq_nil_of_length_eq_zero (by rw[hl,Nat.zero_mul])
   subst hn0
   exact jLg (w:=w) hgd s x t ho base e i size ht hi v n c xs hs jAN hx (h v w (by simpa using jAN) (World.grownBy.refl _ _))
theorem jJO (bs:List Bk)(S:List Sg)(v vS:Value)(w:World)(hv:jDr w v bs)(hS:jEy w vS S)(hb:bs.length≤256→∀b ∈ bs,bulk b.l≤2500)(h3:Few3 S) :
 Calls Tryz.prog 15 #[.agg #[v],vS] w fun e w'=>jDT bs S e w'∧Below w.heap.size w w':=by
 have cD:=fun wr (h:Below w.heap.size w wr)=>jEQ bs v wr (hv.step h) hb
 obtain⟨i0,hi,hz0,hz1,hz2⟩:=info_parts jSb
 obtain⟨i1,hj,hy0,hy1,hy2⟩:=info_parts jEs
 obtain⟨i2,hk2,hx0,hx1,hx2⟩:=info_parts jPt
 have ag:=Tryz.isAgg44
 have zg:=Tryz.sizeOf44
 have ag2:=Tryz.isAgg24
 have zg2:=Tryz.sizeOf24
 have ag3:=Tryz.isAgg41
 have zg3:=Tryz.sizeOf41
 have H3:=hid h3
 have hS3:S.length≤3000:=h3.1
 obtain⟨us0,qAz,⟨p,cap,rfl,hl1,hc,jA4⟩,jQi⟩:=hv
 obtain⟨us1,hul1,⟨p1,cap1,rfl,hl11,hc1,jUr⟩,qAl⟩:=hS
 unfold maxLen at hc hc1
 have HR:=hid jA4
 have HU:=hid jQi
 have HSR:=hid jUr
 have HSU:=hid qAl
 have HB0:Hid (Below (w.heap.size+2) ((w.alloc (.cells #[.slice p bs.length cap] 24)).alloc (.cells #[.slice none 0 0] 24)) ((w.alloc (.cells #[.slice p bs.length cap] 24)).alloc (.cells #[.slice none 0 0] 24))):=Below.refl _ _
 replace cD:=fun wr (h:Below (w.heap.size+2) ((w.alloc (.cells #[.slice p bs.length cap] 24)).alloc (.cells #[.slice none 0 0] 24)) wr)=>cD wr (dbox2 h).2.2.1
 clear jA4 jQi jUr qAl h3
 by_cases hD:jFz bs=0
 ·obtain⟨jNz,jH0⟩:=jKM hD
  have hbk:=hb jNz
  rw[hD]at cD
  have jYV:=hid (fun (h:jJK bs S=false) (w':World)=>jDT.lacks (S:=S) hD h w')
  have jJD:=hid (fun (hO:jJK bs S=true) (h:jJU bs S bs.length=0) (r:Value) (w':World) (hr:jDr w' r (jQB bs S bs.length))=>jDT.good hD hO h hr)
  have jUq:=hid (fun (hO:jJK bs S=true) (k:Nat) (hk:k<bs.length) (hS:jJU bs S k=0) (h:rbE bs S k≠0) (w':World)=>jDT.block hD hO hk hS h w')
  have HK:=hid hbk
  clear hD jH0 hbk hb
  go_enter Tryz.func15,Tryz.ntmps15
  go_wp2_with (first
   | (go_at_call 40;(with_reducible refine (cD _ HB0.out).mono ?_);rintro e w1 ⟨rfl,hb1⟩;have HB1:=hid (jB1 HB0.out hb1);obtain⟨b1,hr1,_,_⟩:=dbox2 HB1.out;have HR1:=hid hr1;have cr1:=jAT hr1;have fr1:=Lib.frozen_of_heap hr1 0;clear hb1 hr1))
  have hW1:=(dbox2 HB1.out).2.2.1
  have HW1:=hid hW1
  clear hW1
  go_loop [7] (fun i=>∃k:Nat,k≤S.length∧i=.int .i64 k∧Hid (jE5 bs S k=true)) (fun i=>S.length-(RowKit.intOf i).toNat)
  case atStart=>exact⟨0,Nat.zero_le _,rfl,rfl⟩
  case round =>
   obtain⟨k,hk,rfl,HO⟩:=hrel
   by_cases hlt:k<S.length
   ·have hkI:(k:Int)<(S.length:Int):=by omega
    have hk0:(0:Int)≤(k:Int):=by omega
    obtain⟨A1,rfl,hA1,jEG⟩:=HSR.out (by omega)
    obtain⟨x0,x1⟩:=jCS hA1 jEG hlt HW1.out
    have hp0:=jSp HO.out
    have HNo:=hid (fun h w'=>jYV.out (jVI (jMs (K:=bs) hlt h)) w')
    have jIa:=hid (show jLH bs (if k=0 then 0 else (S.getD (k-1) jCf).b) (S.getD k jCf)=true→jE5 bs S (k+1)=true from fun h=>by show (_ && _)=true;rw[HO.out,h];rfl)
    have jRv:=hid (fun (j:Nat) (h:k=j+1)=>(jCS hA1 jEG (show j<S.length by omega) HW1.out).1)
    have HPe:=hid (fun (j:Nat) (h:k=j+1)=>(show (if k=0 then 0 else (S.getD (k-1) jCf).b)=(S.getD j jCf).b by rw[if_neg (by omega),h];rfl))
    have HPz:=hid (fun (h:k=0)=>(show (if k=0 then 0 else (S.getD (k-1) jCf).b)=0 by rw[if_pos h]))
    clear jEG
    generalize hpv:(if k=0 then 0 else (S.getD (k-1) jCf).b)=pv at *
    clear hpv
    generalize S.getD k jCf=x at *
    obtain⟨xb,xl⟩:=x
    simp only at x0 x1
    by_cases c1:xb<0
    ·have HX9:=hid (HNo.out (jPF (by simp only;omega)))
     clear HNo jIa jRv HPe HPz
     go_wp2
     refine bodyPost_ret (jBk (xs:=[.slice none 0 0]) rfl rfl ag2 zg2 (jB0 (by rw[Lib.cell_of_heap (jBm HR1.out (.slice none 0 0))];rfl))) rfl ?_
     exact⟨HX9.out _,(dbox2 HB1.out).2.2.1.setCell (p:=⟨w.heap.size+1,0,none⟩) (by show _≤w.heap.size+1;omega) _⟩
    ·obtain⟨q,rfl⟩:∃q:Nat,xb=(q:Int):=⟨xb.toNat,by omega⟩
     have c1b:¬(q:Int)<0:=by omega
     by_cases c2:bs.length≤q
     ·have c2I:¬(q:Int)<(bs.length:Int):=by omega
      have c2J:(bs.length:Int)≤(q:Int):=by omega
      have HX9:=hid (HNo.out (jUy (by simp only;omega)))
      clear HNo jIa jRv HPe HPz
      go_wp2
      refine bodyPost_ret (jBk (xs:=[.slice none 0 0]) rfl rfl ag2 zg2 (jB0 (by rw[Lib.cell_of_heap (jBm HR1.out (.slice none 0 0))];rfl))) rfl ?_
      exact⟨HX9.out _,(dbox2 HB1.out).2.2.1.setCell (p:=⟨w.heap.size+1,0,none⟩) (by show _≤w.heap.size+1;omega) _⟩
     ·have hq:q<bs.length:=by omega
      have c2I:(q:Int)<(bs.length:Int):=by omega
      have c2J:¬(bs.length:Int)≤(q:Int):=by omega
      have hq0:(0:Int)≤(q:Int):=by omega
      obtain⟨A,rfl,hA,jAj⟩:=HR.out (by omega)
      obtain⟨y0,_⟩:=jBv hA jAj hq HW1.out
      clear jAj
      by_cases c3:(bs.getD q jBp).k=6
      ·have HX9:=hid (HNo.out (jUR c3))
       rw[c3]at y0
       clear HNo jIa jRv HPe HPz c3
       go_wp2
       refine bodyPost_ret (jBk (xs:=[.slice none 0 0]) rfl rfl ag2 zg2 (jB0 (by rw[Lib.cell_of_heap (jBm HR1.out (.slice none 0 0))];rfl))) rfl ?_
       exact⟨HX9.out _,(dbox2 HB1.out).2.2.1.setCell (p:=⟨w.heap.size+1,0,none⟩) (by show _≤w.heap.size+1;omega) _⟩
      ·have HY9:=hid (fun h=>jIa.out (jUL h c2I c3))
       generalize (bs.getD q jBp).k=kk at *
       have c3b:(kk == 6)=false:=by simpa using c3
       clear jIa c3
       by_cases jZ3:k=0
       ·have HX8:=hid (HY9.out (by rw[HPz.out jZ3];omega))
        have hkz:¬(0:Int)<(k:Int):=by omega
        clear HNo jRv HPe HPz HY9 jZ3
        go_wp2
        go_round
        case rel=>exact⟨k+1,hlt,by go_num,HX8.out⟩
        case measure=>simp[RowKit.intOf] <;> omega
       ·obtain⟨j,rfl⟩:∃j,k=j+1:=⟨k-1,by omega⟩
        have z0:=jRv.out j rfl
        have hpe:=HPe.out j rfl
        have hkp:(0:Int)<((j+1:Nat):Int):=by omega
        have hwr:IntKind.i64.wrap (((j+1:Nat):Int)-1)=(j:Int):=by rw[IntKind.wrap_i64];omega
        have hj0:(0:Int)≤(j:Int):=by omega
        have hjI:(j:Int)<(S.length:Int):=by omega
        clear jRv HPe HPz
        rw[←hpe]at z0
        clear hpe
        by_cases c4:(q:Int)<pv
        ·have HX9:=hid (HNo.out (jPF (by simp only;omega)))
         clear HNo HY9
         go_wp2
         refine bodyPost_ret (jBk (xs:=[.slice none 0 0]) rfl rfl ag2 zg2 (jB0 (by rw[Lib.cell_of_heap (jBm HR1.out (.slice none 0 0))];rfl))) rfl ?_
         exact⟨HX9.out _,(dbox2 HB1.out).2.2.1.setCell (p:=⟨w.heap.size+1,0,none⟩) (by show _≤w.heap.size+1;omega) _⟩
        ·have HX8:=hid (HY9.out (by omega))
         clear HNo HY9
         go_wp2
         go_round
         case rel=>exact⟨j+1+1,hlt,by go_num,HX8.out⟩
         case measure=>simp[RowKit.intOf] <;> omega
   ·obtain rfl:k=S.length:=by omega
    have hkI:¬(S.length:Int)<(S.length:Int):=by omega
    have HOr:=hid HO.out
    clear HO hk hlt
    have HBD:=hid (fun (wy:World) (h:Below w1.heap.size w1 wy)=>((h.cell (p:=⟨w.heap.size,0,none⟩) (by have:=(dbox2 HB1.out).2.2.2;show w.heap.size<w1.heap.size;omega)).trans b1:wy.cell? ⟨w.heap.size,0,none⟩=some (.slice p bs.length cap)))
    have HRS:=hid (fun (wy:World) (h:Below w1.heap.size w1 wy)=>jF3 h HR1.out)
    go_wp2
    go_loop [9] (fun i=>∃k:Nat,k≤bs.length∧i=.int .i64 k∧Hid (jFU bs S k=true)) (fun i=>bs.length-(RowKit.intOf i).toNat)
    case atStart=>exact⟨0,Nat.zero_le _,rfl,rfl⟩
    case round =>
     obtain⟨k,hk,rfl,HA⟩:=hrel
     by_cases hlt:k<bs.length
     ·have hkI2:(k:Int)<(bs.length:Int):=by omega
      have hk0:(0:Int)≤(k:Int):=by omega
      obtain⟨A,rfl,hA,jAj⟩:=HR.out (by omega)
      obtain⟨y0,y1⟩:=jBv hA jAj hlt HW1.out
      have HNo:=hid (fun h w'=>jYV.out (jWh (jI6 (S:=S) hlt h)) w')
      have jIa:=hid (show jTr bs S k=true→jFU bs S (k+1)=true from fun h=>by show (_ && _)=true;rw[HA.out,h];rfl)
      have HHB:=hid (show jTr bs S k=(decide ((bs.getD k jBp).k=6) || decide (jAe S k≠[])) from rfl)
      clear jAj
      generalize (bs.getD k jBp).k=kk at *
      by_cases h6:kk=6
      ·subst h6
       have HN:=hid (jIa.out (by rw[HHB.out];rfl))
       clear jIa HNo HHB
       go_wp2
       go_loop [10,11] (fun h i=>∃j:Nat,j≤S.length∧i=.int .i64 j∧h=.bool true) (fun _ i=>S.length-(RowKit.intOf i).toNat)
       case atStart=>exact⟨0,Nat.zero_le _,rfl,rfl⟩
       case round =>
        obtain⟨j,hj,rfl,rfl⟩:=hrel
        by_cases hjl:j<S.length
        ·have hjI:(j:Int)<(S.length:Int):=by omega
         go_wp2
         go_round
         case rel=>exact⟨j+1,hjl,by go_num,rfl⟩
         case measure=>simp[RowKit.intOf] <;> omega
        ·obtain rfl:j=S.length:=by omega
         have hjI:¬(S.length:Int)<(S.length:Int):=by omega
         go_wp2
         go_round
         case rel=>exact⟨k+1,hlt,by go_num,HN.out⟩
         case measure=>simp[RowKit.intOf] <;> omega
      ·have h6b:(kk == 6)=false:=by simpa using h6
       go_wp2
       go_loop [10,11] (fun h i=>∃j:Nat,j≤S.length∧i=.int .i64 j∧h=.bool (decide (jAe (S.take j) k≠[]))) (fun _ i=>S.length-(RowKit.intOf i).toNat)
       case atStart=>exact⟨0,Nat.zero_le _,rfl,by simp[jAe]⟩
       case round =>
        obtain⟨j,hj,rfl,rfl⟩:=hrel
        by_cases hjl:j<S.length
        ·have hjI:(j:Int)<(S.length:Int):=by omega
         have hj0:(0:Int)≤(j:Int):=by omega
         obtain⟨A1,rfl,hA1,jEG⟩:=HSR.out (by omega)
         obtain⟨x0,x1⟩:=jCS hA1 jEG hjl HW1.out
         have HPS:=hid (jKo hjl k)
         clear jEG x1
         generalize hdd:decide (jAe (S.take j) k≠[])=dd at *
         have HDD:=hid hdd
         generalize S.getD j jCf=x at *
         obtain⟨xb,xl⟩:=x
         simp only at x0
         clear hdd
         cases dd
         ·by_cases hxb:xb=(k:Int)
          ·have HQ:Hid (decide (jAe (S.take (j+1)) k≠[])=true):=by
            show decide _=true
            rw[HPS.out,if_pos hxb];simp
           subst hxb
           clear HPS HDD
           go_wp2
           go_round
           case rel=>exact⟨j+1,hjl,by go_num,by rw[HQ.out];try simp⟩
           case measure=>simp[RowKit.intOf] <;> omega
          ·have HQ:Hid (decide (jAe (S.take (j+1)) k≠[])=false):=by
            show decide _=false
            rw[HPS.out,if_neg hxb];exact HDD.out
           have hxb2:(xb == (k:Int))=false:=by simpa using hxb
           clear HPS HDD hxb
           go_wp2
           go_round
           case rel=>exact⟨j+1,hjl,by go_num,by rw[HQ.out];try simp[hxb2]⟩
           case measure=>simp[RowKit.intOf] <;> omega
         ·have HQ:Hid (decide (jAe (S.take (j+1)) k≠[])=true):=by
           show decide _=true
           rw[HPS.out]
           split
           ·simp
           ·exact HDD.out
          clear HPS HDD
          go_wp2
          go_round
          case rel=>exact⟨j+1,hjl,by go_num,by rw[HQ.out]⟩
          case measure=>simp[RowKit.intOf] <;> omega
        ·obtain rfl:j=S.length:=by omega
         have hjI:¬(S.length:Int)<(S.length:Int):=by omega
         rw[List.take_length]
         generalize hdd:decide (jAe S k≠[])=dd at *
         have HDD:=hid hdd
         clear hdd
         cases dd
         ·have HX9:=hid (HNo.out (by rw[HHB.out,decide_eq_false h6];rfl))
          clear HNo jIa HHB
          go_wp2
          refine bodyPost_ret (jBk (xs:=[.slice none 0 0]) rfl rfl ag2 zg2 (jB0 (by rw[Lib.cell_of_heap (jBm HR1.out (.slice none 0 0))];rfl))) rfl ?_
          exact⟨HX9.out _,(dbox2 HB1.out).2.2.1.setCell (p:=⟨w.heap.size+1,0,none⟩) (by show _≤w.heap.size+1;omega) _⟩
         ·have HN:=hid (jIa.out (by rw[HHB.out,Bool.or_true]))
          clear HNo jIa HHB
          go_wp2
          go_round
          case rel=>exact⟨k+1,hlt,by go_num,HN.out⟩
          case measure=>simp[RowKit.intOf] <;> omega
     ·obtain rfl:k=bs.length:=by omega
      have hkI2:¬(bs.length:Int)<(bs.length:Int):=by omega
      have hO:=jUF HOr.out HA.out
      have HG:=hid (jJD.out hO)
      have HBd:=hid (jUq.out hO)
      clear jJD jUq jYV HA hO hk hlt
      go_wp2
      go_loopw [13] (fun i wr=>∃k:Nat,k≤bs.length∧i=.int .i64 k∧Hid (jJU bs S k=0)∧Hid (jDd w1.heap.size w1.heap.size (jQB bs S k) wr)∧Hid (Below w1.heap.size w1 wr)) (fun i _=>bs.length-(RowKit.intOf i).toNat)
      case atStart=>exact⟨0,Nat.zero_le _,rfl,rfl,jDd.new w1,jAb _⟩
      case round =>
       clear b1 cr1 fr1
       obtain⟨k,hk,rfl,HE,HDo,HB⟩:=hrel
       obtain⟨wo,hwo⟩:∃wo,wo=wr:=⟨_,rfl⟩
       subst hwo
       have b0:=HBD.out _ HB.out
       obtain⟨v1,d1,own1⟩:=HDo.out
       have c1:=jAT d1
       obtain⟨ao1,ca1,rfl⟩:=own1.form
       rw[jBj]at c1 d1
       have HW:=hid (jAa HW1.out HB.out)
       have hr3:=HRS.out _ HB.out
       have cr3:=jAT hr3
       have fr3:=Lib.frozen_of_heap hr3 0
       by_cases hlt:k<bs.length
       ·have hkI3:(k:Int)<(bs.length:Int):=by omega
        have hk0:(0:Int)≤(k:Int):=by omega
        obtain⟨A,rfl,hA,jAj⟩:=HR.out (by omega)
        obtain⟨x0,x1⟩:=jBv hA jAj hlt HW.out
        have jLF:=hid (fun wx (h:Below w.heap.size w wx)=>(jBv hA jAj hlt h).2)
        have hp1:=HU.out k hlt
        obtain⟨aq,cq,e1⟩:=jBT hp1
        rw[e1]at x1 hp1 jLF
        have hbu:=HK.out _ (jDH hlt)
        have HSN:=hid (fun h:rbE bs S k=0=>(jJB HE.out).trans h)
        have HBK:=hid (HBd.out k hlt HE.out)
        have HSC:=hid (jNb bs S k)
        have q1:=hid (show k+1≤maxLen by unfold maxLen;omega)
        have q2:=hid (show (k+1)*32≤140737488355328 by omega)
        have HRX0:=hid (fun kk=>jAb (w:=wo) (.cells #[.int .u8 kk,.slice none 0 0] 44))
        have HXX0:Hid (∀kk:Int,(wo.alloc (.cells #[.int .u8 kk,.slice none 0 0] 44)).heap[wo.heap.size]? = some (.cells #[.int .u8 kk,.slice none 0 0] 44 (0,0))):=fun kk=>heap_alloc_new wo _
        by_cases h6:(bs.getD k jBp).k=6
        ·have HN:=hid (HSN.out (jTm h6))
         have HQ:=hid ((HSC.out).trans (by rw[jSk h6]))
         clear HSN HBK HSC jAj e1 own1
         generalize bs.getD k jBp=x at *
         obtain⟨xk,xl⟩:=x
         simp only at x0 x1 hp1 hbu h6 jLF
         subst h6
         have hll:=jOr xl
         have p1:=hid (show 0+xl.length≤maxLen by unfold maxLen;omega)
         have p2:=hid (show (0+xl.length)*32≤140737488355328 by omega)
         go_wp2
         obtain⟨wx,hwx⟩:∃wx,wx=wo.alloc (.cells #[.int .u8 6,.slice none 0 0] 44):=⟨_,rfl⟩
         have HRX:=hid (show Below wo.heap.size wo wx by rw[hwx];exact HRX0.out 6)
         have HXX:=hid (show wx.heap[wo.heap.size]? = some (.cells #[.int .u8 6,.slice none 0 0] 44 (0,0)) by rw[hwx];exact HXX0.out 6)
         have HLT:=hid (show wo.heap.size<wx.heap.size from lt_of_block HXX.out)
         have z1:=(jD1 HXX.out).2
         have z2:=HBD.out wx (jAa HB.out HRX.out)
         have z3:=jLF.out wx (jAa HW.out HRX.out)
         have HSrc:=hid (jOc (hp1.step ((jAa HW.out HRX.out).drew:Below w.heap.size w wx.drew)))
         rw[←hwx]
         clear hwx x0 x1 hp1 b0 c1 d1 cr3 fr3 hr3
         refine jCM (fun w'=>w'.cell? ⟨wo.heap.size,1,none⟩=some (.slice none 0 0)∧w'.cell? ⟨w.heap.size,0,none⟩=some (.slice (some A) bs.length cap)∧w'.cell? { block:=(A.add (k*2)).block,off:=(A.add (k*2)).off+1 }=some (.slice aq xl.length cq)) [5,6,7,8] (by kernel_rfl) ⟨z1,z2,z3⟩ (fun hHeld=>?_)
         refine jAK (i:=0) (v:=?va1x0) rfl (by kernel_rfl) (by kernel_rfl) (by kernel_rfl) (by kernel_rfl) (fun _ _ _ h=>h) (Or.inl ⟨by rfl,?hy1x0⟩) (fun _=>hHeld) ?re1x0
         case hy1x0=>(intro w9 _;go_simp;try with_reducible rfl)
         refine jBn (i:=1) 8 (v:=?va2x1) rfl (by kernel_rfl) (by kernel_rfl) (by kernel_rfl) (by kernel_rfl) (fun _ _ _ h=>h) (Or.inl ⟨by rfl,?hy2x1⟩) hHeld ?re2x1
         case hy2x1=>(intro w9 hSw;(try dsimp only at hSw);go_simp;try with_reducible rfl)
         refine jAK (i:=2) (v:=?va3x2) rfl (by kernel_rfl) (by kernel_rfl) (by kernel_rfl) (by kernel_rfl) (fun _ _ _ h=>h) (Or.inl ⟨by rfl,?hy3x2⟩) (fun _=>hHeld) ?re3x2
         case hy3x2=>(intro w9 _;go_simp;try with_reducible rfl)
         refine jBn (i:=3) 5 (v:=?va4x3) rfl (by kernel_rfl) (by kernel_rfl) (by kernel_rfl) (by kernel_rfl) (fun _ _ _ h=>h) (Or.inl ⟨by rfl,?hy4x3⟩) hHeld ?re4x3
         case hy4x3=>(intro w9 hSw;(try dsimp only at hSw);go_simp;try with_reducible rfl)
         refine jAK (i:=4) (v:=?va5x4) rfl (by kernel_rfl) (by kernel_rfl) (by kernel_rfl) (by kernel_rfl) (fun _ _ _ h=>h) (Or.inl ⟨by rfl,?hy5x4⟩) (fun _=>hHeld) ?re5x4
         case hy5x4=>(intro w9 _;go_simp;try with_reducible rfl)
         refine jBn (i:=5) 6 (v:=?va6x5) rfl (by kernel_rfl) (by kernel_rfl) (by kernel_rfl) (by kernel_rfl) (fun _ _ _ h=>h) (Or.inl ⟨by rfl,?hy6x5⟩) hHeld ?re6x5
         case hy6x5=>(intro w9 hSw;(try dsimp only at hSw);go_simp;try with_reducible rfl)
         refine jBn (i:=6) 7 (v:=?va7x6) rfl (by kernel_rfl) (by kernel_rfl) (by kernel_rfl) (by kernel_rfl) (fun _ _ _ h=>h) (Or.inl ⟨by rfl,?hy7x6⟩) hHeld ?re7x6
         case hy7x6=>(intro w9 hSw;(try dsimp only at hSw);go_simp;try with_reducible rfl)
         refine jBn (i:=7) 8 (v:=?va8x7) rfl (by kernel_rfl) (by kernel_rfl) (by kernel_rfl) (by kernel_rfl) (fun _ _ _ h=>h) (Or.inl ⟨by rfl,?hy8x7⟩) hHeld ?re8x7
         case hy8x7=>(intro w9 hSw;(try dsimp only at hSw);go_simp;try with_reducible rfl)
         refine jAY (rs:=[8]) (by kernel_rfl) (by simp) ?_
         refine jAF.cons rfl (fun K hK=>?_) jAF.nil
         refine jMK rfl (.tmp 120) (.tmp 126) 39 rfl wx.drew.heap.size 76 i1 (.agg #[.int .u8 0,.string ⟨#[]⟩,.bool false]) 3 32 Tryz.underlying39 hj hy0 hy1 hy2 rfl (by decide) (.slice none 0 0) 0 [] ?hs8 (World.ownsRow_nil _ _ _ _) aq xl.length cq (cells3 xl) ?hx8 (jG3 xl) HSrc.out.1 HSrc.out.2 (jKz xl) p1.out p2.out (Nat.le_refl _) ?_
         case hs8=>first | (go_simp;done) | simp[Act.eval,Act.put]
         case hx8=>first | (go_simp;done) | simp[Act.eval,Act.put]
         intro v12 w12 jHS jDv
         have qAA:jA7 wx.drew.heap.size v12 xl w12:=by have h:=jHS;rw[Nat.zero_add,List.nil_append]at h;exact h
         obtain⟨ao4,ca4,rfl⟩:=qAA.form
         have qAo:w12.heap[wo.heap.size]? = some (.cells #[.int .u8 6,.slice none 0 0] 44 (0,0)):=(jDv.block wo.heap.size HLT.out (fun e=>by simp[Value.ownBlock]at e)).trans HXX.out
         obtain⟨c12,d12⟩:=jD1 qAo
         have f12:=Lib.frozen_of_heap qAo 1
         obtain⟨w7,hw7⟩:∃w7,w7=w12.setCell ⟨wo.heap.size,1,none⟩ (.slice ao4 xl.length ca4):=⟨_,rfl⟩
         have HX7:=hid (show w7.heap[wo.heap.size]? = some (.cells #[.int .u8 6,.slice ao4 xl.length ca4] 44 (0,0)) by rw[hw7];exact jJ6 qAo (.slice ao4 xl.length ca4))
         have HR7:=hid (show Below wo.heap.size wo w7 by rw[hw7];exact (HRX.out.drew.grown jDv HRX.out.size (fun b e=>by simp[Value.ownBlock]at e)).setCell (p:=⟨wo.heap.size,1,none⟩) (Nat.le_refl _) _)
         have HU7:=hid (show jA7 0 (.slice ao4 xl.length ca4) xl w7 by rw[hw7];exact (qAA.low).kept (jBr _ _ _ _) (.inr (jAI qAA.low qAo (by decide))))
         have HD7:=hid (HDo.out.step HR7.out)
         have HB7:=hid (jAa HB.out HR7.out)
         have HW7:=hid hw7
         clear jHS jDv qAA qAo hw7
         refine hK.out _ _ (fun h=>Bool.noConfusion (h.symm.trans (by kernel_rfl:_=false))) ?_
         clear hK K
         refine jAY (rs:=[9]) (by kernel_rfl) (by simp) ?_
         refine jAF.cons rfl (fun K hK=>?_) jAF.nil
         go_simp
         refine hK.out _ _ (fun h=>Bool.noConfusion (h.symm.trans (by kernel_rfl:_=false))) ?_
         clear hK K
         refine jAY (rs:=[10]) (by kernel_rfl) (by simp) ?_
         refine jAF.cons rfl (fun K hK=>?_) jAF.nil
         go_simp
         refine hK.out _ _ (fun h=>Bool.noConfusion (h.symm.trans (by kernel_rfl:_=false))) ?_
         clear hK K
         refine jEw (by kernel_rfl) ?_ _
         rw[←HW7.out]
         clear c12 d12 f12
         clear z1 z2 z3 hHeld
         obtain⟨v7,d7,own7⟩:=HD7.out
         have c7:=jAT d7
         have f7:=Lib.frozen_of_heap d7 0
         obtain⟨ao7,cap7,rfl⟩:=own7.form
         obtain⟨us7,qAp,ho7,hp7⟩:=own7
         rw[jBj]at ho7 qAp c7 d7
         have HO7:=hid ho7
         have HP7:=hid hp7
         have hd7:=hid d7
         obtain⟨y07,y17⟩:=jD1 HX7.out
         clear ho7 hp7 d7
         go_wp2_with (first
          | (at_builtin;refine wpList_append_own _ rfl _ _ 22 rfl w1.heap.size 44 i0 _ 2 32 Tryz.underlying22 hi hz0 hz1 hz2 rfl (by decide) _ _ _ rfl (HO7.out.alloc (.cells #[.int .u8 6,.slice ao4 xl.length ca4] 44)) ⟨w7.heap.size,0,none⟩ 1 1 [.int .u8 6,.slice ao4 xl.length ca4] rfl rfl (jBV _ _ _ _) (jPg _ _ _ _) q1.out q2.out (Nat.le_trans HB7.out.size (jAb (w:=w7) (.cells #[.int .u8 6,.slice ao4 xl.length ca4] 44)).size) ?_;intro v6 w6 jA5 jAv jC8;obtain⟨ao6,ca6,rfl⟩:=jDI jA5
             obtain⟨hd6,jNu⟩:=jDd.grow (x:=⟨6,xl⟩) ((Below.heap_alloc _ (.cells #[.int .u8 6,.slice ao4 xl.length ca4] 44) _ (lt_of_block hd7.out)).trans hd7.out) (by rw[jBj];exact qAp) (by rw[jBj];exact HO7.out.alloc (.cells #[.int .u8 6,.slice ao4 xl.length ca4] 44)) (fun i hi=>(HP7.out i hi).step (jAb _)) (HU7.out.step (jAb _)) jAv (by rw[jBj];exact jA5)
             have c6:=jAT hd6;have f6:=Lib.frozen_of_heap hd6 0;have HD6:=hid jNu
             have HB6:=hid (((HB7.out.alloc HB7.out.size (.cells #[.int .u8 6,.slice ao4 xl.length ca4] 44)).grown jAv (Nat.le_trans HB7.out.size (jAb (w:=w7) (.cells #[.int .u8 6,.slice ao4 xl.length ca4] 44)).size) (fun b e=>(HO7.out.lt b e).1)).setCell (p:=⟨w1.heap.size,0,none⟩) (Nat.le_refl _) (.slice ao6 (k+1) ca6))
             clear jA5 jAv jC8 jNu hd6))
         go_roundw
         case rel=>exact⟨k+1,hlt,by go_num,HN.out,by show jDd _ _ _ _;rw[HQ.out];exact HD6.out,HB6.out⟩
         case measure=>simp[RowKit.intOf];omega
        ·have h6b:((bs.getD k jBp).k == 6)=false:=by simpa using h6
         have hE:=jPo (S:=S) h6
         have hL:=jOU (S:=S) h6
         rw[hE]at HSN HBK
         rw[hL]at HSC
         obtain⟨few1,few2⟩:=H3.out.parts k
         have hbp:=jGy 2500 few2
         have few3:∀i,i<(jAe S k).length→bulk ((jAe S k).getD i [])≤100000:=fun i hi=>by
          have:=few2 ((jAe S k).getD i []) (by rw[List.getD_eq_getElem?_getD,List.getElem?_eq_getElem hi];exact List.getElem_mem hi)
          omega
         have cG0:=fun v wy (h:jDA wy v (jAe S k))=>jNH (jAe S k) v wy h few1 (by omega) few3
         have cWh:=fun (u:Value) wy (h:jA7 0 u (jCb (jAe S k)) wy)=>jHl _ u wy h.at
         have qAq:=hid (show jAe (S.take S.length) k=jAe S k by rw[List.take_length])
         clear jAj e1 hE hL h6 few1 few2 few3 hbp own1 hp1 d1 c1 jLF
         generalize bs.getD k jBp=x at *
         obtain⟨xk,xl⟩:=x
         simp only at x0 x1 h6b hbu HSC
         go_wp2
         obtain⟨wq,hwq⟩:∃wq,wq=wo.alloc (.cells #[.int .u8 xk,.slice none 0 0] 44):=⟨_,rfl⟩
         have HRQ:=hid (show Below wo.heap.size wo wq by rw[hwq];exact HRX0.out xk)
         have HXQ:=hid (show wq.heap[wo.heap.size]? = some (.cells #[.int .u8 xk,.slice none 0 0] 44 (0,0)) by rw[hwq];exact HXX0.out xk)
         have HWQ:=hid (jAa HW.out HRQ.out)
         have HBQ:=hid (jAa HB.out HRQ.out)
         have cG:=fun v wy (h:PRow wq.heap.size w v (jAe S k) wy) (hb:Below wq.heap.size wq wy)=>cG0 v wy (h.at (jAa HWQ.out hb))
         rw[←hwq]
         clear hwq cG0 x0 x1 b0 cr3 fr3 hr3
         go_loopw [15,16] (fun v i wr=>∃j:Nat,j≤S.length∧i=.int .i64 j∧Hid (PRow wq.heap.size w v (jAe (S.take j) k) wr)∧Hid (Below wq.heap.size wq wr)) (fun _ i _=>S.length-(RowKit.intOf i).toNat)
         case atStart=>exact⟨0,Nat.zero_le _,rfl,PRow.nil _ _ _,Below.refl _ _⟩
         case round =>
          obtain⟨j,hj,rfl,HQj,HBj⟩:=hrel
          obtain⟨ao7,ca7,rfl⟩:=HQj.out.form
          by_cases hjl:j<S.length
          ·have hjI:(j:Int)<(S.length:Int):=by omega
           have hj0:(0:Int)≤(j:Int):=by omega
           obtain⟨A1,rfl,hA1,jEG⟩:=HSR.out (by omega)
           obtain⟨x0,x1⟩:=jCS hA1 jEG hjl (jAa HWQ.out HBj.out)
           have hp2:=HSU.out j hjl
           obtain⟨aq2,cq2,e2⟩:=jBT hp2
           rw[e2]at x1 hp2
           have HPS:=hid (jKo hjl k)
           have hpl:=jJk (S.take j) k
           rw[List.length_take]at hpl
           clear jEG e2
           generalize S.getD j jCf=x at *
           obtain⟨xb2,xl2⟩:=x
           simp only at x0 x1 hp2
           by_cases hxb:xb2=(k:Int)
           ·subst hxb
            have HQ:=hid (show jAe (S.take (j+1)) k=jAe (S.take j) k++[xl2] by rw[HPS.out,if_pos rfl])
            obtain⟨us,hul,jAN,hup⟩:=HQj.out
            have HUP:=hid hup
            have HP2:=hid hp2
            clear HPS hup hp2 HQj
            generalize jAe (S.take j) k=Ps at *
            have q5:=hid (show Ps.length+1≤maxLen by unfold maxLen;omega)
            have q6:=hid (show (Ps.length+1)*24≤140737488355328 by omega)
            have HNW:=hid (jBH wr (.slice aq2 xl2.length cq2) 39)
            have HON:Hid (∀u ∈ ([.slice aq2 xl2.length cq2]:List Value),u.oneCell'=true):=by intro u hu;simp at hu;subst hu;rfl
            have HSZ:=hid (show wq.heap.size≤(wr.alloc (.cells #[.slice aq2 xl2.length cq2] 39)).heap.size from Nat.le_trans HBj.out.size (by simp))
            have HO7:=hid (jAN.alloc (.cells #[.slice aq2 xl2.length cq2] 39))
            clear jAN
            go_wp2_with (first
             | (at_builtin;refine wpList_append_own _ rfl _ _ 47 rfl wq.heap.size 39 i2 _ 1 24 Tryz.underlying47 hk2 hx0 hx1 hx2 rfl (by decide) _ _ _ rfl HO7.out ⟨wr.heap.size,0,none⟩ 1 1 [.slice aq2 xl2.length cq2] rfl rfl HNW.out HON.out q5.out q6.out HSZ.out ?_;intro v6 w6 jA5 jAv jC8
                have HP6:=hid (PRow.more hul HUP.out HP2.out jA5)
                have HB6:=hid ((HBj.out.alloc HBj.out.size (.cells #[.slice aq2 xl2.length cq2] 39)).grown jAv HSZ.out (fun b e=>(HO7.out.lt b e).1))
                clear jA5 jAv jC8))
            go_roundw
            case rel=>exact⟨j+1,hjl,by go_num,by show PRow _ _ _ _ _;rw[HQ.out];exact HP6.out,HB6.out⟩
            case measure=>simp[RowKit.intOf];omega
           ·have HQ:=hid (show jAe (S.take (j+1)) k=jAe (S.take j) k by rw[HPS.out,if_neg hxb])
            have hxb2:(xb2 == (k:Int))=false:=by simpa using hxb
            have HQ7:Hid (PRow wq.heap.size w (.slice ao7 (jAe (S.take j) k).length ca7) (jAe (S.take (j+1)) k) wr):=by show PRow _ _ _ _ _;rw[HQ.out];exact HQj.out
            clear HPS hxb HQj HQ
            generalize (jAe (S.take j) k).length=nl at *
            go_wp2
            go_roundw
            case rel=>exact⟨j+1,hjl,by go_num,HQ7.out,HBj.out⟩
            case measure=>simp[RowKit.intOf];omega
          ·obtain rfl:j=S.length:=by omega
           have hjI:¬(S.length:Int)<(S.length:Int):=by omega
           rw[qAq.out]at HQj ⊢
           clear qAq hj hjl
           by_cases hG:jCA (jAe S k)=0
           ·rw[hG]at cG
            by_cases hWb:jC9 (jCb (jAe S k))=true
            ·have HN:=hid (HSN.out (by rw[if_neg (by simp[hG]),if_neg (by simp[hWb])]))
             rw[hWb]at cWh
             clear HSN HBK hG hWb
             generalize jCb (jAe S k)=G at *
             generalize (jAe S k).length=nl at *
             go_wp2_with (first
              | (go_at_call 47;(with_reducible refine (cG _ _ HQj.out HBj.out).mono ?_);rintro e w4 ⟨⟨u4,rfl,hu4⟩,hb4⟩;obtain⟨ao4,ca4,rfl⟩:=hu4.form;have HU4:=hid hu4;have HQ4:=hid (jAa HBj.out hb4);have hr4:=HRS.out _ (jAa HBQ.out HQ4.out);have HR4:=hid hr4;have cr4:=jAT hr4;have fr4:=Lib.frozen_of_heap hr4 0;clear hb4 hu4 hr4)
              | (go_at_call 48;(with_reducible refine (cWh _ _ HU4.out).mono ?_);rintro e w5 ⟨rfl,hw5⟩;have hb5:=jCG hw5;have HQ5:=hid (jAa HQ4.out hb5);have HU5:=hid (HU4.out.step hb5);clear cr4 fr4;have hr5:=HRS.out _ (jAa HBQ.out HQ5.out);have HR5:=hid hr5;have cr5:=jAT hr5;have fr5:=Lib.frozen_of_heap hr5 0;have hx5:=jF3 HQ5.out HXQ.out;have HX5:=hid hx5;obtain⟨x05,x15⟩:=jD1 hx5;have fx5:=Lib.frozen_of_heap hx5 1;clear hb5 hr5 hw5 hx5;have HX7:=hid (jJ6 HX5.out (.slice ao4 G.length ca4));have HR7:=hid ((jAa HRQ.out HQ5.out).setCell (p:=⟨wo.heap.size,1,none⟩) (Nat.le_refl _) (.slice ao4 G.length ca4));have HU7:=hid (show jA7 0 (.slice ao4 G.length ca4) G (w5.setCell ⟨wo.heap.size,1,none⟩ (.slice ao4 G.length ca4)) from HU5.out.kept (jBr _ wo.heap.size 1 (.slice ao4 G.length ca4)) (.inr (jAI HU5.out HX5.out (by decide))));have HD7:=hid (HDo.out.step HR7.out);have HB7:=hid (jAa HB.out HR7.out);have qA9:=jBV (w5.setCell ⟨wo.heap.size,1,none⟩ (.slice ao4 G.length ca4)) (.int .u8 xk) (.slice ao4 G.length ca4) 44;rw[jHk]at qA9;have HNW7:=hid qA9;clear qA9;obtain⟨v7,d7,own7⟩:=HD7.out;have c7:=jAT d7;have f7:=Lib.frozen_of_heap d7 0;obtain⟨ao7,cap7,rfl⟩:=own7.form;obtain⟨us7,qAp,ho7,hp7⟩:=own7;rw[jBj]at ho7 qAp c7 d7;have HO7:=hid ho7;have HP7:=hid hp7;have hd7:=hid d7;obtain⟨y07,y17⟩:=jD1 HX7.out;clear ho7 hp7 d7)
              | (at_builtin;refine wpList_append_own _ rfl _ _ 22 rfl w1.heap.size 44 i0 _ 2 32 Tryz.underlying22 hi hz0 hz1 hz2 rfl (by decide) _ _ _ rfl (HO7.out.alloc (.cells #[.int .u8 xk,.slice ao4 G.length ca4] 44)) ⟨w5.heap.size,0,none⟩ 1 1 [.int .u8 xk,.slice ao4 G.length ca4] rfl rfl HNW7.out (jPg _ _ _ _) q1.out q2.out (Nat.le_trans HB7.out.size (jAb (w:=(w5.setCell ⟨wo.heap.size,1,none⟩ (.slice ao4 G.length ca4))) (.cells #[.int .u8 xk,.slice ao4 G.length ca4] 44)).size) ?_;intro v6 w6 jA5 jAv jC8;obtain⟨ao6,ca6,rfl⟩:=jDI jA5
                 obtain⟨hd6,jNu⟩:=jDd.grow (x:=⟨xk,G⟩) ((Below.heap_alloc _ (.cells #[.int .u8 xk,.slice ao4 G.length ca4] 44) _ (lt_of_block hd7.out)).trans hd7.out) (by rw[jBj];exact qAp) (by rw[jBj];exact HO7.out.alloc (.cells #[.int .u8 xk,.slice ao4 G.length ca4] 44)) (fun i hi=>(HP7.out i hi).step (jAb _)) (HU7.out.step (jAb _)) jAv (by rw[jBj];exact jA5)
                 have c6:=jAT hd6;have f6:=Lib.frozen_of_heap hd6 0;have HD6:=hid jNu
                 have HB6:=hid (((HB7.out.alloc HB7.out.size (.cells #[.int .u8 xk,.slice ao4 G.length ca4] 44)).grown jAv (Nat.le_trans HB7.out.size (jAb (w:=(w5.setCell ⟨wo.heap.size,1,none⟩ (.slice ao4 G.length ca4))) (.cells #[.int .u8 xk,.slice ao4 G.length ca4] 44)).size) (fun b e=>(HO7.out.lt b e).1)).setCell (p:=⟨w1.heap.size,0,none⟩) (Nat.le_refl _) (.slice ao6 (k+1) ca6))
                 clear jA5 jAv jC8 jNu hd6))
             go_roundw
             case rel=>exact⟨k+1,hlt,by go_num,HN.out,by show jDd _ _ _ _;rw[HSC.out];exact HD6.out,HB6.out⟩
             case measure=>simp[RowKit.intOf];omega
            ·have jYU:jC9 (jCb (jAe S k))=false:=by simpa using hWb
             have HX9:=hid (HBK.out)
             rw[if_neg (by simp[hG]),if_pos jYU]at HX9
             rw[jYU]at cWh
             clear HSN HBK hG hWb jYU
             generalize jCb (jAe S k)=G at *
             generalize (jAe S k).length=nl at *
             go_wp2_with (first
              | (go_at_call 47;(with_reducible refine (cG _ _ HQj.out HBj.out).mono ?_);rintro e w4 ⟨⟨u4,rfl,hu4⟩,hb4⟩;obtain⟨ao4,ca4,rfl⟩:=hu4.form;have HU4:=hid hu4;have HQ4:=hid (jAa HBj.out hb4);have hr4:=HRS.out _ (jAa HBQ.out HQ4.out);have HR4:=hid hr4;have cr4:=jAT hr4;have fr4:=Lib.frozen_of_heap hr4 0;clear hb4 hu4 hr4)
              | (go_at_call 48;(with_reducible refine (cWh _ _ HU4.out).mono ?_);rintro e w5 ⟨rfl,hw5⟩;have hb5:=jCG hw5;have HQ5:=hid (jAa HQ4.out hb5);have HU5:=hid (HU4.out.step hb5);clear cr4 fr4;have hr5:=HRS.out _ (jAa HBQ.out HQ5.out);have HR5:=hid hr5;have cr5:=jAT hr5;have fr5:=Lib.frozen_of_heap hr5 0;have hx5:=jF3 HQ5.out HXQ.out;have HX5:=hid hx5;obtain⟨x05,x15⟩:=jD1 hx5;have fx5:=Lib.frozen_of_heap hx5 1;clear hb5 hr5 hw5 hx5))
             refine bodyPost_ret (jBk (xs:=[.slice none 0 0]) rfl rfl ag2 zg2 (jB0 (by rw[Lib.cell_of_heap (jBm HR5.out (.slice none 0 0))];rfl))) rfl ?_
             exact⟨HX9.out (by decide) _,(jAa HWQ.out HQ5.out).setCell (p:=⟨w.heap.size+1,0,none⟩) (by show _≤w.heap.size+1;omega) _⟩
           ·have HX9:=hid (HBK.out)
            rw[if_pos hG]at HX9
            generalize jCb (jAe S k)=G at *
            generalize jCA (jAe S k)=Z at *
            generalize (jAe S k).length=nl at *
            have HX8:=hid (HX9.out hG)
            have hZ2:(Z == 0)=false:=by simpa using hG
            clear HSN HBK hG HX9
            go_wp2_with (first
             | (go_at_call 47;(with_reducible refine (cG _ _ HQj.out HBj.out).mono ?_);rintro e w4 ⟨⟨u4,rfl,hu4⟩,hb4⟩;obtain⟨ao4,ca4,rfl⟩:=hu4.form;have HU4:=hid hu4;have HQ4:=hid (jAa HBj.out hb4);have hr4:=HRS.out _ (jAa HBQ.out HQ4.out);have HR4:=hid hr4;have cr4:=jAT hr4;have fr4:=Lib.frozen_of_heap hr4 0;clear hb4 hu4 hr4))
            refine bodyPost_ret (jBk (xs:=[.slice none 0 0]) rfl rfl ag2 zg2 (jB0 (by rw[Lib.cell_of_heap (jBm HR4.out (.slice none 0 0))];rfl))) rfl ?_
            exact⟨HX8.out _,(jAa HWQ.out HQ4.out).setCell (p:=⟨w.heap.size+1,0,none⟩) (by show _≤w.heap.size+1;omega) _⟩
       ·obtain rfl:k=bs.length:=by omega
        have hkI3:¬(bs.length:Int)<(bs.length:Int):=by omega
        have HX9:=hid (fun w' h=>HG.out HE.out (.slice ao1 bs.length ca1) w' h)
        have HO9:=hid own1
        have HBZ:=hid HW.out
        have HR3:=hid hr3
        rw[jBj]at HO9
        clear own1 HG HBd d1 hr3
        go_wp2
        refine bodyPost_ret (jBk (xs:=[.slice ao1 bs.length ca1]) rfl rfl ag2 zg2 (jB0 (by rw[Lib.cell_of_heap (jBm HR3.out (.slice ao1 bs.length ca1))];rfl))) rfl ?_
        exact⟨HX9.out _ (HO9.out.kept (jBr _ _ _ _) HR3.out (by decide) (by decide)).at,HBZ.out.setCell (p:=⟨w.heap.size+1,0,none⟩) (by show _≤w.heap.size+1;omega) _⟩
 ·have HX9:=hid (fun w'=>jDT.doc (S:=S) hD w')
  generalize jFz bs=Z at *
  have hZ2:(Z == 0)=false:=by simpa using hD
  clear hD
  go_enter Tryz.func15,Tryz.ntmps15
  go_wp2_with (first
   | (go_at_call 40;(with_reducible refine (cD _ HB0.out).mono ?_);rintro e w1 ⟨rfl,hb1⟩;have HB1:=hid (jB1 HB0.out hb1);obtain⟨b1,hr1,_,_⟩:=dbox2 HB1.out;have HR1:=hid hr1;have cr1:=jAT hr1;have fr1:=Lib.frozen_of_heap hr1 0;clear hb1 hr1))
  refine bodyPost_ret (jBk (xs:=[.slice none 0 0]) rfl rfl ag2 zg2 (jB0 (by rw[Lib.cell_of_heap (jBm HR1.out (.slice none 0 0))];rfl))) rfl ?_
  exact⟨HX9.out _,(dbox2 HB1.out).2.2.1.setCell (p:=⟨w.heap.size+1,0,none⟩) (by show _≤w.heap.size+1;omega) _⟩
end Go.Proofs.YtldapapdolkiaaaGreatDoor
namespace Go.Proofs.YtldapapdolkiaaaGreatDoor
set_option maxHeartbeats 64000000
open Go Go.Eng Go.ChangeShapes Go.WideShapes Go.ChangeAt Go.ChangeMaps Go.RowKit Go.Lib
set_option maxRecDepth 100000
theorem jSZ {W:World}{base:Nat}{v u:Value}(hv:Value.okWide Tryz.prog W .any base 26 v)(h:v.cells.toList=[u]):v=u:=by
 obtain⟨a0,len0,cap0,rfl⟩:=okWide_slice Tryz.underlying26 hv
 simpa [Value.cells] using h
theorem jNi (bs:List Bk)(R:List Rl)(S:List Sg)(v vR vS:Value)(w:World)(hv:jDr w v bs)(hr:jB5 w vR R)(hS:jEy w vS S)(hB:Came bs)
 (hRz:∀x ∈ R,x.b.size≤140737488355328∧x.a.size≤140737488355328) (hRl:R.length≤140737488355328) (hG:jZp S) (hT:Tabs w) (hC:jGn jH4 w)
 (hR:∀w',Below w.heap.size w w'→Calls Tryz.prog 10 #[] w' fun e w''=>e=.returned (.bool true)∧Below w'.heap.size w' w'') :
 Calls Tryz.prog 3 #[.agg #[v],vR,vS] w fun e w'=>e=.returned (.bool true)∧Below w.heap.size w w':=by
 have ag:=Tryz.isAgg24
 have zg:=Tryz.sizeOf24
 have hg:5≤w.heap.size:=hT.2.2
 have hsz:∀b ∈ bs,∀x ∈ b.l,x.s.size≤maxLen:=fun b hb x hx=>by have:=(hB.sizes b hb).1 x hx;unfold maxLen;omega
 obtain⟨us0,_,⟨p,cap,rfl,_⟩,_⟩:=id hv
 obtain⟨pR,cR0,rfl,_⟩:=id hr
 obtain⟨us1,_,⟨pS,cS0,rfl,_⟩,_⟩:=id hS
 have HB0:Hid (Below (w.heap.size+1) (w.alloc (.cells #[.slice p bs.length cap] 24)) (w.alloc (.cells #[.slice p bs.length cap] 24))):=Below.refl _ _
 have cV:=fun wr (h:Below (w.heap.size+1) (w.alloc (.cells #[.slice p bs.length cap] 24)) wr)=>jVd bs _ wr (hv.step (jAm h).2) hB.sizes hB.len
 have cM:=fun wr (h:Below (w.heap.size+1) (w.alloc (.cells #[.slice p bs.length cap] 24)) wr)=>jVj S _ wr (hS.step (jAm h).2) hG.sizes hG.len
 have cS:=fun wr (h:Below (w.heap.size+1) (w.alloc (.cells #[.slice p bs.length cap] 24)) wr)=>jQ8 R _ wr (hr.step (jAm h).2) hRz hRl
 have cR:=fun wr (h:Below (w.heap.size+1) (w.alloc (.cells #[.slice p bs.length cap] 24)) wr)=>hR wr (jAm h).2
 have cE:=fun (a b:Value) wr (ha:jEy wr a (sgL bs R)) (hb:jEy wr b (sgL bs R))=>jJI _ _ a b wr ha hb
 rw[jTb]at cE
 have cZ:=fun (a b:Value) wr (ha:jDr wr a (rsL bs S)) (hb:jDr wr b (rsL bs S))=>jOH _ _ a b wr ha hb
 rw[jTW]at cZ
 by_cases h1:600<jKZ R (min 100 R.length)
 ·have HS:=hid (show decide (600<jKZ R (min 100 R.length))=true by simpa using h1)
  clear hv hr hS hB hRz hRl hG hT hC hR hsz cE cZ cM
  go_enter Tryz.func3,Tryz.ntmps3
  go_wp2_with (first
   | (go_at_call 7;(with_reducible refine (cV _ HB0.out).mono ?_);rintro e w2 ⟨⟨b,rfl,hb⟩,hb2⟩;have HB2:=hid (jAC HB0.out hb2);have b2:=(jAm HB2.out).1;have HSm:=hid hb;clear hb2 hb;cases b)
   | (go_at_call 8;(with_reducible refine (cS _ HB2.out).mono ?_);rintro e w3 ⟨he,hb3⟩;unfold jT9 at he;rw[HS.out]at he;subst he;have HB3:=hid (jAC HB2.out hb3);have b3:=(jAm HB3.out).1;clear hb3)
   | (go_at_call 10;(with_reducible refine (cR _ HB3.out).mono ?_);rintro e w99 ⟨rfl,jQj⟩;have jY8:=hid (jAC HB3.out jQj);clear jQj)
   | (go_at_call 10;(with_reducible refine (cR _ HB2.out).mono ?_);rintro e w99 ⟨rfl,jQj⟩;have jY8:=hid (jAC HB2.out jQj);clear jQj))
  all_goals
   go_ret
   exact⟨rfl,(jAm jY8.out).2⟩
 ·have HS:=hid (show decide (600<jKZ R (min 100 R.length))=false by simpa using h1)
  have hZ:SzR R:=jXi (by omega)
  have cA:=fun wr (h:Below (w.heap.size+1) (w.alloc (.cells #[.slice p bs.length cap] 24)) wr) (hs:Small bs)=>jLK bs R _ _ wr (hv.step (jAm h).2) (hr.step (jAm h).2) hZ hB.kinds hsz hs.bulk (hT.step (jAm h).2) (hC.below (jAm h).2 (by omega))
  have cB:=fun wr (h:Below (w.heap.size+1) (w.alloc (.cells #[.slice p bs.length cap] 24)) wr) (hs:Small bs)=>jIq bs R _ _ wr (hv.step (jAm h).2) (hr.step (jAm h).2) hZ hs.bulk
  have cX:=fun wr (h:Below (w.heap.size+1) (w.alloc (.cells #[.slice p bs.length cap] 24)) wr) (hs:Small bs) (hf:Few3 S)=>jOD bs S _ _ wr (hv.step (jAm h).2) (hS.step (jAm h).2) hB.kinds hsz hs.bulk hf (hT.step (jAm h).2)
  have cY:=fun wr (h:Below (w.heap.size+1) (w.alloc (.cells #[.slice p bs.length cap] 24)) wr) (hs:Small bs) (hf:Few3 S)=>jJO bs S _ _ wr (hv.step (jAm h).2) (hS.step (jAm h).2) hs.bulk hf
  clear hv hr hS hB hRz hRl hG hT hC hR hsz
  unfold jDS at cA cB
  unfold jDT at cX cY
  go_enter Tryz.func3,Tryz.ntmps3
  go_wp2_with (first
   | (go_at_call 7;(with_reducible refine (cV _ HB0.out).mono ?_);rintro e w2 ⟨⟨b,rfl,hb⟩,hb2⟩;have HB2:=hid (jAC HB0.out hb2);have b2:=(jAm HB2.out).1;have HSm:=hid hb;clear hb2 hb;cases b)
   | (go_at_call 8;(with_reducible refine (cS _ HB2.out).mono ?_);rintro e w3 ⟨he,hb3⟩;unfold jT9 at he;rw[HS.out]at he;subst he;have HB3:=hid (jAC HB2.out hb3);have b3:=(jAm HB3.out).1;clear hb3)
   | (go_at_call 9;(with_reducible refine (cM _ HB3.out).mono ?_);rintro e w4 ⟨⟨b,rfl,hb⟩,hb4⟩;have HB4:=hid (jAC HB3.out hb4);have b4:=(jAm HB4.out).1;have HFw:=hid hb;clear hb4 hb;cases b)
   | (go_at_call 11;(with_reducible refine (cA _ HB4.out (HSm.out (by first | exact rfl | exact trivial))).mono ?_);rintro e w5 ⟨⟨r5,rfl,hr5⟩,hb5⟩;obtain⟨us5,_,⟨p5,c5,rfl,_⟩,_⟩:=id hr5;have HR5:=hid hr5;have HB5:=hid (jAC HB4.out hb5);have b5:=(jAm HB5.out).1;clear hb5 hr5)
   | (go_at_call 12;(with_reducible refine (cB _ HB5.out (HSm.out (by first | exact rfl | exact trivial))).mono ?_);rintro e w6 ⟨⟨r6,rfl,hr6⟩,hb6⟩;obtain⟨us6,_,⟨p6,c6,rfl,_⟩,_⟩:=id hr6;have HR6:=hid hr6;have HQ5:=hid (HR5.out.step hb6);have HB6:=hid (jAC HB5.out hb6);have b6:=(jAm HB6.out).1;clear hb6 hr6)
   | (go_at_call 13;(with_reducible refine (cE _ _ _ HQ5.out HR6.out).mono ?_);rintro e w7 ⟨rfl,hb7⟩;have HB7:=hid (jAC HB6.out hb7);have b7:=(jAm HB7.out).1;clear hb7)
   | (go_at_call 14;(with_reducible refine (cX _ HB7.out (HSm.out (by first | exact rfl | exact trivial)) (HFw.out (by first | exact rfl | exact trivial))).mono ?_);rintro e w8 ⟨⟨r8,rfl,hr8⟩,hb8⟩;obtain⟨us8,_,⟨p8,c8,rfl,_⟩,_⟩:=id hr8;have HR8:=hid hr8;have HB8:=hid (jAC HB7.out hb8);have HB9:=hid (jAC HB8.out (jAb (w:=w8) (.cells #[.slice p8 (rsL bs S).length c8] 24)));have b9:=(jAm HB9.out).1;have HQ8:=hid (HR8.out.step (jAb (w:=w8) (.cells #[.slice p8 (rsL bs S).length c8] 24)));have HD8:=hid (jGg w8 (.slice p8 (rsL bs S).length c8) 24);clear hb8 hr8)
   | (go_at_call 15;(with_reducible refine (cY _ HB9.out (HSm.out (by first | exact rfl | exact trivial)) (HFw.out (by first | exact rfl | exact trivial))).mono ?_);rintro e w10 ⟨⟨r10,rfl,qAk⟩,hb10⟩;obtain⟨us10,_,⟨p10,c10,rfl,_⟩,_⟩:=id qAk;have HR10:=hid (qAk.step (jAb (w:=w10) (.cells #[.slice p10 (rsL bs S).length c10] 24)));have hz:=jAa hb10 (jAb (w:=w10) (.cells #[.slice p10 (rsL bs S).length c10] 24));have HB10:=hid (jAC HB9.out hz);have HQ10:=hid (HQ8.out.step hz);have x11:=(HD8.out.step hz).1;clear hb10 qAk hz)
   | (go_at_call 16;(with_reducible refine (cZ _ _ _ HQ10.out HR10.out).mono ?_);rintro e w11 ⟨rfl,hb11⟩;have HB11:=hid (jAC HB10.out hb11);clear hb11)
   | (go_at_call 10;(with_reducible refine (cR _ HB11.out).mono ?_);rintro e w99 ⟨rfl,jQj⟩;have jY8:=hid (jAC HB11.out jQj);clear jQj)
   | (go_at_call 10;(with_reducible refine (cR _ HB4.out).mono ?_);rintro e w99 ⟨rfl,jQj⟩;have jY8:=hid (jAC HB4.out jQj);clear jQj)
   | (go_at_call 10;(with_reducible refine (cR _ HB2.out).mono ?_);rintro e w99 ⟨rfl,jQj⟩;have jY8:=hid (jAC HB2.out jQj);clear jQj))
  all_goals
   go_ret
   exact⟨rfl,(jAm jY8.out).2⟩
end Go.Proofs.YtldapapdolkiaaaGreatDoor
