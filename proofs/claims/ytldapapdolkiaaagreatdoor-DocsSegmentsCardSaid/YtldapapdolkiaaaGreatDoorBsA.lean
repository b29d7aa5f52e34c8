/- The specification's patterns and units in memory; how many units a pattern takes. The specification's questions about a unit. The specification's questions about a unit: inWord, mark. The specification's units in memory; its edge. The specification's test of one unit. -/
import Derived.Test.YtldapapdolkiaaaGreatDoorBrE
namespace Go.Proofs.YtldapapdolkiaaaGreatDoor
set_option maxHeartbeats 64000000
open Go Go.RowKit Go.Lib
set_option maxRecDepth 100000
def fF (X:List Ft)(i j:Nat):Value:=if j=0 then .bool (X.getD i jFm).c else .int .i32 ((X.getD i jFm).r:Int)
def jRi (w:World)(v:Value)(X:List Ft):Prop:=jAO w.heap.size w v X.length 2 (fF X)
theorem jRi.step {w w':World}{v:Value}{X:List Ft}(hb:Below w.heap.size w w')(h:jRi w v X):jRi w' v X:=(jAO.below hb h).mono hb.size
theorem jRi.form {w:World}{v:Value}{X:List Ft}(h:jRi w v X):∃p cap,v=.slice p X.length cap∧X.length≤cap∧cap≤maxLen:=by
 obtain⟨p,cap,e,h1,h2,_⟩:=h
 exact⟨p,cap,e,h1,h2⟩
theorem jRi.get {w:World}{p:Option Addr}{n cap:Nat}{X:List Ft}(h:jRi w (.slice p n cap) X){i:Nat}(hi:i<X.length):∃A,p=some A∧w.cell? (A.add (i*2))=some (.bool (X.getD i jFm).c)∧w.cell? { block:=(A.add (i*2)).block,off:=(A.add (i*2)).off+1 }=some (.int .i32 ((X.getD i jFm).r:Int)):=by
 obtain⟨p',cap',e,_,_,h3⟩:=h
 injection e with e1 e2 e3
 subst e1
 obtain⟨A,rfl,hA,hc⟩:=h3 (by omega)
 exact⟨A,rfl,hc i 0 hi (by omega),jBq (by omega) (hc i 1 hi (by omega))⟩
theorem jT5 (X:List Ft)(v:Value)(w:World)(hX:jRi w v X)(hl:X.length≤100000):Calls Tryz.prog 150 #[v] w fun e w'=>e=.returned (.int .i64 (ftW X:Nat))∧w'=w:=by
 have HX:=hid hX
 obtain⟨p,cap,rfl,hlc,hc⟩:=hX.form
 unfold maxLen at hc
 clear hX
 go_enter Tryz.func150,Tryz.ntmps150
 go_wp2
 go_loopw [3,4] (fun v3 v4 wr=>∃k m:Nat,v4=.int .i64 k∧v3=.int .i64 m∧k≤X.length∧m≤k∧Hid (ftW X=m+ftW (X.drop k))∧wr=w) (fun _ v4 _=>X.length-(RowKit.intOf v4).toNat)
 case atStart=>exact⟨0,0,rfl,rfl,Nat.zero_le _,Nat.le_refl _,(Nat.zero_add _).symm,rfl⟩
 case round =>
  obtain⟨k,m,rfl,rfl,hk,hmk,HW,rfl⟩:=hrel
  by_cases hlt:k<X.length
  ·have hki:(k:Int)<(X.length:Int):=by omega
   have hk0:(0:Int)≤(k:Int):=by omega
   obtain⟨A,rfl,x0,x1⟩:=HX.out.get hlt
   have hwd:=jP7 hlt
   have hq:IntKind.i64.wrap ((m:Int)+1)=((m+1:Nat):Int):=by rw[IntKind.wrap_i64];omega
   have hq2:IntKind.i64.wrap ((k:Int)+1)=((k+1:Nat):Int):=by rw[IntKind.wrap_i64];omega
   generalize X.getD k jFm=x at *
   obtain⟨c,r⟩:=x
   dsimp only at x0 x1
   cases c
   ·have HW2:=hid (show ftW X=m+1+ftW (X.drop (k+1)) by rw[HW.out,hwd];simp[jGR];omega)
    clear hwd HW
    go_wp2
    go_roundw
    case rel=>exact⟨k+1,m+1,by go_num,by go_num,by omega,by omega,HW2.out,trivial⟩
    case measure=>simp[RowKit.intOf];omega
   ·by_cases h98:r=98
    ·subst h98
     have HW2:=hid (show ftW X=m+ftW (X.drop (k+1)) by rw[HW.out,hwd];simp[jGR])
     clear hwd HW
     go_wp2
     go_roundw
     case rel=>exact⟨k+1,m,by go_num,by go_num,by omega,by omega,HW2.out,trivial⟩
     case measure=>simp[RowKit.intOf];omega
    ·have h98I:¬(r:Int)=98:=by omega
     have HW2:=hid (show ftW X=m+1+ftW (X.drop (k+1)) by rw[HW.out,hwd];simp[jGR,h98];omega)
     clear hwd HW
     go_wp2
     go_roundw
     case rel=>exact⟨k+1,m+1,by go_num,by go_num,by omega,by omega,HW2.out,trivial⟩
     case measure=>simp[RowKit.intOf];omega
  ·have hki:¬(k:Int)<(X.length:Int):=by omega
   have HE:=hid (show ftW X=m by rw[HW.out,List.drop_of_length_le (by omega)];rfl)
   go_wp2
   go_ret
   exact⟨by rw[HE.out];rfl,rfl⟩
end Go.Proofs.YtldapapdolkiaaaGreatDoor
namespace Go.Proofs.YtldapapdolkiaaaGreatDoor
set_option maxHeartbeats 64000000
open Go Go.RowKit Go.Lib
set_option maxRecDepth 100000
def suV (u:Un):Value:=.agg #[.int .i32 (u.r:Int),.bool u.h]
theorem jFI (u:Un)(w:World):Calls Tryz.prog 160 #[suV u] w fun e w'=>e=.returned (.bool (jPb u))∧Below w.heap.size w w':=by
 obtain⟨r,h⟩:=u
 unfold suV jPb jTq
 dsimp only
 have au:=Tryz.isAgg190
 have zu:=Tryz.sizeOf190
 cases h
 ·by_cases h1:(65:Int)≤(r:Int) <;> by_cases h2:(r:Int)≤90 <;> by_cases h3:(97:Int)≤(r:Int) <;> by_cases h4:(r:Int)≤122 <;> by_cases h5:(127:Int)<(r:Int)
  all_goals first
  | (exfalso;omega)
  | (go_enter Tryz.func160,Tryz.ntmps160
     go_wp2
     go_ret
     exact⟨jAc (by simp;omega),jAb _⟩)
 ·go_enter Tryz.func160,Tryz.ntmps160
  go_wp2
  go_ret
  exact⟨jAc (by simp),jAb _⟩
theorem jGU (u:Un)(w:World):Calls Tryz.prog 161 #[suV u] w fun e w'=>e=.returned (.bool (jO9 u))∧Below w.heap.size w w':=by
 obtain⟨r,h⟩:=u
 unfold suV jO9 jUs
 dsimp only
 have au:=Tryz.isAgg190
 have zu:=Tryz.sizeOf190
 cases h
 ·by_cases h1:(48:Int)≤(r:Int) <;> by_cases h2:(r:Int)≤57
  all_goals first
  | (exfalso;omega)
  | (go_enter Tryz.func161,Tryz.ntmps161
     go_wp2
     go_ret
     exact⟨jAc (by simp;omega),jAb _⟩)
 ·go_enter Tryz.func161,Tryz.ntmps161
  go_wp2
  go_ret
  exact⟨jAc (by simp),jAb _⟩
end Go.Proofs.YtldapapdolkiaaaGreatDoor
namespace Go.Proofs.YtldapapdolkiaaaGreatDoor
set_option maxHeartbeats 64000000
open Go Go.RowKit Go.Lib
set_option maxRecDepth 100000
theorem jPM {W:World}{Bn t:Nat}{a b:Value}(h:W.heap[Bn]? = some (.cells #[a,b] t (0,0))):W.cell? ⟨Bn,0,none⟩=some a∧W.cell? ⟨Bn,1,none⟩=some b :=
 ⟨(Lib.cell_of_heap h 0).trans rfl,(Lib.cell_of_heap h 1).trans rfl⟩
theorem jIh (u:Un)(w:World):Calls Tryz.prog 130 #[suV u] w fun e w'=>e=.returned (.bool (inU u))∧Below w.heap.size w w':=by
 have au:=Tryz.isAgg190
 have zu:=Tryz.sizeOf190
 have cL:=fun w=>jFI u w
 have cD:=fun w=>jGU u w
 have hx:=heap_alloc_new w (.cells #[.int .i32 (u.r:Int),.bool u.h] 190)
 have HX:=hid hx
 have HB0:=hid (jAb (w:=w) (.cells #[.int .i32 (u.r:Int),.bool u.h] 190))
 have HI:=hid (show inU u=(u.h || jPb u || jO9 u) from rfl)
 unfold suV at cL cD ⊢
 clear hx
 generalize jPb u=zl at *
 generalize jO9 u=zd at *
 generalize inU u=z at *
 obtain⟨r,h⟩:=u
 dsimp only at cL cD HX HB0 HI ⊢
 cases h
 ·cases zl
  ·go_enter Tryz.func130,Tryz.ntmps130
   go_wp2_with (first
    | (go_at_call 160;(with_reducible refine (cL _).mono ?_);rintro e w3 ⟨rfl,hb3⟩;obtain⟨y0,y1⟩:=jPM ((hb3.block _ (lt_of_block HX.out)).trans HX.out);have HB3:=hid (jAa HB0.out hb3);clear hb3)
    | (go_at_call 161;(with_reducible refine (cD _).mono ?_);rintro e w4 ⟨rfl,hb4⟩;have HB4:=hid (jAa HB3.out hb4);clear hb4))
   go_ret
   exact⟨jAc (by rw[HI.out];simp),HB4.out⟩
  ·go_enter Tryz.func130,Tryz.ntmps130
   go_wp2_with (go_at_call 160;(with_reducible refine (cL _).mono ?_);rintro e w3 ⟨rfl,hb3⟩;have HB3:=hid (jAa HB0.out hb3);clear hb3)
   go_ret
   exact⟨jAc (by rw[HI.out];simp),HB3.out⟩
 ·go_enter Tryz.func130,Tryz.ntmps130
  go_wp2
  go_ret
  exact⟨jAc (by rw[HI.out];simp),HB0.out⟩
theorem jSF (u:Un)(w:World):Calls Tryz.prog 162 #[suV u] w fun e w'=>e=.returned (.bool (jWT u))∧Below w.heap.size w w':=by
 have au:=Tryz.isAgg190
 have zu:=Tryz.sizeOf190
 have cL:=fun w=>jFI u w
 have cD:=fun w=>jGU u w
 have hx:=heap_alloc_new w (.cells #[.int .i32 (u.r:Int),.bool u.h] 190)
 have HX:=hid hx
 have HB0:=hid (jAb (w:=w) (.cells #[.int .i32 (u.r:Int),.bool u.h] 190))
 have HI:=hid (show jWT u=(!u.h && !decide (u.r=32) && !jPb u && !jO9 u) from rfl)
 unfold suV at cL cD ⊢
 clear hx
 generalize jPb u=zl at *
 generalize jO9 u=zd at *
 generalize jWT u=z at *
 obtain⟨r,h⟩:=u
 dsimp only at cL cD HX HB0 HI ⊢
 cases h
 ·by_cases h32:r=32
  ·subst h32
   go_enter Tryz.func162,Tryz.ntmps162
   go_wp2
   go_ret
   exact⟨jAc (by rw[HI.out];simp),HB0.out⟩
  ·have h32I:¬(r:Int)=32:=by omega
   cases zl
   ·go_enter Tryz.func162,Tryz.ntmps162
    go_wp2_with (first
     | (go_at_call 160;(with_reducible refine (cL _).mono ?_);rintro e w3 ⟨rfl,hb3⟩;obtain⟨y0,y1⟩:=jPM ((hb3.block _ (lt_of_block HX.out)).trans HX.out);have HB3:=hid (jAa HB0.out hb3);clear hb3)
     | (go_at_call 161;(with_reducible refine (cD _).mono ?_);rintro e w4 ⟨rfl,hb4⟩;have HB4:=hid (jAa HB3.out hb4);clear hb4))
    go_ret
    exact⟨jAc (by rw[HI.out];simp[h32,h32I]),HB4.out⟩
   ·go_enter Tryz.func162,Tryz.ntmps162
    go_wp2_with (go_at_call 160;(with_reducible refine (cL _).mono ?_);rintro e w3 ⟨rfl,hb3⟩;have HB3:=hid (jAa HB0.out hb3);clear hb3)
    go_ret
    exact⟨jAc (by rw[HI.out];simp),HB3.out⟩
 ·go_enter Tryz.func162,Tryz.ntmps162
  go_wp2
  go_ret
  exact⟨jAc (by rw[HI.out];simp),HB0.out⟩
end Go.Proofs.YtldapapdolkiaaaGreatDoor
namespace Go.Proofs.YtldapapdolkiaaaGreatDoor
set_option maxHeartbeats 64000000
open Go Go.RowKit Go.Lib
set_option maxRecDepth 100000
def suF (L:List Un)(i j:Nat):Value:=if j=0 then .int .i32 ((L.getD i jFs).r:Int) else .bool (L.getD i jFs).h
def jRy (w:World)(v:Value)(L:List Un):Prop:=jAO w.heap.size w v L.length 2 (suF L)
theorem jRy.step {w w':World}{v:Value}{L:List Un}(hb:Below w.heap.size w w')(h:jRy w v L):jRy w' v L:=(jAO.below hb h).mono hb.size
theorem jRy.get {w:World}{p:Option Addr}{n cap:Nat}{L:List Un}(h:jRy w (.slice p n cap) L){i:Nat}(hi:i<L.length):∃A,p=some A∧A.block<w.heap.size∧w.cell? (A.add (i*2))=some (.int .i32 ((L.getD i jFs).r:Int))∧w.cell? { block:=(A.add (i*2)).block,off:=(A.add (i*2)).off+1 }=some (.bool (L.getD i jFs).h):=by
 obtain⟨p',cap',e,_,_,h3⟩:=h
 injection e with e1 e2 e3
 subst e1
 obtain⟨A,rfl,hA,hc⟩:=h3 (by omega)
 exact⟨A,rfl,hA,hc i 0 hi (by omega),jBq (by omega) (hc i 1 hi (by omega))⟩
theorem jRy.form {w:World}{v:Value}{L:List Un}(h:jRy w v L):∃p cap,v=.slice p L.length cap∧L.length≤cap∧cap≤maxLen:=by
 obtain⟨p,cap,e,h1,h2,_⟩:=h
 exact⟨p,cap,e,h1,h2⟩
theorem jTV (L:List Un)(v:Value)(p:Nat)(w:World)(hU:jRy w v L)(hp:p≤L.length)(hm:L.length≤1000000) :
 Calls Tryz.prog 175 #[v,.int .i64 (p:Int)] w fun e w'=>e=.returned (.bool (jDX L p))∧Below w.heap.size w w':=by
 obtain⟨q,cap,rfl,hl,hc⟩:=hU.form
 unfold maxLen at hc
 have au:=Tryz.isAgg190
 have zu:=Tryz.sizeOf190
 by_cases h0:p=0
 ·subst h0
  have HE:=hid (show jDX L 0=true by unfold jDX;simp)
  clear hU
  go_enter Tryz.func175,Tryz.ntmps175
  go_wp2
  go_ret
  exact⟨jAc HE.out.symm,Below.refl _ _⟩
 ·have h0I:¬(p:Int)=0:=by omega
  by_cases h1:p=L.length
  ·subst h1
   have HE:=hid (show jDX L L.length=true by unfold jDX;simp)
   clear hU
   go_enter Tryz.func175,Tryz.ntmps175
   go_wp2
   go_ret
   exact⟨jAc HE.out.symm,Below.refl _ _⟩
  ·have h1I:¬(p:Int)=(L.length:Int):=by omega
   have hlt:p<L.length:=by omega
   obtain⟨A,rfl,hA,x0,x1⟩:=hU.get hlt
   obtain⟨A',e,_,y0,y1⟩:=hU.get (show p-1<L.length by omega)
   injection e with e
   subst e
   have HE:=hid (show jDX L p=(!inU (L.getD (p-1) jFs) || !inU (L.getD p jFs)) by
    unfold jDX
    rw[show decide (p=0)=false by simp;omega,show decide (p=L.length)=false by simp;omega]
    simp)
   have hwr:IntKind.i64.wrap ((p:Int)-1)=((p-1:Nat):Int):=by rw[IntKind.wrap_i64];omega
   have hq0:(0:Int)≤((p-1:Nat):Int):=by omega
   have hq1:((p-1:Nat):Int)<(L.length:Int):=by omega
   have hp0:(0:Int)≤(p:Int):=by omega
   have hp1:(p:Int)<(L.length:Int):=by omega
   have hAb:(A.add (p*2)).block<w.heap.size:=by rw[add_block];exact hA
   have cW1:=jIh (L.getD (p-1) jFs) w
   have cW2:=fun w'=>jIh (L.getD p jFs) w'
   generalize hd:p-1=d at *
   unfold suV at cW1 cW2
   clear hU
   generalize L.getD p jFs=u at *
   generalize L.getD d jFs=u' at *
   generalize inU u=z at *
   generalize jDX L p=E at HE ⊢
   cases hz':inU u'
   ·rw[hz']at cW1 HE
    go_enter Tryz.func175,Tryz.ntmps175
    go_wp2_with (go_at_call 130;(with_reducible refine cW1.mono ?_);rintro e w2 ⟨rfl,hb2⟩;have HB2:=hid hb2;clear hb2)
    go_ret
    exact⟨jAc (by rw[HE.out];rfl),HB2.out⟩
   ·rw[hz']at cW1 HE
    go_enter Tryz.func175,Tryz.ntmps175
    go_wp2_with (first
     | (go_at_call 130;(with_reducible refine cW1.mono ?_);rintro e w2 ⟨rfl,hb2⟩;have HB2:=hid hb2;have x4:=(hb2.cell (p:=A.add (p*2)) hAb).trans x0;have x5:=(hb2.cell (p:={ block:=(A.add (p*2)).block,off:=(A.add (p*2)).off+1 }) hAb).trans x1;clear hb2)
     | (go_at_call 130;(with_reducible refine (cW2 _).mono ?_);rintro e w3 ⟨rfl,hb3⟩;have HB3:=hid (jAa HB2.out hb3);clear hb3))
    go_ret
    exact⟨jAc (by rw[HE.out,show ((p:Int) == 0)=false by simpa using h0I,show ((p:Int) == (L.length:Int))=false by simpa using h1I];cases z <;> rfl),HB3.out⟩
end Go.Proofs.YtldapapdolkiaaaGreatDoor
namespace Go.Proofs.YtldapapdolkiaaaGreatDoor
set_option maxHeartbeats 64000000
open Go Go.RowKit Go.Lib
set_option maxRecDepth 100000
theorem jVf (x:Ft)(u:Un)(w:World):Calls Tryz.prog 176 #[.agg #[.bool x.c,.int .i32 (x.r:Int)],suV u] w fun e w'=>e=.returned (.bool (jCC x u))∧Below w.heap.size w w':=by
 have au:=Tryz.isAgg190
 have zu:=Tryz.sizeOf190
 have af:=Tryz.isAgg208
 have zf:=Tryz.sizeOf208
 have cL:=fun w=>jFI u w
 have cD:=fun w=>jGU u w
 have cM:=fun w=>jSF u w
 obtain⟨c,s⟩:=x
 have HB0:=hid (jAa (jAb (w:=w) (.cells #[.bool c,.int .i32 (s:Int)] 208)) (jAb (w:=w.alloc (.cells #[.bool c,.int .i32 (s:Int)] 208)) (.cells #[.int .i32 (u.r:Int),.bool u.h] 190)))
 have HO:=hid (rfl:jCC ⟨c,s⟩ u=jCC ⟨c,s⟩ u)
 unfold suV at cL cD cM ⊢
 dsimp only
 cases c
 ·have HE:=hid (show jCC ⟨false,s⟩ u=(!u.h && decide (u.r=s)) from if_pos rfl)
  obtain⟨r,h⟩:=u
  dsimp only at HE HB0 ⊢
  generalize jCC ⟨false,s⟩ ⟨r,h⟩=z at *
  cases h
  ·by_cases hrs:r=s
   ·subst hrs
    go_enter Tryz.func176,Tryz.ntmps176
    go_wp2
    go_ret
    exact⟨jAc (by rw[HE.out];simp),HB0.out⟩
   ·have hrI:¬(r:Int)=(s:Int):=by omega
    go_enter Tryz.func176,Tryz.ntmps176
    go_wp2
    go_ret
    exact⟨jAc (by rw[HE.out];simp[hrs,hrI]),HB0.out⟩
  ·go_enter Tryz.func176,Tryz.ntmps176
   go_wp2
   go_ret
   exact⟨jAc (by rw[HE.out];simp),HB0.out⟩
 ·by_cases h97:s=97
  ·subst h97
   have HE:=hid (show jCC ⟨true,97⟩ u=jPb u from rfl)
   rw[HE.out]
   generalize jPb u=z at *
   go_enter Tryz.func176,Tryz.ntmps176
   go_wp2_with (go_at_call 160;(with_reducible refine (cL _).mono ?_);rintro e w3 ⟨rfl,hb3⟩;have HB3:=hid (jAa HB0.out hb3);clear hb3)
   go_ret
   exact⟨rfl,HB3.out⟩
  ·have n97:¬(s:Int)=97:=by omega
   by_cases h117:s=117
   ·subst h117
    have HE:=hid (show jCC ⟨true,117⟩ u=(!u.h && (decide (65≤u.r) && decide (u.r≤90))) from rfl)
    rw[HE.out]
    obtain⟨r,h⟩:=u
    dsimp only at HB0 ⊢
    clear HE HO cL cD cM
    cases h
    ·by_cases g1:(65:Int)≤(r:Int) <;> by_cases g2:(r:Int)≤90
     all_goals first
     | (exfalso;omega)
     | (go_enter Tryz.func176,Tryz.ntmps176
        go_wp2
        go_ret
        exact⟨jAc (by simp;omega),HB0.out⟩)
    ·go_enter Tryz.func176,Tryz.ntmps176
     go_wp2
     go_ret
     exact⟨jAc (by simp),HB0.out⟩
   ·have n117:¬(s:Int)=117:=by omega
    by_cases h108:s=108
    ·subst h108
     have HE:=hid (show jCC ⟨true,108⟩ u=(!u.h && (decide (97≤u.r) && decide (u.r≤122))) from rfl)
     rw[HE.out]
     obtain⟨r,h⟩:=u
     dsimp only at HB0 ⊢
     clear HE HO cL cD cM
     cases h
     ·by_cases g1:(97:Int)≤(r:Int) <;> by_cases g2:(r:Int)≤122
      all_goals first
      | (exfalso;omega)
      | (go_enter Tryz.func176,Tryz.ntmps176
         go_wp2
         go_ret
         exact⟨jAc (by simp;omega),HB0.out⟩)
     ·go_enter Tryz.func176,Tryz.ntmps176
      go_wp2
      go_ret
      exact⟨jAc (by simp),HB0.out⟩
    ·have n108:¬(s:Int)=108:=by omega
     by_cases qAT:s=100
     ·subst qAT
      have HE:=hid (show jCC ⟨true,100⟩ u=jO9 u from rfl)
      rw[HE.out]
      generalize jO9 u=z at *
      go_enter Tryz.func176,Tryz.ntmps176
      go_wp2_with (go_at_call 161;(with_reducible refine (cD _).mono ?_);rintro e w3 ⟨rfl,hb3⟩;have HB3:=hid (jAa HB0.out hb3);clear hb3)
      go_ret
      exact⟨rfl,HB3.out⟩
     ·have n100:¬(s:Int)=100:=by omega
      by_cases h115:s=115
      ·subst h115
       have HE:=hid (show jCC ⟨true,115⟩ u=(!u.h && decide (u.r=32)) from rfl)
       rw[HE.out]
       obtain⟨r,h⟩:=u
       dsimp only at HB0 ⊢
       clear HE HO cL cD cM
       cases h
       ·by_cases g1:r=32
        ·subst g1
         go_enter Tryz.func176,Tryz.ntmps176
         go_wp2
         go_ret
         exact⟨jAc (by simp),HB0.out⟩
        ·have g2:¬(r:Int)=32:=by omega
         go_enter Tryz.func176,Tryz.ntmps176
         go_wp2
         go_ret
         exact⟨jAc (by simp[g1,g2]),HB0.out⟩
       ·go_enter Tryz.func176,Tryz.ntmps176
        go_wp2
        go_ret
        exact⟨jAc (by simp),HB0.out⟩
      ·have n115:¬(s:Int)=115:=by omega
       by_cases h112:s=112
       ·subst h112
        have HE:=hid (show jCC ⟨true,112⟩ u=jWT u from rfl)
        rw[HE.out]
        generalize jWT u=z at *
        go_enter Tryz.func176,Tryz.ntmps176
        go_wp2_with (go_at_call 162;(with_reducible refine (cM _).mono ?_);rintro e w3 ⟨rfl,hb3⟩;have HB3:=hid (jAa HB0.out hb3);clear hb3)
        go_ret
        exact⟨rfl,HB3.out⟩
       ·have n112:¬(s:Int)=112:=by omega
        by_cases h104:s=104
        ·subst h104
         have HE:=hid (show jCC ⟨true,104⟩ u=u.h from rfl)
         rw[HE.out]
         obtain⟨r,h⟩:=u
         dsimp only at HB0 ⊢
         clear HE HO cL cD cM
         cases h
         ·go_enter Tryz.func176,Tryz.ntmps176
          go_wp2
          go_ret
          exact⟨jAc (by simp),HB0.out⟩
         ·go_enter Tryz.func176,Tryz.ntmps176
          go_wp2
          go_ret
          exact⟨jAc (by simp),HB0.out⟩
        ·have n104:¬(s:Int)=104:=by omega
         by_cases h37:s=37
         ·subst h37
          have HE:=hid (show jCC ⟨true,37⟩ u=(!u.h && decide (u.r=37)) from rfl)
          rw[HE.out]
          obtain⟨r,h⟩:=u
          dsimp only at HB0 ⊢
          clear HE HO cL cD cM
          cases h
          ·by_cases g1:r=37
           ·subst g1
            go_enter Tryz.func176,Tryz.ntmps176
            go_wp2
            go_ret
            exact⟨jAc (by simp),HB0.out⟩
           ·have g2:¬(r:Int)=37:=by omega
            go_enter Tryz.func176,Tryz.ntmps176
            go_wp2
            go_ret
            exact⟨jAc (by simp[g1,g2]),HB0.out⟩
          ·go_enter Tryz.func176,Tryz.ntmps176
           go_wp2
           go_ret
           exact⟨jAc (by simp),HB0.out⟩
         ·have n37:¬(s:Int)=37:=by omega
          have HE:=hid (show jCC ⟨true,s⟩ u=true by unfold jCC;simp[h97,h117,h108,qAT,h115,h112,h104,h37])
          rw[HE.out]
          go_enter Tryz.func176,Tryz.ntmps176
          go_wp2
          go_ret
          exact⟨rfl,HB0.out⟩
end Go.Proofs.YtldapapdolkiaaaGreatDoor
