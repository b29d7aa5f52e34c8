/- Break rules as data: units, the items of a pattern, where a rule fits. No run of any program here. What is asked of one unit, by the program's patterns; the tests of a pattern in memory. The tests of a pattern, in memory and called. The test of a border, and any test of a pattern, called. Whether a pattern fits units at a place, by the program; whether a rule does. Whether a rule fits units at a place, by the program. -/
import Derived.Test.YtldapapdolkiaaaGreatDoorCuC
import Derived.StillTailTactics
import Derived.Test.YtldapapdolkiaaaGreatDoorGlB
namespace Go.Proofs.YtldapapdolkiaaaGreatDoor
set_option maxHeartbeats 64000000
open Go Go.RowKit Go.Lib
set_option maxRecDepth 100000
structure Un where
 r:Nat
 h:Bool
def jTq (r:Nat):Bool:=(decide (65≤r) && decide (r≤90)) || ((decide (97≤r) && decide (r≤122)) || decide (127<r))
def jUs (r:Nat):Bool:=decide (48≤r) && decide (r≤57)
def jPb (u:Un):Bool:=!u.h && jTq u.r
def jO9 (u:Un):Bool:=!u.h && jUs u.r
def jWT (u:Un):Bool:=!u.h && !decide (u.r=32) && !jPb u && !jO9 u
def inU (u:Un):Bool:=u.h || jPb u || jO9 u
structure Ft where
 c:Bool
 r:Nat
def jNv (r:Nat):Bool:=decide (r=97) || decide (r=117) || decide (r=108) || decide (r=100) || decide (r=115) || decide (r=112) || decide (r=104) || decide (r=46) || decide (r=37) || decide (r=98)
def jC2:List Nat→Option (List Ft)
 | []=>some []
 | [r]=>if r=37 then none else some [⟨false,r⟩]
 | r :: s :: l=>if r=37 then (if jNv s=true then (jC2 l).map (⟨true,s⟩ :: ·) else none) else (jC2 (s :: l)).map (⟨false,r⟩ :: ·)
def jGR (x:Ft):Bool:=x.c && decide (x.r=98)
def jCC (x:Ft)(u:Un):Bool :=
 if x.c=false then !u.h && decide (u.r=x.r)
 else if x.r=97 then jPb u else if x.r=117 then !u.h && (decide (65≤u.r) && decide (u.r≤90)) else if x.r=108 then !u.h && (decide (97≤u.r) && decide (u.r≤122))
 else if x.r=100 then jO9 u else if x.r=115 then !u.h && decide (u.r=32) else if x.r=112 then jWT u else if x.r=104 then u.h else if x.r=37 then !u.h && decide (u.r=37) else true
def jFs:Un:=⟨0,false⟩
def jDX (L:List Un)(p:Nat):Bool:=decide (p=0) || decide (p=L.length) || !inU (L.getD (p-1) jFs) || !inU (L.getD p jFs)
def jEf (L:List Un):Nat→List Ft→Bool
 | _,[]=>true
 | p,x :: X=>if jGR x=true then jDX L p && jEf L p X else decide (p<L.length) && jCC x (L.getD p jFs) && jEf L (p+1) X
def ftW (X:List Ft):Nat:=(X.filter fun x=>!jGR x).length
theorem jPf (x:Ft)(X:List Ft):ftW (x :: X)=(if jGR x=true then 0 else 1)+ftW X:=by
 unfold ftW
 rw[List.filter_cons]
 cases jGR x
 ·simp;omega
 ·simp
theorem jK1 {L:List Un}:∀ (X:List Ft) (p:Nat),L.length<p+ftW X→p≤L.length→jEf L p X=false
 | [],p,h,hp=>by simp[ftW]at h;omega
 | x :: X,p,h,hp=>by
   rw[jPf]at h
   unfold jEf
   by_cases hx:jGR x=true
   ·rw[if_pos hx]at h ⊢
    rw[jK1 X p (by omega) hp]
    simp
   ·rw[if_neg hx]at h ⊢
    by_cases hp2:p<L.length
    ·rw[jK1 X (p+1) (by omega) (by omega)]
     simp
    ·simp[hp2]
structure Rl where
 b:ByteArray
 a:ByteArray
 k:Bool
def jGm (s:ByteArray):Option (List Ft):=jC2 (jAi s)
def jDz (s:ByteArray):Int:=if jBK s=false then 4 else match jGm s with
 | none=>4
 | some X=>if 32<X.length then 3 else 0
def rlE (x:Rl):Int:=if jDz x.b≠0 then jDz x.b else jDz x.a
def jE7 (R:List Rl):Nat→Int
 | 0=>0
 | k+1=>if jE7 R k≠0 then jE7 R k else rlE (R.getD k ⟨⟨#[]⟩,⟨#[]⟩,false⟩)
def jDw (R:List Rl):Int:=if 64<R.length then 3 else jE7 R R.length
def items (s:ByteArray):List Ft:=(jGm s).getD []
def jKF (x:Rl)(L:List Un)(p:Nat):Bool:=decide (ftW (items x.b)≤p) && jEf L (p-ftW (items x.b)) (items x.b) && jEf L p (items x.a)
def jCp:List Rl→List Un→Nat→Bool
 | [],_,_=>false
 | x :: R,L,p=>if jKF x L p=true then x.k else jCp R L p
def jGN (R:List Rl)(L:List Un):List Nat:=(List.range L.length).filter fun p=>decide (0<p) && jCp R L p
def jWK (x:Pc):List Un:=if x.k=5 then [⟨0,true⟩] else if x.k=1 then (jAi x.s).map fun r=>⟨r,false⟩ else []
def jCa (l:List Pc):List Un:=l.flatMap jWK
theorem jLr (l:List Pc):(jCa l).length=jAW l:=by
 unfold jCa jAW
 induction l with
 | nil=>rfl
 | cons x l ih =>
   rw[List.flatMap_cons,List.length_append,ih,List.map_cons,List.sum_cons]
   congr 1
   unfold jWK unN
   split
   ·rfl
   ·split
    ·simp
    ·rfl
def brE (R:List Rl)(l:List Pc):Int:=if jDw R≠0 then jDw R else jAu l
def brR (R:List Rl)(l:List Pc):List Nat:=if brE R l=0 then jGN R (jCa l) else []
end Go.Proofs.YtldapapdolkiaaaGreatDoor
namespace Go.Proofs.YtldapapdolkiaaaGreatDoor
set_option maxHeartbeats 64000000
open Go Go.RowKit Go.Lib
set_option maxRecDepth 100000
def jH4 (r:Nat):Int:=if jTq r=true then 1 else if jUs r=true then 2 else if r=32 then 3 else if ctl r=true then 0 else 4
def jEL (u:Un):Int:=if u.h=true then 5 else jH4 u.r
def okU (u:Un):Prop:=(u.h=true→u.r=0)∧(u.h=false→ctl u.r=false)
def uV (u:Un):Value:=.agg #[.int .u8 (jEL u),.int .i32 (u.r:Int)]
theorem jZF (u:Un):(jEL u == 1)=jPb u:=by
 obtain⟨r,h⟩:=u
 unfold jEL jH4 jPb
 cases h
 ·cases hl:jTq r <;> cases hd:jUs r <;> by_cases h32:r=32 <;> cases hc:ctl r <;> simp_all
 ·simp
theorem jX5 {r:Nat}(h:jUs r=true):jTq r=false:=by
 unfold jUs at h
 unfold jTq
 simp only[Bool.and_eq_true,decide_eq_true_eq]at h
 simp
 omega
theorem jZK (u:Un):(jEL u == 2)=jO9 u:=by
 obtain⟨r,h⟩:=u
 unfold jEL jH4 jO9
 cases h
 ·cases hd:jUs r
  ·cases hl:jTq r <;> by_cases h32:r=32 <;> cases hc:ctl r <;> simp_all
  ·have hl:=jX5 hd
   simp_all
 ·simp
theorem cls_s (u:Un):(jEL u == 3)=(!u.h && decide (u.r=32)):=by
 obtain⟨r,h⟩:=u
 unfold jEL jH4
 cases h
 ·by_cases h32:r=32
  ·subst h32;decide
  ·cases hl:jTq r <;> cases hd:jUs r <;> cases hc:ctl r <;> simp_all
 ·simp
theorem cls_p {u:Un}(hu:okU u):(jEL u == 4)=jWT u:=by
 obtain⟨r,h⟩:=u
 unfold jEL jH4 jWT jPb jO9
 cases h
 ·have hc:=hu.2 rfl
  dsimp only at hc
  clear hu
  by_cases h32:r=32
  ·subst h32;decide
  ·cases hl:jTq r <;> cases hd:jUs r <;> simp_all
 ·simp
theorem jZz (u:Un):(jEL u == 5)=u.h:=by
 obtain⟨r,h⟩:=u
 unfold jEL jH4
 cases h
 ·cases hl:jTq r <;> cases hd:jUs r <;> by_cases h32:r=32 <;> cases hc:ctl r <;> simp_all
 ·simp
theorem jWk (u:Un)(_:okU u)(w:World):Calls Tryz.prog 188 #[uV u] w fun e w'=>e=.returned (.bool (jCC ⟨true,97⟩ u))∧Below w.heap.size w w':=by
 have hb:(jEL u == 1)=jCC ⟨true,97⟩ u:=by rw[jZF u];unfold jCC;simp
 have HB:=hid hb
 have au:=Tryz.isAgg198
 have zu:=Tryz.sizeOf198
 unfold uV
 generalize jEL u=z at *
 clear hb
 go_enter Tryz.func188,Tryz.ntmps188
 go_wp2
 go_ret
 exact⟨jAc HB.out,jAb _⟩
theorem jVh (u:Un)(hu:okU u)(w:World):Calls Tryz.prog 189 #[uV u] w fun e w'=>e=.returned (.bool (jCC ⟨true,117⟩ u))∧Below w.heap.size w w':=by
 have hb:(decide (65≤u.r) && decide (u.r≤90))=jCC ⟨true,117⟩ u:=by
  unfold jCC
  cases hh:u.h
  ·simp
  ·simp[hu.1 hh]
 have HB:=hid hb
 have au:=Tryz.isAgg198
 have zu:=Tryz.sizeOf198
 unfold uV
 generalize jEL u=z at *
 obtain⟨m,hm⟩:∃m,u.r=m:=⟨_,rfl⟩
 rw[hm]at HB ⊢
 clear hb hu hm
 by_cases h1:(65:Int)≤(m:Int)
 ·by_cases h2:(m:Int)≤90
  ·go_enter Tryz.func189,Tryz.ntmps189
   go_wp2
   go_ret
   exact⟨jAc (by rw[←HB.out];simp;omega),jAb _⟩
  ·go_enter Tryz.func189,Tryz.ntmps189
   go_wp2
   go_ret
   exact⟨jAc (by rw[←HB.out];simp;omega),jAb _⟩
 ·go_enter Tryz.func189,Tryz.ntmps189
  go_wp2
  go_ret
  exact⟨jAc (by rw[←HB.out];simp;omega),jAb _⟩
theorem jUP (u:Un)(hu:okU u)(w:World):Calls Tryz.prog 190 #[uV u] w fun e w'=>e=.returned (.bool (jCC ⟨true,108⟩ u))∧Below w.heap.size w w':=by
 have hb:(decide (97≤u.r) && decide (u.r≤122))=jCC ⟨true,108⟩ u:=by
  unfold jCC
  cases hh:u.h
  ·simp
  ·simp[hu.1 hh]
 have HB:=hid hb
 have au:=Tryz.isAgg198
 have zu:=Tryz.sizeOf198
 unfold uV
 generalize jEL u=z at *
 obtain⟨m,hm⟩:∃m,u.r=m:=⟨_,rfl⟩
 rw[hm]at HB ⊢
 clear hb hu hm
 by_cases h1:(97:Int)≤(m:Int)
 ·by_cases h2:(m:Int)≤122
  ·go_enter Tryz.func190,Tryz.ntmps190
   go_wp2
   go_ret
   exact⟨jAc (by rw[←HB.out];simp;omega),jAb _⟩
  ·go_enter Tryz.func190,Tryz.ntmps190
   go_wp2
   go_ret
   exact⟨jAc (by rw[←HB.out];simp;omega),jAb _⟩
 ·go_enter Tryz.func190,Tryz.ntmps190
  go_wp2
  go_ret
  exact⟨jAc (by rw[←HB.out];simp;omega),jAb _⟩
theorem jUY (u:Un)(_:okU u)(w:World):Calls Tryz.prog 191 #[uV u] w fun e w'=>e=.returned (.bool (jCC ⟨true,100⟩ u))∧Below w.heap.size w w':=by
 have hb:(jEL u == 2)=jCC ⟨true,100⟩ u:=by rw[jZK u];unfold jCC;simp
 have HB:=hid hb
 have au:=Tryz.isAgg198
 have zu:=Tryz.sizeOf198
 unfold uV
 generalize jEL u=z at *
 clear hb
 go_enter Tryz.func191,Tryz.ntmps191
 go_wp2
 go_ret
 exact⟨jAc HB.out,jAb _⟩
theorem jVb (u:Un)(_:okU u)(w:World):Calls Tryz.prog 192 #[uV u] w fun e w'=>e=.returned (.bool (jCC ⟨true,115⟩ u))∧Below w.heap.size w w':=by
 have hb:(jEL u == 3)=jCC ⟨true,115⟩ u:=by rw[cls_s u];unfold jCC;simp
 have HB:=hid hb
 have au:=Tryz.isAgg198
 have zu:=Tryz.sizeOf198
 unfold uV
 generalize jEL u=z at *
 clear hb
 go_enter Tryz.func192,Tryz.ntmps192
 go_wp2
 go_ret
 exact⟨jAc HB.out,jAb _⟩
theorem jVV (u:Un)(hu:okU u)(w:World):Calls Tryz.prog 193 #[uV u] w fun e w'=>e=.returned (.bool (jCC ⟨true,112⟩ u))∧Below w.heap.size w w':=by
 have hb:(jEL u == 4)=jCC ⟨true,112⟩ u:=by rw[cls_p hu];unfold jCC;simp
 have HB:=hid hb
 have au:=Tryz.isAgg198
 have zu:=Tryz.sizeOf198
 unfold uV
 generalize jEL u=z at *
 clear hb
 go_enter Tryz.func193,Tryz.ntmps193
 go_wp2
 go_ret
 exact⟨jAc HB.out,jAb _⟩
theorem jU1 (u:Un)(_:okU u)(w:World):Calls Tryz.prog 194 #[uV u] w fun e w'=>e=.returned (.bool (jCC ⟨true,104⟩ u))∧Below w.heap.size w w':=by
 have hb:(jEL u == 5)=jCC ⟨true,104⟩ u:=by rw[jZz u];unfold jCC;simp
 have HB:=hid hb
 have au:=Tryz.isAgg198
 have zu:=Tryz.sizeOf198
 unfold uV
 generalize jEL u=z at *
 clear hb
 go_enter Tryz.func194,Tryz.ntmps194
 go_wp2
 go_ret
 exact⟨jAc HB.out,jAb _⟩
theorem jWj (u:Un)(w:World):Calls Tryz.prog 195 #[uV u] w fun e w'=>e=.returned (.bool (jCC ⟨true,46⟩ u))∧Below w.heap.size w w':=by
 have HB:=hid (show true=jCC ⟨true,46⟩ u by unfold jCC;simp)
 have au:=Tryz.isAgg198
 have zu:=Tryz.sizeOf198
 unfold uV
 generalize jEL u=z at *
 go_enter Tryz.func195,Tryz.ntmps195
 go_wp2
 go_ret
 exact⟨jAc HB.out,jAb _⟩
theorem jRV (x:Ft)(b:Nat)(u:Un)(hu:okU u)(hx:x.c=false∨x.r=37)(h0:x.r≠0)(w:World)(hb:w.heap[b]? = some (.cells #[.int .i32 (x.r:Int)] 21 (0,0))) :
 Calls Tryz.prog 187 #[uV u,.pointer (some ⟨b,0,none⟩)] w fun e w'=>e=.returned (.bool (jCC x u))∧Below w.heap.size w w':=by
 have hq:((u.r:Int) == (x.r:Int))=jCC x u:=by
  have e:((u.r:Int) == (x.r:Int))=decide (u.r=x.r):=by
   by_cases h:u.r=x.r
   ·simp[h]
   ·have:¬(u.r:Int)=(x.r:Int):=by omega
    simp[h,this]
  rw[e]
  unfold jCC
  rcases hx with hx | hx
  ·cases hh:u.h
   ·simp[hx]
   ·have:=hu.1 hh
    simp[hx,this]
    omega
  ·cases hc:x.c
   ·cases hh:u.h
    ·simp
    ·have:=hu.1 hh
     simp[this]
     omega
   ·cases hh:u.h
    ·simp[hx]
    ·have:=hu.1 hh
     simp[hx,this]
 have HQ:=hid hq
 have au:=Tryz.isAgg198
 have zu:=Tryz.sizeOf198
 have cb:w.cell? ⟨b,0,none⟩=some (.int .i32 (x.r:Int)):=(Lib.cell_of_heap hb 0).trans rfl
 have hbl:=lt_of_block hb
 unfold uV
 generalize jEL u=z at *
 generalize (x.r:Int)=y at *
 generalize (u.r:Int)=m at *
 clear hq hb hu hx
 go_enter Tryz.func187,Tryz.ntmps187
 go_wp2
 go_ret
 exact⟨jAc HQ.out,jAb _⟩
theorem jJ2 (u:Un)(w:World):Calls Tryz.prog 201 #[uV u] w fun e w'=>e=.returned (.bool (inU u))∧Below w.heap.size w w':=by
 have h1:=jZF u
 have h2:=jZK u
 have h5:=jZz u
 have HI:=hid (show ((jEL u == 1) || ((jEL u == 2) || (jEL u == 5)))=inU u by rw[h1,h2,h5];unfold inU;cases u.h <;> simp)
 have au:=Tryz.isAgg198
 have zu:=Tryz.sizeOf198
 unfold uV
 clear h1 h2 h5
 generalize jEL u=z at *
 by_cases e1:z=1 <;> by_cases e2:z=2 <;> by_cases e5:z=5
 all_goals first
 | (exfalso;omega)
 | (go_enter Tryz.func201,Tryz.ntmps201
    go_wp2
    go_ret
    exact⟨jAc (by rw[←HI.out];first | (rw[e1];decide) | (rw[e2];decide) | (rw[e5];decide) | exact Bool.or_assoc _ _ _),jAb _⟩)
end Go.Proofs.YtldapapdolkiaaaGreatDoor
namespace Go.Proofs.YtldapapdolkiaaaGreatDoor
set_option maxHeartbeats 64000000
open Go Go.RowKit Go.Lib
set_option maxRecDepth 100000
theorem jBd {w w':World}(h:Below w.drew.heap.size w.drew w'):Below w.heap.size w w':=⟨h.os,h.tape,h.output,h.size,h.block⟩
def uF (L:List Un)(i j:Nat):Value:=if j=0 then .int .u8 (jEL (L.getD i jFs)) else .int .i32 ((L.getD i jFs).r:Int)
def jGh (w:World)(v:Value)(L:List Un):Prop:=jAO w.heap.size w v L.length 2 (uF L)
theorem jGh.step {w w':World}{v:Value}{L:List Un}(hb:Below w.heap.size w w')(h:jGh w v L):jGh w' v L:=(jAO.below hb h).mono hb.size
theorem jGh.get {w:World}{p:Option Addr}{n cap:Nat}{L:List Un}(h:jGh w (.slice p n cap) L){i:Nat}(hi:i<L.length):∃A,p=some A∧A.block<w.heap.size∧w.cell? (A.add (i*2))=some (.int .u8 (jEL (L.getD i jFs)))∧w.cell? { block:=(A.add (i*2)).block,off:=(A.add (i*2)).off+1 }=some (.int .i32 ((L.getD i jFs).r:Int)):=by
 obtain⟨p',cap',e,_,_,h3⟩:=h
 injection e with e1 e2 e3
 subst e1
 obtain⟨A,rfl,hA,hc⟩:=h3 (by omega)
 exact⟨A,rfl,hA,hc i 0 hi (by omega),jBq (by omega) (hc i 1 hi (by omega))⟩
theorem jGh.form {w:World}{v:Value}{L:List Un}(h:jGh w v L):∃p cap,v=.slice p L.length cap∧L.length≤cap∧cap≤maxLen:=by
 obtain⟨p,cap,e,h1,h2,_⟩:=h
 exact⟨p,cap,e,h1,h2⟩
def jRz (r:Nat):Nat:=if r=97 then 188 else if r=117 then 189 else if r=108 then 190 else if r=100 then 191 else if r=115 then 192 else if r=112 then 193 else if r=104 then 194 else 195
def jSf (w:World)(ask:Value)(x:Ft):Prop :=
 ((x.c=false∨x.r=37)∧∃b,ask=.func (.func 187) #[] #[.pointer (some ⟨b,0,none⟩)]∧w.heap[b]? = some (.cells #[.int .i32 (x.r:Int)] 21 (0,0))) ∨
 (x.c=true∧(x.r=97∨x.r=117∨x.r=108∨x.r=100∨x.r=115∨x.r=112∨x.r=104∨x.r=46)∧ask=.func (.func (jRz x.r)) #[] #[])
def jDn (w:World)(v:Value)(x:Ft):Prop :=
 (jGR x=true∧v=.func (.func 196) #[] #[]) ∨
 (jGR x=false∧∃b ask,v=.func (.func 200) #[] #[.pointer (some ⟨b,0,none⟩)]∧w.heap[b]? = some (.cells #[ask] 245 (0,0))∧jSf w ask x)
theorem jSf.keeps {C:Obj→Prop}{w w':World}{ask:Value}{x:Ft}(h:jSf w ask x)(hk:Keeps C w w')(hC:∀cs,C (.cells cs 21 (0,0))):jSf w' ask x:=by
 rcases h with ⟨h1,b,h2,h3⟩ | h
 ·exact .inl ⟨h1,b,h2,hk.same _ _ h3 (hC _)⟩
 ·exact .inr h
theorem jDn.keeps {C:Obj→Prop}{w w':World}{v:Value}{x:Ft}(h:jDn w v x)(hk:Keeps C w w')(hC:∀cs,C (.cells cs 21 (0,0)))(hC2:∀cs,C (.cells cs 245 (0,0))):jDn w' v x:=by
 rcases h with h | ⟨h1,b,ask,h2,h3,h4⟩
 ·exact .inl h
 ·exact .inr ⟨h1,b,ask,h2,hk.same _ _ h3 (hC2 _),h4.keeps hk hC⟩
theorem jDn.step {w w':World}{v:Value}{x:Ft}(h:jDn w v x)(hb:Below w.heap.size w w'):jDn w' v x :=
 h.keeps (Keeps.below (C:=fun _=>True) hb) (fun _=>trivial) fun _=>trivial
theorem jUM (x:Ft)(b:Nat)(ask:Value)(L:List Un)(v:Value)(p:Nat)(w:World)(hU:jGh w v L)(hp:p<L.length)(hok:okU (L.getD p jFs))(hx:x.r≠0)(hb:w.heap[b]? = some (.cells #[ask] 245 (0,0)))(ha:jSf w ask x) :
 Calls Tryz.prog 200 #[v,.int .i64 (p:Int),.pointer (some ⟨b,0,none⟩)] w fun e w'=>e=.returned (.tuple #[.int .i64 1,.bool (jCC x (L.getD p jFs))])∧Below w.heap.size w w':=by
 obtain⟨q,cap,rfl,hl,hc⟩:=hU.form
 unfold maxLen at hc
 obtain⟨A,rfl,_,x0,x1⟩:=hU.get hp
 have au:=Tryz.isAgg198
 have zu:=Tryz.sizeOf198
 have hpI:(p:Int)<(L.length:Int):=by omega
 have hp0:(0:Int)≤(p:Int):=by omega
 have cb:w.cell? ⟨b,0,none⟩=some ask:=(Lib.cell_of_heap hb 0).trans rfl
 clear hU hb
 generalize L.getD p jFs=u at *
 rcases ha with ⟨h1,b2,rfl,h2⟩ | ⟨h1,h2,rfl⟩
 ·have cS:=jRV x b2 u hok h1 hx w.drew h2
  unfold uV at cS
  generalize jCC x u=z at *
  go_enter Tryz.func200,Tryz.ntmps200
  go_wp2
  go_still_tail 5,(by kernel_rfl)
  go_wp2_with (go_at_call 187;(with_reducible refine cS.mono ?_);rintro e w3 ⟨rfl,hb3⟩;have HB3:=hid hb3;clear hb3)
  go_ret2
  exact⟨rfl,jBd HB3.out⟩
 ·obtain⟨c,r⟩:=x
  dsimp only at h1 h2 hx cb
  subst h1
  rcases h2 with rfl | rfl | rfl | rfl | rfl | rfl | rfl | rfl
  ·rw[show jRz 97=188 from rfl]at cb
   have cS:=jWk u hok w.drew
   unfold uV at cS
   generalize jCC ⟨true,97⟩ u=z at *
   go_enter Tryz.func200,Tryz.ntmps200
   go_wp2
   go_still_tail 5,(by kernel_rfl)
   go_wp2_with (go_at_call 188;(with_reducible refine cS.mono ?_);rintro e w3 ⟨rfl,hb3⟩;have HB3:=hid hb3;clear hb3)
   go_ret2
   exact⟨rfl,jBd HB3.out⟩
  ·rw[show jRz 117=189 from rfl]at cb
   have cS:=jVh u hok w.drew
   unfold uV at cS
   generalize jCC ⟨true,117⟩ u=z at *
   go_enter Tryz.func200,Tryz.ntmps200
   go_wp2
   go_still_tail 5,(by kernel_rfl)
   go_wp2_with (go_at_call 189;(with_reducible refine cS.mono ?_);rintro e w3 ⟨rfl,hb3⟩;have HB3:=hid hb3;clear hb3)
   go_ret2
   exact⟨rfl,jBd HB3.out⟩
  ·rw[show jRz 108=190 from rfl]at cb
   have cS:=jUP u hok w.drew
   unfold uV at cS
   generalize jCC ⟨true,108⟩ u=z at *
   go_enter Tryz.func200,Tryz.ntmps200
   go_wp2
   go_still_tail 5,(by kernel_rfl)
   go_wp2_with (go_at_call 190;(with_reducible refine cS.mono ?_);rintro e w3 ⟨rfl,hb3⟩;have HB3:=hid hb3;clear hb3)
   go_ret2
   exact⟨rfl,jBd HB3.out⟩
  ·rw[show jRz 100=191 from rfl]at cb
   have cS:=jUY u hok w.drew
   unfold uV at cS
   generalize jCC ⟨true,100⟩ u=z at *
   go_enter Tryz.func200,Tryz.ntmps200
   go_wp2
   go_still_tail 5,(by kernel_rfl)
   go_wp2_with (go_at_call 191;(with_reducible refine cS.mono ?_);rintro e w3 ⟨rfl,hb3⟩;have HB3:=hid hb3;clear hb3)
   go_ret2
   exact⟨rfl,jBd HB3.out⟩
  ·rw[show jRz 115=192 from rfl]at cb
   have cS:=jVb u hok w.drew
   unfold uV at cS
   generalize jCC ⟨true,115⟩ u=z at *
   go_enter Tryz.func200,Tryz.ntmps200
   go_wp2
   go_still_tail 5,(by kernel_rfl)
   go_wp2_with (go_at_call 192;(with_reducible refine cS.mono ?_);rintro e w3 ⟨rfl,hb3⟩;have HB3:=hid hb3;clear hb3)
   go_ret2
   exact⟨rfl,jBd HB3.out⟩
  ·rw[show jRz 112=193 from rfl]at cb
   have cS:=jVV u hok w.drew
   unfold uV at cS
   generalize jCC ⟨true,112⟩ u=z at *
   go_enter Tryz.func200,Tryz.ntmps200
   go_wp2
   go_still_tail 5,(by kernel_rfl)
   go_wp2_with (go_at_call 193;(with_reducible refine cS.mono ?_);rintro e w3 ⟨rfl,hb3⟩;have HB3:=hid hb3;clear hb3)
   go_ret2
   exact⟨rfl,jBd HB3.out⟩
  ·rw[show jRz 104=194 from rfl]at cb
   have cS:=jU1 u hok w.drew
   unfold uV at cS
   generalize jCC ⟨true,104⟩ u=z at *
   go_enter Tryz.func200,Tryz.ntmps200
   go_wp2
   go_still_tail 5,(by kernel_rfl)
   go_wp2_with (go_at_call 194;(with_reducible refine cS.mono ?_);rintro e w3 ⟨rfl,hb3⟩;have HB3:=hid hb3;clear hb3)
   go_ret2
   exact⟨rfl,jBd HB3.out⟩
  ·rw[show jRz 46=195 from rfl]at cb
   have cS:=jWj u w.drew
   unfold uV at cS
   generalize jCC ⟨true,46⟩ u=z at *
   go_enter Tryz.func200,Tryz.ntmps200
   go_wp2
   go_still_tail 5,(by kernel_rfl)
   go_wp2_with (go_at_call 195;(with_reducible refine cS.mono ?_);rintro e w3 ⟨rfl,hb3⟩;have HB3:=hid hb3;clear hb3)
   go_ret2
   exact⟨rfl,jBd HB3.out⟩
end Go.Proofs.YtldapapdolkiaaaGreatDoor
namespace Go.Proofs.YtldapapdolkiaaaGreatDoor
set_option maxHeartbeats 64000000
open Go Go.RowKit Go.Lib
set_option maxRecDepth 100000
theorem jQE (L:List Un)(v:Value)(p:Nat)(w:World)(hU:jGh w v L)(hp:p≤L.length)(hm:L.length≤1000000) :
 Calls Tryz.prog 196 #[v,.int .i64 (p:Int)] w fun e w'=>e=.returned (.tuple #[.int .i64 0,.bool (jDX L p)])∧Below w.heap.size w w':=by
 obtain⟨q,cap,rfl,hl,hc⟩:=hU.form
 unfold maxLen at hc
 have au:=Tryz.isAgg198
 have zu:=Tryz.sizeOf198
 by_cases h0:0<p
 ·have h0I:(0:Int)<(p:Int):=by omega
  by_cases h1:p<L.length
  ·have h1I:(p:Int)<(L.length:Int):=by omega
   obtain⟨A,rfl,hA,x0,x1⟩:=hU.get h1
   obtain⟨A',e,_,y0,y1⟩:=hU.get (show p-1<L.length by omega)
   injection e with e
   subst e
   have HE:=hid (show jDX L p = !(inU (L.getD (p-1) jFs) && inU (L.getD p jFs)) by
    unfold jDX
    rw[show decide (p=0)=false by simp;omega,show decide (p=L.length)=false by simp;omega]
    cases inU (L.getD (p-1) jFs) <;> simp)
   have hwr:IntKind.i64.wrap ((p:Int)-1)=((p-1:Nat):Int):=by rw[IntKind.wrap_i64];omega
   have hq0:(0:Int)≤((p-1:Nat):Int):=by omega
   have hq1:((p-1:Nat):Int)<(L.length:Int):=by omega
   have hp0:(0:Int)≤(p:Int):=by omega
   have hAb:(A.add (p*2)).block<w.heap.size:=by rw[add_block];exact hA
   have cW1:=jJ2 (L.getD (p-1) jFs) w
   have cW2:=fun w'=>jJ2 (L.getD p jFs) w'
   generalize hd:p-1=d at *
   unfold uV at cW1 cW2
   clear hU
   generalize L.getD p jFs=u at *
   generalize L.getD d jFs=u' at *
   generalize inU u=z at *
   generalize jDX L p=E at HE ⊢
   cases hz':inU u'
   ·rw[hz']at cW1 HE
    go_enter Tryz.func196,Tryz.ntmps196
    go_wp2_with (go_at_call 201;(with_reducible refine cW1.mono ?_);rintro e w2 ⟨rfl,hb2⟩;have HB2:=hid hb2;clear hb2)
    go_ret2
    exact⟨by rw[HE.out];rfl,HB2.out⟩
   ·rw[hz']at cW1 HE
    go_enter Tryz.func196,Tryz.ntmps196
    go_wp2_with (first
     | (go_at_call 201;(with_reducible refine cW1.mono ?_);rintro e w2 ⟨rfl,hb2⟩;have HB2:=hid hb2;have x4:=(hb2.cell (p:=A.add (p*2)) hAb).trans x0;have x5:=(hb2.cell (p:={ block:=(A.add (p*2)).block,off:=(A.add (p*2)).off+1 }) hAb).trans x1;clear hb2)
     | (go_at_call 201;(with_reducible refine (cW2 _).mono ?_);rintro e w3 ⟨rfl,hb3⟩;have HB3:=hid (jAa HB2.out hb3);clear hb3))
    go_ret2
    exact⟨by rw[HE.out];rfl,HB3.out⟩
  ·have h1I:¬(p:Int)<(L.length:Int):=by omega
   have HE:=hid (show jDX L p=true by unfold jDX;simp;omega)
   clear hU
   go_enter Tryz.func196,Tryz.ntmps196
   go_wp2
   go_ret2
   exact⟨by rw[HE.out];rfl,Below.refl _ _⟩
 ·have h0I:¬(0:Int)<(p:Int):=by omega
  have HE:=hid (show jDX L p=true by unfold jDX;simp;omega)
  clear hU
  go_enter Tryz.func196,Tryz.ntmps196
  go_wp2
  go_ret2
  exact⟨by rw[HE.out];rfl,Below.refl _ _⟩
end Go.Proofs.YtldapapdolkiaaaGreatDoor
namespace Go.Proofs.YtldapapdolkiaaaGreatDoor
set_option maxHeartbeats 64000000
open Go Go.RowKit Go.Lib
set_option maxRecDepth 100000
def jFm:Ft:=⟨false,0⟩
def jC5 (w:World)(v:Value)(X:List Ft):Prop:=∃us:List Value,us.length=X.length∧jAO w.heap.size w v X.length 1 (ptF us)∧∀i,i<X.length→jDn w (us.getD i jDy) (X.getD i jFm)
theorem jC5.step {w w':World}{v:Value}{X:List Ft}(hb:Below w.heap.size w w')(h:jC5 w v X):jC5 w' v X:=by
 obtain⟨us,h1,h2,h3⟩:=h
 exact⟨us,h1,(jAO.below hb h2).mono hb.size,fun i hi=>(h3 i hi).step hb⟩
theorem jC5.form {w:World}{v:Value}{X:List Ft}(h:jC5 w v X):∃p cap,v=.slice p X.length cap∧X.length≤cap∧cap≤maxLen:=by
 obtain⟨_,_,⟨p,cap,e,h1,h2,_⟩,_⟩:=h
 exact⟨p,cap,e,h1,h2⟩
theorem jC5.get {w:World}{p:Option Addr}{n cap:Nat}{X:List Ft}(h:jC5 w (.slice p n cap) X){i:Nat}(hi:i<X.length):∃A t,p=some A∧w.cell? (A.add i)=some t∧jDn w t (X.getD i jFm):=by
 obtain⟨us,_,⟨p',cap',e,_,_,h3⟩,h4⟩:=h
 injection e with e1 e2 e3
 subst e1
 obtain⟨A,rfl,_,hc⟩:=h3 (by omega)
 have:=hc i 0 hi (by omega)
 rw[show i*1+0=i by omega]at this
 exact⟨A,_,rfl,this,h4 i hi⟩
def jEr (L:List Un)(p:Int)(X:List Ft):Bool:=decide (0≤p) && decide (p+(ftW X:Nat)≤(L.length:Int)) && jEf L p.toNat X
theorem jU3 {L:List Un}{X:List Ft}{k q:Nat}(h:k<X.length):jEf L q (X.drop k)=(if jGR (X.getD k jFm)=true then jDX L q && jEf L q (X.drop (k+1)) else decide (q<L.length) && jCC (X.getD k jFm) (L.getD q jFs) && jEf L (q+1) (X.drop (k+1))):=by
 rw[List.drop_eq_getElem_cons h,List.getD_eq_getElem?_getD,List.getElem?_eq_getElem h]
 rfl
theorem jP7 {X:List Ft}{k:Nat}(h:k<X.length):ftW (X.drop k)=(if jGR (X.getD k jFm)=true then 0 else 1)+ftW (X.drop (k+1)):=by
 rw[List.drop_eq_getElem_cons h,jPf,List.getD_eq_getElem?_getD,List.getElem?_eq_getElem h]
 rfl
theorem jPA (X:List Ft):ftW X≤X.length:=List.length_filter_le _ _
theorem jJw (X:List Ft)(L:List Un)(v vt:Value)(p:Int)(w:World)(hU:jGh w v L)(hX:jC5 w vt X)(hok:∀u ∈ L,okU u)(hx:∀x ∈ X,x.r≠0)(hm:L.length≤100000)(hXl:X.length≤100000)(hp1:-100000≤p)(hp2:p≤100000) :
 Calls Tryz.prog 142 #[.agg #[vt,.int .i64 (ftW X:Nat)],v,.int .i64 p] w fun e w'=>e=.returned (.bool (jEr L p X))∧Below w.heap.size w w':=by
 have HU:=hid hU
 have HX:=hid hX
 obtain⟨q,cap,rfl,hl,hc⟩:=hU.form
 obtain⟨q2,cap2,rfl,hl2,hc2⟩:=hX.form
 unfold maxLen at hc hc2
 have hw:=jPA X
 have ap:=Tryz.isAgg131
 have zp:=Tryz.sizeOf131
 have hwr:IntKind.i64.wrap (p+(ftW X:Nat))=p+(ftW X:Nat):=by rw[IntKind.wrap_i64];omega
 clear hU hX
 obtain⟨W,hW⟩:∃W,ftW X=W:=⟨_,rfl⟩
 by_cases h0:p<0
 ·have HE:=hid (show jEr L p X=false by unfold jEr;simp;omega)
  rw[hW]
  go_enter Tryz.func142,Tryz.ntmps142
  go_wp2
  go_ret
  exact⟨jAc HE.out.symm,jAb _⟩
 ·by_cases h1:(L.length:Int)<p+(ftW X:Nat)
  ·have HE:=hid (show jEr L p X=false by unfold jEr;simp;omega)
   rw[hW]at h1 hwr ⊢
   go_enter Tryz.func142,Tryz.ntmps142
   go_wp2
   go_ret
   exact⟨jAc HE.out.symm,jAb _⟩
  ·obtain⟨n,rfl⟩:∃n:Nat,p=(n:Int):=⟨p.toNat,by omega⟩
   have hnW:n+ftW X≤L.length:=by omega
   have HE:=hid (show jEr L (n:Int) X=jEf L n X by
    unfold jEr
    rw[show decide (0≤(n:Int))=true by simp,show decide ((n:Int)+(ftW X:Nat)≤(L.length:Int))=true by simp;omega]
    simp)
   have HB0:=hid (jAb (w:=w) (.cells #[.slice q2 X.length cap2,.int .i64 (ftW X:Nat)] 131))
   have HOK:=hid hok
   have HNZ:=hid hx
   rw[hW]at h1 hwr HB0 ⊢
   clear hok hx
   go_enter Tryz.func142,Tryz.ntmps142
   go_wp2
   go_loopw [2,25] (fun v2 v25 wr=>∃k m:Nat,v25=.int .i64 k∧v2=.int .i64 m∧k≤X.length∧m+ftW (X.drop k)≤L.length∧Hid (jEf L n X=jEf L m (X.drop k))∧Hid (Below w.heap.size w wr)) (fun _ v25 _=>X.length-(RowKit.intOf v25).toNat)
   case atStart=>exact⟨0,n,rfl,rfl,Nat.zero_le _,hnW,rfl,HB0.out⟩
   case round =>
    obtain⟨k,m,rfl,rfl,hk,hmW,HBE,HB⟩:=hrel
    by_cases hlt:k<X.length
    ·have hki:(k:Int)<(X.length:Int):=by omega
     have hk0:(0:Int)≤(k:Int):=by omega
     obtain⟨A,t,rfl,xt,qAQ⟩:=(HX.out.step HB.out).get hlt
     have hxr:=HNZ.out (X.getD k jFm) (by rw[List.getD_eq_getElem?_getD,List.getElem?_eq_getElem hlt];exact List.getElem_mem hlt)
     have hbd:=jU3 (L:=L) (q:=m) hlt
     have hwd:=jP7 hlt
     have HUr:=hid (HU.out.step HB.out)
     generalize X.getD k jFm=x at *
     rcases qAQ with ⟨hi,rfl⟩ | ⟨hi,b,ask,rfl,hb,ha⟩
     ·rw[if_pos hi]at hbd hwd
      have cB:=jQE L _ m wr HUr.out (by omega) (by omega)
      have hq:IntKind.i64.wrap ((m:Int)+0)=(m:Int):=by rw[IntKind.wrap_i64];omega
      cases hz:jDX L m
      ·rw[hz]at cB hbd
       have HE2:=hid (show jEr L (n:Int) X=false by rw[HE.out,HBE.out,hbd];rfl)
       go_wp2_with (go_at_call 196;(with_reducible refine cB.mono ?_);rintro e w3 ⟨rfl,hb3⟩;have HB3:=hid (jAa HB.out hb3);clear hb3)
       go_ret
       exact⟨jAc HE2.out.symm,HB3.out⟩
      ·rw[hz]at cB hbd
       have qAR:=hid (show jEf L n X=jEf L m (X.drop (k+1)) by rw[HBE.out,hbd];rfl)
       go_wp2_with (go_at_call 196;(with_reducible refine cB.mono ?_);rintro e w3 ⟨rfl,hb3⟩;have HB3:=hid (jAa HB.out hb3);clear hb3)
       go_roundw
       case rel=>exact⟨k+1,m,by go_num,by go_num,by omega,by omega,qAR.out,HB3.out⟩
       case measure=>simp[RowKit.intOf];omega
     ·rw[if_neg (by simp[hi])]at hbd hwd
      have hmL:m<L.length:=by omega
      have cO:=jUM x b ask L _ m wr HUr.out hmL (HOK.out _ (by rw[List.getD_eq_getElem?_getD,List.getElem?_eq_getElem hmL];exact List.getElem_mem hmL)) hxr hb ha
      have hdm:decide (m<L.length)=true:=by simp[hmL]
      rw[hdm]at hbd
      have hq:IntKind.i64.wrap ((m:Int)+1)=((m+1:Nat):Int):=by rw[IntKind.wrap_i64];omega
      clear hdm
      cases hz:jCC x (L.getD m jFs)
      ·rw[hz]at cO hbd
       have HE2:=hid (show jEr L (n:Int) X=false by rw[HE.out,HBE.out,hbd];rfl)
       go_wp2_with (go_at_call 200;(with_reducible refine cO.mono ?_);rintro e w3 ⟨rfl,hb3⟩;have HB3:=hid (jAa HB.out hb3);clear hb3)
       go_ret
       exact⟨jAc HE2.out.symm,HB3.out⟩
      ·rw[hz]at cO hbd
       have qAR:=hid (show jEf L n X=jEf L (m+1) (X.drop (k+1)) by rw[HBE.out,hbd];rfl)
       go_wp2_with (go_at_call 200;(with_reducible refine cO.mono ?_);rintro e w3 ⟨rfl,hb3⟩;have HB3:=hid (jAa HB.out hb3);clear hb3)
       go_roundw
       case rel=>exact⟨k+1,m+1,by go_num,by go_num,by omega,by omega,qAR.out,HB3.out⟩
       case measure=>simp[RowKit.intOf];omega
    ·have hki:¬(k:Int)<(X.length:Int):=by omega
     have HE2:=hid (show jEr L (n:Int) X=true by rw[HE.out,HBE.out,List.drop_of_length_le (by omega)];rfl)
     go_wp2
     go_ret
     exact⟨jAc HE2.out.symm,HB.out⟩
end Go.Proofs.YtldapapdolkiaaaGreatDoor
namespace Go.Proofs.YtldapapdolkiaaaGreatDoor
set_option maxHeartbeats 64000000
open Go Go.RowKit Go.Lib
set_option maxRecDepth 100000
theorem jTP (x:Rl)(L:List Un)(p:Nat)(hp:p≤L.length):(jEr L ((p:Int)-(ftW (items x.b):Nat)) (items x.b) && jEr L (p:Int) (items x.a))=jKF x L p:=by
 unfold jEr jKF
 have e2:(decide (0≤(p:Int)) && decide ((p:Int)+(ftW (items x.a):Nat)≤(L.length:Int)) && jEf L (p:Int).toNat (items x.a))=jEf L p (items x.a):=by
  rw[show (p:Int).toNat=p by omega]
  by_cases h:(p:Int)+(ftW (items x.a):Nat)≤(L.length:Int)
  ·simp[h]
  ·rw[jK1 (items x.a) p (by omega) hp]
   simp
 rw[e2]
 by_cases h:ftW (items x.b)≤p
 ·rw[show ((p:Int)-(ftW (items x.b):Nat)).toNat=p-ftW (items x.b) by omega,show decide (0≤(p:Int)-(ftW (items x.b):Nat))=true by simp;omega,show decide ((p:Int)-(ftW (items x.b):Nat)+(ftW (items x.b):Nat)≤(L.length:Int))=true by simp;omega,show decide (ftW (items x.b)≤p)=true by simp[h],Bool.true_and]
 ·rw[show decide (0≤(p:Int)-(ftW (items x.b):Nat))=false by simp;omega,show decide (ftW (items x.b)≤p)=false by simp;omega]
  simp
theorem jQu {W:World}{Bn t:Nat}{a b c d e:Value}(h:W.heap[Bn]? = some (.cells #[a,b,c,d,e] t (0,0))):W.cell? ⟨Bn,2,none⟩=some c∧W.cell? ⟨Bn,3,none⟩=some d :=
 ⟨(Lib.cell_of_heap h 2).trans rfl,(Lib.cell_of_heap h 3).trans rfl⟩
theorem jVD (w:World)(o:Obj):(w.alloc o).heap[w.heap.size]? = some o:=by show (w.heap.push o)[w.heap.size]? = some o;exact Array.getElem?_push_size
theorem jMd (X Y:List Ft)(k:Bool)(L:List Un)(v vx vy:Value)(p:Nat)(w:World)(hU:jGh w v L)(hX:jC5 w vx X)(hY:jC5 w vy Y)(hok:∀u ∈ L,okU u)(hx:∀x ∈ X,x.r≠0)(hy:∀x ∈ Y,x.r≠0)(hm:L.length≤50000)(hXl:X.length≤50000)(hYl:Y.length≤50000)(hp:p≤90000) :
 Calls Tryz.prog 78 #[.agg #[vx,.int .i64 (ftW X:Nat),vy,.int .i64 (ftW Y:Nat),.bool k],v,.int .i64 (p:Int)] w fun e w'=>e=.returned (.bool (jEr L ((p:Int)-(ftW X:Nat)) X && jEr L (p:Int) Y))∧Below w.heap.size w w':=by
 have HU:=hid hU
 have HX:=hid hX
 have HY:=hid hY
 obtain⟨q,cap,rfl,hl,hc⟩:=hU.form
 obtain⟨q2,cap2,rfl,hl2,hc2⟩:=hX.form
 obtain⟨q3,cap3,rfl,hl3,hc3⟩:=hY.form
 unfold maxLen at hc hc2 hc3
 have hw:=jPA X
 have ap:=Tryz.isAgg131
 have zp:=Tryz.sizeOf131
 have ab:=Tryz.isAgg133
 have zb:=Tryz.sizeOf133
 have hwr:IntKind.i64.wrap ((p:Int)-(ftW X:Nat))=(p:Int)-(ftW X:Nat):=by rw[IntKind.wrap_i64];omega
 have c1:=fun w' hu hx'=>jJw X L (.slice q L.length cap) (.slice q2 X.length cap2) ((p:Int)-(ftW X:Nat)) w' hu hx' hok hx (by omega) (by omega) (by omega) (by omega)
 have c2:=fun w' hu hx'=>jJw Y L (.slice q L.length cap) (.slice q3 Y.length cap3) (p:Int) w' hu hx' hok hy (by omega) (by omega) (by omega) (by omega)
 have HB0:=hid (jAb (w:=w) (.cells #[.slice q2 X.length cap2,.int .i64 (ftW X:Nat),.slice q3 Y.length cap3,.int .i64 (ftW Y:Nat),.bool k] 133))
 clear hU hX hY hok hx hy
 generalize jEr L ((p:Int)-(ftW X:Nat)) X=z1 at *
 generalize jEr L (p:Int) Y=z2 at *
 generalize (ftW X:Nat)=W at *
 generalize (ftW Y:Nat)=W2 at *
 cases z1
 ·go_enter Tryz.func78,Tryz.ntmps78
  go_wp2_with (go_at_call 142;(with_reducible refine (c1 _ (HU.out.step HB0.out) (HX.out.step HB0.out)).mono ?_);rintro e w3 ⟨rfl,hb3⟩;have HB3:=hid (jAa HB0.out hb3);clear hb3)
  go_ret
  exact⟨rfl,HB3.out⟩
 ·go_enter Tryz.func78,Tryz.ntmps78
  go_wp2_with (first
   | (go_at_call 142;(with_reducible refine (c1 _ (HU.out.step HB0.out) (HX.out.step HB0.out)).mono ?_);rintro e w3 ⟨rfl,hb3⟩;have HB3:=hid (jAa HB0.out hb3);obtain⟨y2,y3⟩:=jQu ((hb3.block w.heap.size (by show w.heap.size<(w.heap.push _).size;rw[Array.size_push];omega)).trans (jVD _ _));clear hb3)
   | (go_at_call 142;(with_reducible refine (c2 _ (HU.out.step HB3.out) (HY.out.step HB3.out)).mono ?_);rintro e w4 ⟨rfl,hb4⟩;have HB4:=hid (jAa HB3.out hb4);clear hb4))
  go_ret
  exact⟨by simp,HB4.out⟩
end Go.Proofs.YtldapapdolkiaaaGreatDoor
