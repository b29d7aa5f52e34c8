/- What text is: the decoder and the encoder undo each other just where a string is valid UTF-8; no run of any program here. Pieces as data: which lists are valid, how they are written. No run of any program here. Pieces: what the program's small functions return: carried tags, special bytes, names, classes of runes. Pieces: names, misplaced tags and neighbours, as the program tells them. -/
import Derived.Lib.ValidLaws
import Derived.Lib.MapLaws
import Derived.Laws.Cover4
import Derived.Laws.IdiomStrings
import Derived.Test.YtldapapdolkiaaaGreatDoorProg
import Derived.WalkKit
import Derived.WalkSpells
import Derived.WalkLawsBesides
import Derived.Lib.Hide
import Derived.Deep.QuietTactic
import Derived.Deep.LoopGhost
import Derived.Lib.OthersKept
import Derived.BigQuiet
import Derived.WalkSmall
namespace Go.Proofs.YtldapapdolkiaaaGreatDoor
set_option maxHeartbeats 64000000
open Go Go.Lib
theorem u8 {b:UInt8}{n:Nat}(h:n=b.toNat):UInt8.ofNat n=b:=by subst h;exact UInt8.ofNat_toNat
theorem enc1 {c:Nat}(h:c<128):(Utf8.encode (c:Int)).data.toList=[UInt8.ofNat c]:=by
 have hv:Utf8.valid (c:Int)=true:=by simp[Utf8.valid];omega
 unfold Utf8.encode;simp[hv,h]
theorem enc2 {c:Nat}(h:128≤c)(h2:c<2048):(Utf8.encode (c:Int)).data.toList=[UInt8.ofNat (192+c / 64),UInt8.ofNat (128+c % 64)]:=by
 have hv:Utf8.valid (c:Int)=true:=by simp[Utf8.valid];omega
 unfold Utf8.encode;simp[hv,h2,show ¬c<128 by omega]
theorem enc3 {c:Nat}(h:2048≤c)(h2:c<65536)(hv':c<55296∨57344≤c):(Utf8.encode (c:Int)).data.toList=[UInt8.ofNat (224+c / 4096),UInt8.ofNat (128+c / 64 % 64),UInt8.ofNat (128+c % 64)]:=by
 have hv:Utf8.valid (c:Int)=true:=by simp[Utf8.valid];omega
 unfold Utf8.encode;simp[hv,h2,show ¬c<128 by omega,show ¬c<2048 by omega]
theorem enc4 {c:Nat}(h:65536≤c)(h2:c≤1114111):(Utf8.encode (c:Int)).data.toList=[UInt8.ofNat (240+c / 262144),UInt8.ofNat (128+c / 4096 % 64),UInt8.ofNat (128+c / 64 % 64),UInt8.ofNat (128+c % 64)]:=by
 have hv:Utf8.valid (c:Int)=true:=by simp[Utf8.valid];omega
 unfold Utf8.encode;simp[hv,show ¬c<128 by omega,show ¬c<2048 by omega,show ¬c<65536 by omega]
theorem roundtrip (l:List UInt8)(hne:l≠[])(h:¬((decodeL l).1=65533∧(decodeL l).2=1)):(Utf8.encode ((decodeL l).1:Int)).data.toList=l.take (decodeL l).2:=by
 rw[decodeL_N]at h ⊢
 match l,hne with
 | b0 :: t,_ =>
   have k0:=b0.toNat_lt
   rcases t with _ | ⟨b1,t⟩
   ·simp only[List.getD_cons_zero,List.length_cons,List.length_nil]at h ⊢
    unfold decodeN at h ⊢
    by_cases c0:b0.toNat<128
    ·rw[if_pos c0];rw[enc1 c0];simp
    ·rw[if_neg c0]at h ⊢;simp at h
   ·have k1:=b1.toNat_lt
    rcases t with _ | ⟨b2,t⟩
    ·simp only[List.getD_cons_zero,List.getD_cons_succ,List.length_cons,List.length_nil]at h ⊢
     unfold decodeN at h ⊢
     by_cases c0:b0.toNat<128
     ·rw[if_pos c0];rw[enc1 c0];simp
     ·rw[if_neg c0]at h ⊢
      by_cases c1:b0.toNat / 32=6∧(1<0+1+1∧b1.toNat / 64=2)
      ·rw[if_pos c1]at h ⊢
       by_cases c2:b0.toNat % 32*64+b1.toNat % 64 ≥ 128
       ·rw[if_pos c2]
        rw[enc2 c2 (by omega)]
        simp only[List.take_succ_cons,List.take_zero]
        rw[u8 (b:=b0) (by omega),u8 (b:=b1) (by omega)]
       ·rw[if_neg c2]at h;simp at h
      ·rw[if_neg c1]at h ⊢;simp at h
    ·have k2:=b2.toNat_lt
     rcases t with _ | ⟨b3,t⟩
     all_goals
      simp only[List.getD_cons_zero,List.getD_cons_succ,List.length_cons,List.length_nil]at h ⊢
      unfold decodeN at h ⊢
      by_cases c0:b0.toNat<128
      ·rw[if_pos c0];rw[enc1 c0];simp
      ·rw[if_neg c0]at h ⊢
       split at h
       ·rename_i c1
        rw[if_pos c1]
        split at h
        ·rename_i c2
         rw[if_pos c2,enc2 c2 (by omega)]
         simp only[List.take_succ_cons,List.take_zero]
         rw[u8 (b:=b0) (by omega),u8 (b:=b1) (by omega)]
        ·simp at h
       ·rename_i c1
        rw[if_neg c1]
        split at h
        ·rename_i c2
         rw[if_pos c2]
         split at h
         ·rename_i c3
          rw[if_pos c3,enc3 (by omega) (by omega) (by omega)]
          simp only[List.take_succ_cons,List.take_zero]
          rw[u8 (b:=b0) (by omega),u8 (b:=b1) (by omega),u8 (b:=b2) (by omega)]
         ·simp at h
        ·rename_i c2
         rw[if_neg c2]
         split at h
         ·rename_i c3
          rw[if_pos c3]
          first
          | (exfalso;omega)
          | (have k3:=b3.toNat_lt
             split at h
             ·rename_i c4
              rw[if_pos c4,enc4 (by omega) (by omega)]
              simp only[List.take_succ_cons,List.take_zero]
              rw[u8 (b:=b0) (by omega),u8 (b:=b1) (by omega),u8 (b:=b2) (by omega),u8 (b:=b3) (by omega)]
             ·simp at h)
         ·simp at h
theorem jU7 (rest:List UInt8):decodeL ((Utf8.encode (65533:Int)).data.toList++rest)=(65533,3):=by
 have e:(Utf8.encode (65533:Int)).data.toList=[239,191,189]:=by decide +kernel
 rw[e,decodeL_N]
 simp only[List.cons_append,List.getD_cons_zero,List.getD_cons_succ,List.length_cons,List.nil_append]
 unfold decodeN
 have e0:(239:UInt8).toNat=239:=rfl
 have e1:(191:UInt8).toNat=191:=rfl
 have e2:(189:UInt8).toNat=189:=rfl
 rw[e0,e1,e2]
 rw[if_neg (by omega),if_neg (by omega),if_pos (by omega),if_pos (by omega)]
def jBy:Nat→List UInt8→List Nat
 | 0,_=>[]
 | n+1,l=>if l=[] then [] else (decodeL l).1 :: jBy n (l.drop (decodeL l).2)
def jE8 (rs:List Nat):List UInt8:=rs.flatMap fun r:Nat=>(Utf8.encode (r:Int)).data.toList
theorem jYv:∀ (n:Nat) (l:List UInt8),l.length≤n→(jE8 (jBy n l)=l↔validGoD n l=true):=by
 intro n
 induction n with
 | zero=>intro l h;cases l with
   | nil=>simp[jBy,jE8,validGoD]
   | cons _ _=>simp at h
 | succ n ih =>
   intro l h
   by_cases hl:l=[]
   ·subst hl;simp[jBy,jE8,validGoD]
   ·simp only[jBy,validGoD,if_neg hl]
    have hw:=decodeL_width l
    by_cases hb:(decodeL l).1=65533∧(decodeL l).2=1
    ·rw[if_pos hb]
     simp only[jE8,List.flatMap_cons]
     constructor
     ·intro e
      exfalso
      rw[hb.1]at e
      have:=jU7 (List.flatMap (fun r:Nat=>(Utf8.encode (r:Int)).data.toList) (jBy n (List.drop (decodeL l).2 l)))
      rw[show ((65533:Nat):Int)=65533 from rfl]at e
      rw[e]at this
      rw[this]at hb
      simp at hb
     ·intro e;cases e
    ·rw[if_neg hb]
     rw[←ih (l.drop (decodeL l).2) (by simp;omega)]
     have hr:=roundtrip l hl hb
     simp only[jE8,List.flatMap_cons]
     rw[hr]
     constructor
     ·intro e
      have e':List.take (decodeL l).2 l++List.flatMap (fun r:Nat=>(Utf8.encode (r:Int)).data.toList) (jBy n (List.drop (decodeL l).2 l))=List.take (decodeL l).2 l++List.drop (decodeL l).2 l:=by rw[List.take_append_drop];exact e
      exact List.append_cancel_left e'
     ·intro e
      rw[e,List.take_append_drop]
end Go.Proofs.YtldapapdolkiaaaGreatDoor
namespace Go.Proofs.YtldapapdolkiaaaGreatDoor
set_option maxHeartbeats 64000000
open Go Go.Lib
structure Pc where
 k:Int
 s:ByteArray
 c:Bool
def ctl (r:Nat):Bool:=decide (r<32) || decide (r=127)
def jBK (s:ByteArray):Bool:=validD s.data.toList && (jBy s.data.toList.length s.data.toList).all fun r=>!ctl r
def isL (c:Int):Bool:=decide (97≤c) && decide (c≤122)
def isT (c:Int):Bool:=isL c || (decide (48≤c) && decide (c≤57)) || decide (c=45)
def jYz (p:Int→Bool)(s:ByteArray):Bool:=s.data.toList.all fun b=>p (b.toNat:Int)
def jDi (s:ByteArray):Bool:=decide (1≤s.size) && decide (s.size≤16) && isL ((s.get! 0).toNat:Int) && jYz isT s
def jA8 (x:Pc):Int :=
 if x.k<1∨5<x.k then 1
 else if x.c=true∧x.k≠2∧x.k≠3 then 1
 else if x.k=1 then (if x.s.size=0∨jBK x.s=false then 4 else 0)
 else if jDi x.s=true then 0 else 5
def coB (x:Pc):Bool:=decide (x.k=2) && x.c
def ccB (x:Pc):Bool:=decide (x.k=3) && x.c
def jJJ (a p:Pc):Bool:=(coB p && !coB a) || (ccB a && !ccB p)
def jRQ (a p:Pc):Int:=if p.k=1∧a.k=1 then 4 else if jJJ a p=true then 8 else 0
def jJF (op:List ByteArray)(x:Pc):Except Int (List ByteArray) :=
 if x.k=2 then (if op.length+1 > 16 then .error 3 else .ok (op++[x.s]))
 else if x.k=3 then (if op.getLast? = some x.s then .ok op.dropLast else .error 9)
 else .ok op
def nil:Pc:=⟨0,⟨#[]⟩,false⟩
def jCB (l:List Pc)(i:Nat):Int :=
 if jA8 (l.getD i nil)≠0 then jA8 (l.getD i nil)
 else if i=0 then 0 else jRQ (l.getD (i-1) nil) (l.getD i nil)
def jC4 (l:List Pc):Nat→Except Int (List ByteArray)
 | 0=>.ok []
 | i+1=>match jC4 l i with
   | .error e=>.error e
   | .ok op=>if jCB l i≠0 then .error (jCB l i) else jJF op (l.getD i nil)
def jAu (l:List Pc):Int :=
 if 512<l.length then 3 else match jC4 l l.length with
  | .error e=>e
  | .ok op=>if op=[] then 0 else 9
theorem jKD {l:List Pc}{i:Nat}{e:Int}(h:jC4 l i=.error e):∀n,i≤n→jC4 l n=.error e:=by
 intro n hn
 induction n with
 | zero =>
    obtain rfl:i=0:=by omega
    exact h
 | succ n ih =>
   by_cases e':i=n+1
   ·subst e';exact h
   ·simp only[jC4,ih (by omega)]
theorem jXM {l:List Pc}{n:Nat}{op:List ByteArray}(h:jC4 l n=.ok op):∀i,i≤n→∃o,jC4 l i=.ok o:=by
 intro i hi
 cases e:jC4 l i with
 | ok o=>exact⟨o,rfl⟩
 | error x=>rw[jKD e n hi]at h;cases h
theorem jNg {l:List Pc}{n:Nat}{op:List ByteArray}(h:jC4 l n=.ok op):∀i,i<n→jCB l i=0:=by
 intro i hi
 obtain⟨o,ho⟩:=jXM h (i+1) (by omega)
 simp only[jC4]at ho
 cases e:jC4 l i with
 | error x=>rw[e]at ho;cases ho
 | ok o' =>
   rw[e]at ho
   by_cases h0:jCB l i=0
   ·exact h0
   ·simp only[ne_eq,h0,not_false_eq_true,if_true]at ho;cases ho
theorem jBQ {l:List Pc}{i:Nat}{e:Int}(h0:¬512<l.length)(h:jC4 l i=.error e)(hi:i≤l.length):jAu l=e:=by
 unfold jAu
 rw[if_neg h0,jKD h _ hi]
theorem jMw {l:List Pc}{op:List ByteArray}(h0:¬512<l.length)(h:jC4 l l.length=.ok op):jAu l=if op=[] then 0 else 9:=by
 unfold jAu
 rw[if_neg h0,h]
theorem jHE {l:List Pc}(h0:512<l.length):jAu l=3:=by
 unfold jAu
 rw[if_pos h0]
theorem jIx {l:List Pc}{n:Nat}{op:List ByteArray}(h:jC4 l n=.ok op):∀i,i<n→jA8 (l.getD i nil)=0:=by
 intro i hi
 have:=jNg h i hi
 unfold jCB at this
 by_cases h0:jA8 (l.getD i nil)=0
 ·exact h0
 ·simp only[ne_eq,h0,not_false_eq_true,if_true]at this
def jRA (l:List Pc)(i:Nat):Bool:=(List.range i).any fun k=>jJJ (l.getD k nil) (l.getD i nil)
def jFx (l:List Pc)(i:Nat):Int :=
 if (l.getD i nil).k<1∨5<(l.getD i nil).k then 1
 else if (l.getD i nil).c=true∧(l.getD i nil).k≠2∧(l.getD i nil).k≠3 then 1
 else if (l.getD i nil).k=1∧((l.getD i nil).s.size=0∨jBK (l.getD i nil).s=false∨(0<i∧(l.getD (i-1) nil).k=1)) then 4
 else if (l.getD i nil).k≠1∧jDi (l.getD i nil).s=false then 5 else 0
def refE (l:List Pc)(i:Nat):Int:=if jFx l i≠0 then jFx l i else if jRA l i=true then 8 else 0
def special (b:UInt8):Bool:=b == 92 || b == 60 || b == 123
def esc (s:List UInt8):List UInt8:=s.flatMap fun b=>if special b then [92,b] else [b]
def jHV (k:Int)(c:Bool):List UInt8:=if k=5 then [123] else if k=3 then (if c then [60,47,43] else [60,47]) else if c=true∧k=2 then [60,43] else [60]
def jIi (k:Int):List UInt8:=if k=5 then [125] else if k=4 then [47,62] else [62]
def wB (x:Pc):List UInt8:=if x.k=1 then esc x.s.data.toList else jHV x.k x.c++x.s.data.toList++jIi x.k
def jXJ (l:List Pc):List UInt8:=l.flatMap wB
def jEC (l:List Pc):List UInt8:=l.flatMap fun x=>if x.k=1 then x.s.data.toList else []
def bytes (l:List UInt8):ByteArray:=⟨l.toArray⟩
def writeB (l:List Pc):List UInt8:=if jAu l≠0 then [] else if 65536<(jXJ l).length then [] else jXJ l
def writeE (l:List Pc):Int:=if jAu l≠0 then jAu l else if 65536<(jXJ l).length then 3 else 0
def bulk (l:List Pc):Nat:=l.length+(l.map fun x=>x.s.size).sum
theorem jBY (x:Pc)(l:List Pc):bulk (x :: l)=bulk l+x.s.size+1:=by unfold bulk;simp;omega
theorem jLe {l:List Pc}{i:Nat}(hi:i<l.length):l[i].s.size+l.length≤bulk l:=by
 induction l generalizing i with
 | nil=>simp at hi
 | cons x l ih =>
   rw[jBY]
   cases i with
   | zero =>
     have:l.length≤bulk l:=by unfold bulk;omega
     simp;omega
   | succ i =>
     have:=ih (i:=i) (by simpa using hi)
     simp;omega
end Go.Proofs.YtldapapdolkiaaaGreatDoor
namespace Go.Proofs.YtldapapdolkiaaaGreatDoor
set_option maxHeartbeats 64000000
open Go Go.RowKit
def pcV (x:Pc):Value:=.agg #[.int .u8 x.k,.string x.s,.bool x.c]
theorem jAc {a b:Bool}(h:a=b):Ending.returned (.bool a)=.returned (.bool b):=by rw[h]
theorem jAQ {a b:Int}(h:a=b):Ending.returned (.int .u8 a)=.returned (.int .u8 b):=by rw[h]
theorem jAb {w:World}(o:Obj):Below w.heap.size w (w.alloc o):=(Below.refl _ _).alloc (Nat.le_refl _) _
theorem jBI (x:Pc)(w:World):Calls Tryz.prog 51 #[pcV x] w fun e w'=>e=.returned (.bool (coB x))∧Below w.heap.size w w':=by
 obtain⟨k,s,c⟩:=x
 unfold coB pcV
 have ag:=Tryz.isAgg76
 have zg:=Tryz.sizeOf76
 by_cases h:k=2 <;> cases c
 all_goals
  go_enter Tryz.func51,Tryz.ntmps51
  go_wp2
  go_ret
  exact⟨jAc (by simp[h]),jAb _⟩
theorem jBB (x:Pc)(w:World):Calls Tryz.prog 52 #[pcV x] w fun e w'=>e=.returned (.bool (ccB x))∧Below w.heap.size w w':=by
 obtain⟨k,s,c⟩:=x
 unfold ccB pcV
 have ag:=Tryz.isAgg76
 have zg:=Tryz.sizeOf76
 by_cases h:k=3 <;> cases c
 all_goals
  go_enter Tryz.func52,Tryz.ntmps52
  go_wp2
  go_ret
  exact⟨jAc (by simp[h]),jAb _⟩
def Cls (w:World):Prop:=∀c,c<128→∃z:Int,w.cell? ⟨1,c,none⟩=some (.int .u8 z)∧(z=0↔ctl c=true)
theorem Cls.below {B:Nat}{w w':World}(h:Cls w)(hb:Below B w w')(hB:1<B):Cls w':=fun c hc=>by
 obtain⟨z,h1,h2⟩:=h c hc
 exact⟨z,by rw[hb.cell (p:=⟨1,c,none⟩) hB];exact h1,h2⟩
theorem jOp (r:Nat)(w:World)(hr:r≤2147483647)(hC:Cls w) :
 Calls Tryz.prog 128 #[.int .i32 (r:Int)] w fun e w'=>(∃z:Int,e=.returned (.int .u8 z)∧(z=0↔ctl r=true))∧w'=w:=by
 by_cases h:127<r
 ·have hc:ctl r=false:=by unfold ctl;simp;omega
  have HC:=Lib.hid hc;clear hc
  go_enter Tryz.func128,Tryz.ntmps128
  go_wp2
  go_ret
  exact⟨⟨1,rfl,by rw[HC.out];simp⟩,rfl⟩
 ·obtain⟨z,h1,h2⟩:=hC r (by omega)
  have H2:=Lib.hid h2;clear h2
  clear hC
  go_enter Tryz.func128,Tryz.ntmps128
  go_wp2
  go_ret
  exact⟨⟨z,rfl,H2.out⟩,rfl⟩
end Go.Proofs.YtldapapdolkiaaaGreatDoor
namespace Go.Proofs.YtldapapdolkiaaaGreatDoor
set_option maxHeartbeats 64000000
open Go Go.RowKit
set_option maxRecDepth 100000
theorem jAa {w wr w':World}(h:Below w.heap.size w wr)(hb:Below wr.heap.size wr w'):Below w.heap.size w w':=h.trans (hb.mono h.size)
def pcC (x:Pc):Obj:=.cells #[.int .u8 x.k,.string x.s,.bool x.c] 76
def Boxed (b:Nat)(x:Pc)(wr:World):Prop:=wr.cell? ⟨b,0,none⟩=some (.int .u8 x.k)∧wr.cell? ⟨b,1,none⟩=some (.string x.s)∧wr.cell? ⟨b,2,none⟩=some (.bool x.c)∧b<wr.heap.size
theorem Boxed.step {b:Nat}{x:Pc}{wr w':World}(hb:Below wr.heap.size wr w')(h:Boxed b x wr):Boxed b x w':=by
 obtain⟨h0,h1,h2,h3⟩:=h
 exact⟨by rw[hb.cell (p:=⟨b,0,none⟩) h3];exact h0,by rw[hb.cell (p:=⟨b,1,none⟩) h3];exact h1,by rw[hb.cell (p:=⟨b,2,none⟩) h3];exact h2,Nat.lt_of_lt_of_le h3 hb.size⟩
theorem Boxed.new (w:World)(x:Pc):Boxed w.heap.size x (w.alloc (pcC x)):=by
 refine⟨?_,?_,?_,?_⟩ <;> simp[pcC]
def Box2 (w:World)(a p:Pc)(wr:World):Prop:=Boxed w.heap.size a wr∧Boxed (w.heap.size+1) p wr∧Below w.heap.size w wr
theorem Box2.step {w:World}{a p:Pc}{wr w':World}(hb:Below wr.heap.size wr w')(h:Box2 w a p wr):Box2 w a p w' :=
 ⟨h.1.step hb,h.2.1.step hb,jAa h.2.2 hb⟩
theorem Box2.make {w:World}{a p:Pc}{w':World}(hb:Below ((w.alloc (pcC a)).alloc (pcC p)).heap.size ((w.alloc (pcC a)).alloc (pcC p)) w'):Box2 w a p w':=by
 have h:Box2 w a p ((w.alloc (pcC a)).alloc (pcC p)):=by
  refine⟨(Boxed.new w a).step (jAb _),?_,((Below.refl _ _).alloc (Nat.le_refl _) _).alloc (by simp) _⟩
  have:=Boxed.new (w.alloc (pcC a)) p
  simpa using this
 exact h.step hb
theorem jEt (a p:Pc)(w:World):Calls Tryz.prog 61 #[pcV a,pcV p] w fun e w'=>e=.returned (.bool (jJJ a p))∧Below w.heap.size w w':=by
 have ag:=Tryz.isAgg76
 have zg:=Tryz.sizeOf76
 have HM:=Lib.hid (show jJJ a p=((coB p && !coB a) || (ccB a && !ccB p)) from rfl)
 have A1:=fun w=>jBI a w
 have A2:=fun w=>jBB a w
 have P1:=fun w=>jBI p w
 have P2:=fun w=>jBB p w
 unfold pcV at *
 cases h1:coB a <;> cases h2:ccB a <;> cases h3:coB p <;> cases h4:ccB p
 all_goals
  rw[h1]at A1
  rw[h2]at A2
  rw[h3]at P1
  rw[h4]at P2
  go_enter Tryz.func61,Tryz.ntmps61
  go_wp2_with (first
   | (go_at_call 51;(with_reducible refine (P1 _).mono ?_);rintro e w2 ⟨rfl,hb2⟩;have T2:Box2 w a p w2:=Box2.make hb2;have X2:=T2;obtain⟨⟨x0,x1,x2,x3⟩,⟨y0,y1,y2,y3⟩,z0⟩:=X2)
   | (go_at_call 51;(with_reducible refine (A1 _).mono ?_);rintro e w3 ⟨rfl,hb3⟩;have T3:Box2 w a p w3:=Box2.step hb3 (by assumption);have X3:=T3;obtain⟨⟨x0,x1,x2,x3⟩,⟨y0,y1,y2,y3⟩,z0⟩:=X3)
   | (go_at_call 52;(with_reducible refine (A2 _).mono ?_);rintro e w4 ⟨rfl,hb4⟩;have T4:Box2 w a p w4:=Box2.step hb4 (by assumption);have X4:=T4;obtain⟨⟨x0,x1,x2,x3⟩,⟨y0,y1,y2,y3⟩,z0⟩:=X4)
   | (go_at_call 52;(with_reducible refine (P2 _).mono ?_);rintro e w5 ⟨rfl,hb5⟩;have T5:Box2 w a p w5:=Box2.step hb5 (by assumption);have X5:=T5;obtain⟨⟨x0,x1,x2,x3⟩,⟨y0,y1,y2,y3⟩,z0⟩:=X5))
  go_ret
  exact⟨jAc (by rw[HM.out,h1,h2,h3,h4];rfl),by assumption⟩
theorem jFK (a p:Pc)(w:World):Calls Tryz.prog 98 #[pcV a,pcV p] w fun e w'=>e=.returned (.int .u8 (jRQ a p))∧Below w.heap.size w w':=by
 have ag:=Tryz.isAgg76
 have zg:=Tryz.sizeOf76
 have HM:=Lib.hid (show jRQ a p=if p.k=1∧a.k=1 then 4 else if jJJ a p=true then 8 else 0 from rfl)
 obtain⟨ka,sa,ca⟩:=a
 obtain⟨kp,sp,cp⟩:=p
 by_cases h1:kp=1 <;> by_cases h2:ka=1
 all_goals
  try subst h1
  try subst h2
 ·unfold pcV
  go_enter Tryz.func98,Tryz.ntmps98
  go_wp2
  go_ret
  exact⟨jAQ (by rw[HM.out];simp),((Below.refl _ _).alloc (Nat.le_refl _) _).alloc (by simp) _⟩
 ·have M:=fun w=>jEt ⟨ka,sa,ca⟩ ⟨1,sp,cp⟩ w
  unfold pcV at *
  generalize jJJ ⟨ka,sa,ca⟩ ⟨1,sp,cp⟩=B at *
  cases B
  all_goals
   go_enter Tryz.func98,Tryz.ntmps98
   go_wp2_with (go_at_call 61;(with_reducible refine (M _).mono ?_);rintro e w2 ⟨rfl,hb2⟩;have T2:Box2 w ⟨ka,sa,ca⟩ ⟨1,sp,cp⟩ w2:=Box2.make hb2;have z0:=T2.2.2)
   go_ret
   exact⟨jAQ (by rw[HM.out];simp[h2]),z0⟩
 ·have M:=fun w=>jEt ⟨1,sa,ca⟩ ⟨kp,sp,cp⟩ w
  unfold pcV at *
  generalize jJJ ⟨1,sa,ca⟩ ⟨kp,sp,cp⟩=B at *
  cases B
  all_goals
   go_enter Tryz.func98,Tryz.ntmps98
   go_wp2_with (go_at_call 61;(with_reducible refine (M _).mono ?_);rintro e w2 ⟨rfl,hb2⟩;have T2:Box2 w ⟨1,sa,ca⟩ ⟨kp,sp,cp⟩ w2:=Box2.make hb2;have z0:=T2.2.2)
   go_ret
   exact⟨jAQ (by rw[HM.out];simp[h1]),z0⟩
 ·have M:=fun w=>jEt ⟨ka,sa,ca⟩ ⟨kp,sp,cp⟩ w
  unfold pcV at *
  generalize jJJ ⟨ka,sa,ca⟩ ⟨kp,sp,cp⟩=B at *
  cases B
  all_goals
   go_enter Tryz.func98,Tryz.ntmps98
   go_wp2_with (go_at_call 61;(with_reducible refine (M _).mono ?_);rintro e w2 ⟨rfl,hb2⟩;have T2:Box2 w ⟨ka,sa,ca⟩ ⟨kp,sp,cp⟩ w2:=Box2.make hb2;have z0:=T2.2.2)
   go_ret
   exact⟨jAQ (by rw[HM.out];simp[h1]),z0⟩
end Go.Proofs.YtldapapdolkiaaaGreatDoor
