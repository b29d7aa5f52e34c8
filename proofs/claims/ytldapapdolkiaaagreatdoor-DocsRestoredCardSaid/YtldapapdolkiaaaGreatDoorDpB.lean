/- Names and texts of pieces, and what a piece has wrong by itself, as the program tells it. The stack of open tags: push, top, pop, follow, as the program does them on a stack that a call has made itself. A list of pieces in memory; which lists are valid, as the program tells it. How lists of pieces are written, as the program does it: texts with their special bytes, marks, lists. Lists of pieces written, and their texts, as the program does it. The texts of a list of pieces, by a strings.Builder that the call has made itself. -/
import Derived.Test.YtldapapdolkiaaaGreatDoorDpA
import Derived.Test.YtldapapdolkiaaaGreatDoorDps
import Derived.Lib.Builder
import Derived.Deep.RegionHeld3
import Derived.Laws.IdiomStrings
import Derived.Lib.BufferRead
namespace Go.Proofs.YtldapapdolkiaaaGreatDoor
set_option maxHeartbeats 64000000
open Go Go.RowKit Go.Lib
set_option maxRecDepth 100000
theorem jBb (s:ByteArray):s.data.toList.length=s.size:=rfl
def okR (s:ByteArray)(fuel pos:Nat):Bool:=(jBy fuel (s.data.toList.drop pos)).all fun r=>!ctl r
theorem jWt (s:ByteArray)(fuel pos:Nat)(hp:pos<s.size):okR s (fuel+1) pos=(!ctl (Utf8.decode s pos).1 && okR s fuel (pos+(Utf8.decode s pos).2)):=by
 unfold okR
 have hne:s.data.toList.drop pos≠[]:=by
  intro h
  have:=congrArg List.length h
  rw[List.length_drop,jBb]at this
  simp at this;omega
 simp only[jBy,if_neg hne,List.all_cons,decodeL_drop,List.drop_drop]
theorem jYw (s:ByteArray)(fuel pos:Nat)(hp:¬pos<s.size):okR s fuel pos=true:=by
 unfold okR
 have h:s.data.toList.drop pos=[]:=by
  apply List.drop_eq_nil_of_le
  rw[jBb];omega
 rw[h]
 cases fuel <;> simp[jBy]
theorem jV4 (s:ByteArray):jBK s=(validD s.data.toList && okR s s.size 0):=rfl
def Tabs (w:World):Prop:=Cls w∧Lib.Utf8Tabs (laysValid_ren.g 3) (laysValid_ren.g 4) w∧5≤w.heap.size
theorem Tabs.step {w w':World}(h:Tabs w)(hb:Below w.heap.size w w'):Tabs w' :=
 ⟨h.1.below hb (by have:=h.2.2;omega),Utf8Tabs_below h.2.1 hb,Nat.le_trans h.2.2 hb.size⟩
theorem jKx (s:ByteArray)(w:World)(hs:s.size≤maxLen)(hT:Tabs w) :
 Calls Tryz.prog 134 #[.string s] w fun e w'=>e=.returned (.bool (jBK s))∧Below w.heap.size w w':=by
 unfold maxLen at hs
 have HT:=hid (jV4 s)
 have cV:∀wr,Tabs wr→Calls Tryz.prog 163 #[.string s] wr _:=fun wr h=>Any.utf8_ValidString laysValid s wr (by omega) h.2.1
 generalize jBK s=X at HT ⊢
 generalize Lib.validD s.data.toList=V at cV HT
 have h5:=hT.2.2
 have HTA:=hid hT
 clear hT
 go_enter Tryz.func134,Tryz.ntmps134
 go_wp2
 go_loopw [2] (fun v wr=>∃ (pos fuel:Nat),wr.heap[w.heap.size]? = some (.stringIter s pos)∧Below w.heap.size w wr∧Hid (okR s fuel pos=okR s s.size 0)∧s.size≤pos+fuel) (fun _ wr=>s.size-wr.iterPos w.heap.size)
 case atStart=>exact⟨0,s.size,World.iter_heap w s 0,(Below.refl _ _).alloc (Nat.le_refl _) _,rfl,by omega⟩
 case round =>
  obtain⟨pos,fuel,hit,hbw,HS,hb⟩:=hrel
  have jOM:=iterPos_of hit
  by_cases hp:pos<s.size
  ·have hnx:∀ty,(Instr.next (.pointer (some ⟨w.heap.size,0,none⟩)) true ty).run Tryz.prog wr=_:=fun ty=>Lib.run_next_any_at wr w.heap.size s pos ty hit hp
   have hwd:=width_pos s pos
   obtain⟨fuel,rfl⟩:∃f',fuel=f'+1:=⟨fuel-1,by omega⟩
   have HO:=hid (jWt s fuel pos hp)
   have qAr:=Lib.iterAt_heap wr w.heap.size s pos (pos+(Utf8.decode s pos).2) hit
   have qAs:=Lib.below_iterAt hbw (k:=w.heap.size) (Nat.le_refl _) s (pos+(Utf8.decode s pos).2)
   have hle:=decode_le s pos
   obtain⟨W1,hW1⟩:∃W1,W1=wr.iterAt w.heap.size s (pos+(Utf8.decode s pos).2):=⟨_,rfl⟩
   rw[←hW1]at hnx qAr qAs
   clear hW1 hit hbw
   have hC:=jOp (Utf8.decode s pos).1 W1 hle (HTA.out.1.below qAs (by omega))
   generalize (Utf8.decode s pos).1=r at hC hnx HO
   generalize (Utf8.decode s pos).2=d at hnx HO qAr hwd
   cases hc:ctl r
   ·rw[hc]at hC HO
    go_wp2_with (go_at_call 128;(with_reducible refine hC.mono ?_);rintro e w2 ⟨⟨z,rfl,hz⟩,rfl⟩;have hz':¬z=0:=by simpa using hz)
    go_roundw
    case rel=>exact⟨_,fuel,qAr,qAs,(by show _=_;rw[←HS.out,HO.out];simp),by omega⟩
    case measure=>rw[iterPos_of qAr,jOM];omega
   ·rw[hc]at hC HO
    go_wp2_with (go_at_call 128;(with_reducible refine hC.mono ?_);rintro e w2 ⟨⟨z,rfl,hz⟩,rfl⟩;have hz':z=0:=by simpa using hz)
    go_ret
    exact⟨jAc (by rw[HT.out,←HS.out,HO.out];simp),qAs⟩
  ·have hnx:∀ty,(Instr.next (.pointer (some ⟨w.heap.size,0,none⟩)) true ty).run Tryz.prog wr=_:=fun ty=>Lib.run_next_end_at wr w.heap.size s pos ty hit hp
   have HE:=hid (HS.symm.trans (jYw s fuel pos hp))
   have hTr:=HTA.out.step hbw
   have cV1:=cV wr hTr
   go_wp2_with (go_at_call 163;(with_reducible refine cV1.mono ?_);rintro e w2 ⟨rfl,hb2⟩)
   go_ret
   exact⟨jAc (by rw[HT.out,HE.out];simp),jAa hbw hb2⟩
theorem get0 {s:ByteArray}(h:0<s.size):s.get! 0=s[0]:=by
 show s.data[0]! = s.data[0]
 exact getElem!_pos s.data 0 h
def jYX (p:Int→Bool)(s:ByteArray)(k:Nat):Prop:=∀i (h:i<s.size),i<k→p (s[i].toNat:Int)=true
theorem jIO (p:Int→Bool)(s:ByteArray):jYX p s 0:=fun _ _ h=>absurd h (Nat.not_lt_zero _)
theorem jIz {p:Int→Bool}{s:ByteArray}{k:Nat}(h:jYX p s k)(hk:k<s.size)(hp:p (s[k].toNat:Int)=true):jYX p s (k+1):=by
 intro i hi hik
 by_cases e:i=k
 ·subst e;exact hp
 ·exact h i hi (by omega)
theorem jLQ {p:Int→Bool}{s:ByteArray}{k:Nat}(h:jYX p s k)(hk:s.size≤k):jYz p s=true:=by
 unfold jYz
 rw[List.all_eq_true]
 intro b hb
 obtain⟨i,hi,rfl⟩:=List.getElem_of_mem hb
 have hi':i<s.size:=by simpa using hi
 exact h i hi' (by omega)
theorem jQk {p:Int→Bool}{s:ByteArray}{k:Nat}(hk:k<s.size)(hp:p (s[k].toNat:Int)=false):jYz p s=false:=by
 unfold jYz
 rw[List.all_eq_false]
 exact⟨s[k],by show s.data[k] ∈ _;exact Array.mem_toList_iff.mpr (Array.getElem_mem _),by rw[hp];simp⟩
theorem jPq {s:ByteArray}(h1:1≤s.size)(h2:s.size≤16):jDi s=(isL ((s.get! 0).toNat:Int) && jYz isT s):=by unfold jDi;simp[h1,h2]
theorem jFW {s:ByteArray}(h:s.size<1∨16<s.size):jDi s=false:=by
 unfold jDi;rcases h with h | h
 ·simp[show ¬1≤s.size by omega]
 ·simp[show ¬s.size≤16 by omega]
theorem jJt {s:ByteArray}(h1:0<s.size)(hb:isL (s[0].toNat:Int)=false):jDi s=false:=by
 unfold jDi;rw[get0 h1,hb];simp
theorem jJv {s:ByteArray}{k:Nat}(hk:k<s.size)(hn:isT (s[k].toNat:Int)=false):jDi s=false:=by
 unfold jDi;rw[jQk hk hn];simp
def jGl (s:ByteArray)(k:Nat):Prop:=(∀h:0<s.size,0<k→isL (s[0].toNat:Int)=true)∧jYX isT s k
theorem jSJ {s:ByteArray}{k:Nat}(h1:1≤s.size)(h2:s.size≤16)(h:jGl s k)(hk:s.size≤k):jDi s=true:=by
 rw[jPq h1 h2,get0 (by omega),h.1 (by omega) (by omega),jLQ h.2 hk];rfl
theorem jWQ {c:Int}(h:97≤c)(h2:c≤122):isL c=true:=by unfold isL;simp[h,h2]
theorem jTJ {c:Int}(h:¬97≤c∨¬c≤122):isL c=false:=by unfold isL;simp;omega
theorem jR2 {c:Int}(h:(97≤c∧c≤122)∨(48≤c∧c≤57)∨c=45):isT c=true:=by unfold isT isL;rcases h with h | h | h <;> simp[h]
theorem jS9 {c:Int}(h:¬(97≤c∧c≤122))(h2:¬(48≤c∧c≤57))(h3:c≠45):isT c=false:=by unfold isT isL;simp;omega
theorem jGl.next0 {s:ByteArray}(hlt:0<s.size)(h:97≤(s[0].toNat:Int))(h2:(s[0].toNat:Int)≤122):jGl s (0+1) :=
 ⟨fun _ _=>jWQ h h2,jIz (jIO _ _) hlt (jR2 (.inl ⟨h,h2⟩))⟩
theorem jGl.next {s:ByteArray}{k:Nat}(hlt:k<s.size)(hk:0<k)(hn:isT (s[k].toNat:Int)=true)(h:jGl s k):jGl s (k+1) :=
 ⟨fun h' _=>h.1 h' hk,jIz h.2 hlt hn⟩
theorem nonempty {s:ByteArray}(h:1≤s.size):s.toList.isEmpty=false:=by
 rw[ByteArray.toList_eq]
 cases e:s.data.toList with
 | nil =>
    have:s.size=0:=by have:=congrArg List.length e;simpa using this
    omega
 | cons _ _=>rfl
theorem isempty {s:ByteArray}(h:¬1≤s.size):s.toList.isEmpty=true:=by
 rw[ByteArray.toList_eq]
 cases e:s.data.toList with
 | nil=>rfl
 | cons _ _ =>
    have:s.size≠0:=by have:=congrArg List.length e;simp at this;omega
    omega
theorem jQU (s:ByteArray)(w:World)(hs:s.size≤maxLen) :
 Calls Tryz.prog 153 #[.string s] w fun e w'=>e=.returned (.bool (jDi s))∧w'=w:=by
 unfold maxLen at hs
 go_enter Tryz.func153,Tryz.ntmps153
 go_wp2
 go_loop [8] (fun i=>∃k:Nat,k≤s.size∧i=.int .i64 k∧jGl s k) (fun i=>s.size-(RowKit.intOf i).toNat)
 case atStart=>exact⟨0,Nat.zero_le _,rfl,fun _ h=>absurd h (Nat.lt_irrefl _),jIO _ _⟩
 case round =>
  obtain⟨k,hk,rfl,hN⟩:=hrel
  have HN:=hid hN;clear hN
  by_cases hlt:k<s.size
  ·by_cases hk0:k=0
   ·subst hk0
    have HX:=hid (fun h=>jGl.next0 (s:=s) hlt h)
    have HY:=hid (fun h=>jJt hlt (jTJ h))
    generalize hc:(s[0].toNat:Int)=c at HX HY
    by_cases h1:97≤c <;> by_cases h2:c≤122 <;> by_cases h3:48≤c <;> by_cases h4:c≤57 <;> by_cases h5:c=45
    all_goals
     first
     | (exfalso;omega)
     | (go_wp2
        first
        | (go_ret
           exact⟨jAc (HY.out (by omega)).symm,rfl⟩)
        | (go_round
           case rel=>exact⟨0+1,by omega,by go_num,HX.out h1 h2⟩
           case measure=>simp[RowKit.intOf];omega))
   ·have hk1:0<k:=by omega
    have hkz:((k:Int) == 0)=false:=by simp;omega
    have HX:=hid (fun h=>jGl.next (s:=s) hlt hk1 h HN.out)
    have HY:=hid (fun h=>jJv (s:=s) hlt h)
    generalize hc:(s[k].toNat:Int)=c at HX HY
    by_cases h1:97≤c <;> by_cases h2:c≤122 <;> by_cases h3:48≤c <;> by_cases h4:c≤57 <;> by_cases h5:c=45
    all_goals
     first
     | (exfalso;omega)
     | (try (have h45:(c == 45)=false:=by (simp;omega))
        go_wp2
        first
        | (go_ret
           exact⟨jAc (HY.out (jS9 (by omega) (by omega) (by omega))).symm,rfl⟩)
        | (go_round
           case rel=>exact⟨k+1,by omega,by go_num,HX.out (jR2 (by omega))⟩
           case measure=>simp[RowKit.intOf];omega))
  ·by_cases h1:1≤s.size
   ·have hE:=nonempty h1
    by_cases h16:s.size≤16
    ·have HZ:=hid (jSJ h1 h16 HN.out (by omega))
     go_wp2
     go_ret
     exact⟨jAc (by rw[HZ.out] <;> (simp <;> omega)),rfl⟩
    ·have HZ:=hid (jFW (s:=s) (by omega))
     go_wp2
     go_ret
     exact⟨jAc (by rw[HZ.out] <;> (simp <;> omega)),rfl⟩
   ·have hE:=isempty h1
    have HZ:=hid (jFW (s:=s) (by omega))
    go_wp2
    go_ret
    exact⟨jAc (by rw[HZ.out] <;> (simp <;> omega)),rfl⟩
theorem jJM (x:Pc)(w:World)(hs:x.s.size≤maxLen)(hT:Tabs w) :
 Calls Tryz.prog 97 #[pcV x] w fun e w'=>e=.returned (.int .u8 (jA8 x))∧Below w.heap.size w w':=by
 have ag:=Tryz.isAgg76
 have zg:=Tryz.sizeOf76
 have cT:=fun wr (h:Tabs wr)=>jKx x.s wr hs h
 have cN:=fun wr=>jQU x.s wr hs
 have HP:=hid (show jA8 x=if x.k<1∨5<x.k then 1
  else if x.c=true∧x.k≠2∧x.k≠3 then 1
  else if x.k=1 then (if x.s.size=0∨jBK x.s=false then 4 else 0)
  else if jDi x.s=true then 0 else 5 from rfl)
 have HTA:=hid (hT.step (jAb (pcC x)))
 have hb0:=hid (jAb (w:=w) (pcC x))
 clear hT
 obtain⟨k,s,c⟩:=x
 generalize jA8 ⟨k,s,c⟩=E at HP ⊢
 unfold pcV
 unfold pcC at HTA hb0
 simp only at cT cN HP HTA hb0 hs ⊢
 generalize jBK s=T at cT HP
 generalize jDi s=N at cN HP
 by_cases h1:k=1
 ·subst h1
  by_cases h0:1≤s.size
  ·have hE:=nonempty h0
   have cT1:=cT _ HTA.out
   cases c <;> cases T
   all_goals
    go_enter Tryz.func97,Tryz.ntmps97
    go_wp2_with (go_at_call 134;(with_reducible refine cT1.mono ?_);rintro e w2 ⟨rfl,hb2⟩)
    go_ret
    exact⟨jAQ (by rw[HP.out];simp[show ¬s.size=0 by omega]),by first | exact hb0.out | exact jAa hb0.out hb2⟩
  ·have hE:=isempty h0
   have hz:s.size=0:=by omega
   cases c
   all_goals
    go_enter Tryz.func97,Tryz.ntmps97
    go_wp2
    go_ret
    exact⟨jAQ (by rw[HP.out];simp[hz]),hb0.out⟩
 ·by_cases h2:k=2 <;> by_cases h3:k=3 <;> by_cases h4:k=4 <;> by_cases h5:k=5
  all_goals first
   | (exfalso;omega)
   | (try subst h2
      try subst h3
      try subst h4
      try subst h5
      cases c <;> cases N
      all_goals
       go_enter Tryz.func97,Tryz.ntmps97
       go_wp2_with (go_at_call 153;(with_reducible refine (cN _).mono ?_);rintro e w2 ⟨rfl,rfl⟩)
       go_ret
       exact⟨jAQ (by rw[HP.out];simp;try omega),hb0.out⟩)
end Go.Proofs.YtldapapdolkiaaaGreatDoor
namespace Go.Proofs.YtldapapdolkiaaaGreatDoor
set_option maxHeartbeats 64000000
open Go Go.RowKit
set_option maxRecDepth 100000
theorem jAZ {w w':World}{B:Nat}{e:TypeId}{z n:Nat}{v:Value}{xs:List Value}(hb:Below w.heap.size w w')(h:w.ownsRow B e z v n xs):w'.ownsRow B e z v n xs :=
 h.kept (row:=none) ⟨hb.os,hb.tape,hb.output,hb.size,fun k hk _=>hb.block k hk⟩ (by cases v.ownBlock <;> simp)
theorem jGf {x y:ByteArray}(h:x.toList=y.toList):x=y:=by
 rw[ByteArray.toList_eq,ByteArray.toList_eq]at h
 obtain⟨⟨x⟩⟩:=x
 obtain⟨⟨y⟩⟩:=y
 simp at h
 rw[h]
theorem jEV {w:World}{B:Nat}{e:TypeId}{z n:Nat}{v:Value}{xs:List Value}(k:Nat)(h:w.ownsRow B e z v n xs):(w.drewN k).ownsRow B e z v n xs:=h
def jAR (B b:Nat)(op:List ByteArray)(w:World):Prop:=B≤b∧∃v,w.heap[b]? = some (.cells #[v] 138 (0,0))∧w.ownsRow B 9 1 v op.length (op.map Value.string)∧v.ownBlock≠some b
theorem jAR.step {B b:Nat}{op:List ByteArray}{w w':World}(hb:Below w.heap.size w w')(h:jAR B b op w):jAR B b op w':=by
 obtain⟨h0,v,h1,h2,h3⟩:=h
 exact⟨h0,v,by rw[hb.block b (lt_of_block h1)];exact h1,jAZ hb h2,h3⟩
theorem jAR.new (w:World):jAR w.heap.size w.heap.size [] (w.alloc (.cells #[.slice none 0 0] 138)) :=
 ⟨Nat.le_refl _,.slice none 0 0,(by show (w.heap.push _)[_]? = _;simp),World.ownsRow_nil _ _ _ _,by simp[Value.ownBlock]⟩
theorem jAR.put {B b:Nat}{v v':Value}{op:List ByteArray}{w:World}(hB:B≤b)(hb:w.heap[b]? = some (.cells #[v] 138 (0,0)))(jAN:w.ownsRow B 9 1 v' op.length (op.map Value.string))(hne:v'.ownBlock≠some b) :
 jAR B b op (w.setCell ⟨b,0,none⟩ v'):=by
 refine⟨hB,v',?_,?_,hne⟩
 ·simp[World.setCell,Array.getElem?_modify,hb]
 ·exact jAN.kept (row:=some b) ⟨rfl,rfl,rfl,by simp[World.setCell],fun k _ hk=>Below.heap_setCell _ _ _ _ (fun e=>hk (by simp[e]))⟩ (Or.inr hne)
theorem jHK (g k:Nat):(⟨g,0,none⟩:Addr).add k=⟨g,k,none⟩:=by
 unfold Addr.add
 by_cases h:k=0
 ·subst h;simp
 ·simp[h]
theorem jAR.lt {B b:Nat}{op:List ByteArray}{w:World}(h:jAR B b op w):b<w.heap.size:=by obtain⟨_,v,hb,_⟩:=h;exact lt_of_block hb
theorem jAR.cell {B b:Nat}{op:List ByteArray}{w:World}(h:jAR B b op w):∃ao cap,w.cell? ⟨b,0,none⟩=some (.slice ao op.length cap):=by
 obtain⟨_,v,hb,jAN,_⟩:=h
 rcases jAN.2 with ⟨rfl,h0⟩ | ⟨g,cap,cur,rfl,_⟩
 ·exact⟨none,0,by rw[Lib.cell_of_heap hb,h0];rfl⟩
 ·exact⟨_,_,by rw[Lib.cell_of_heap hb];rfl⟩
theorem jFi:(Tryz.prog.info? 9).map (fun i=>(i.zero,i.size,i.bytes))=some (some (.string ⟨#[]⟩),1,16):=by kernel_rfl
theorem jFw {w:World}{B:Nat}{v u:Value}{n b:Nat}{xs:List Value}(jAN:w.ownsRow B 9 1 v n xs)(hb:w.heap[b]? = some (.cells #[u] 138 (0,0))):v.ownBlock≠some b:=by
 rcases jAN.2 with ⟨rfl,_⟩ | ⟨g,cap,cur,rfl,_,hg,_⟩
 ·simp[Value.ownBlock]
 ·intro e
  simp only[Value.ownBlock,Option.some.injEq]at e
  subst e
  rw[hg]at hb
  cases hb
theorem jWi (B b:Nat)(op:List ByteArray)(s:ByteArray)(w:World)(h:jAR B b op w)(jBi:op.length≤1000)(hBw:B≤w.heap.size) :
 Calls Tryz.prog 145 #[.pointer (some ⟨b,0,none⟩),.string s] w fun e w'=>e=.returned (.tuple #[])∧jAR B b (op++[s]) w'∧Below B w w'∧w.heap.size≤w'.heap.size:=by
 obtain⟨i0,hi,hz0,hz1,hz2⟩:=info_parts jFi
 obtain⟨hB,v,hbk,jAN,hne⟩:=h
 have c0:w.cell? ⟨b,0,none⟩=some v:=by rw[Lib.cell_of_heap hbk];rfl
 have hlt:=lt_of_block hbk
 go_enter Tryz.func145,Tryz.ntmps145
 go_wp2_with (at_builtin;refine wpList_append_own _ rfl _ _ 138 rfl B 9 i0 (.string ⟨#[]⟩) 1 16 Tryz.underlying138 hi hz0 hz1 hz2 rfl (by decide) _ _ _ rfl (jAN.alloc _) ⟨w.heap.size,0,none⟩ 1 1 [.string s] rfl rfl ?c1 ?c2 ?c3 ?c4 ?c5 ?_)
 case c1 =>
  intro j u hj
  match j,hj with
  | 0,hj=>simp at hj;subst hj;simp[Addr.add]
 case c2=>intro u hu;simp at hu;subst hu;rfl
 case c3=>unfold maxLen;omega
 case c4=>omega
 case c5=>simp;omega
 intro v' w2 hown' jC1 _
 have hb2:w2.heap[b]? = some (.cells #[v] 138 (0,0)):=by
  rw[jC1.block b (by simp;omega) (fun e=>hne e.symm),Below.heap_alloc _ _ _ hlt]
  exact hbk
 have hsz:w.heap.size≤w2.heap.size:=by have:=jC1.size;simp at this;omega
 have d0:w2.cell? ⟨b,0,none⟩=some v:=by rw[Lib.cell_of_heap hb2];rfl
 have f1:w2.frozen? ⟨b,0,none⟩=false:=Lib.frozen_of_heap hb2 0
 have hne':=jFw hown' hb2
 have HW:=Lib.hid (jAR.put (op:=op++[s]) hB hb2 (by simpa using hown') hne')
 have HB:=Lib.hid ((((Below.refl B w).alloc hBw (.cells #[.string s] 9)).grown jC1 (by simp;omega) (fun k hk=>(jAN.lt k hk).1)).setCell (p:=⟨b,0,none⟩) hB v')
 obtain⟨ao,n',cap,rfl⟩:∃ao n' cap,v'=.slice ao n' cap:=by
  rcases hown'.2 with ⟨hv,_⟩ | ⟨g,cap,cur,hv,_⟩
  ·exact⟨_,_,_,hv⟩
  ·exact⟨_,_,_,hv⟩
 clear hown' jC1
 go_wp2
 go_end0
 exact⟨rfl,HW.out,HB.out,by simpa [World.setCell] using hsz⟩
theorem jTN (B b:Nat)(op:List ByteArray)(w:World)(h:jAR B b op w) :
 Calls Tryz.prog 174 #[.pointer (some ⟨b,0,none⟩)] w fun e w'=>e=.returned (.tuple #[.string (op.getLast?.getD ⟨#[]⟩),.bool (decide (0<op.length))])∧∃n,w'=w.drewN n:=by
 obtain⟨hB,v,hbk,jAN,hne⟩:=h
 have c0:w.cell? ⟨b,0,none⟩=some v:=by rw[Lib.cell_of_heap hbk];rfl
 rcases List.eq_nil_or_concat op with rfl | ⟨l,x,rfl⟩
 ·obtain⟨ao,cap,rfl⟩:∃ao cap,v=.slice ao 0 cap:=by
   rcases jAN.2 with ⟨hv,h0⟩ | ⟨g,cap,cur,hv,_⟩
   ·exact⟨none,0,hv⟩
   ·exact⟨_,_,hv⟩
  go_enter Tryz.func174,Tryz.ntmps174
  go_wp2
  go_ret2
  exact⟨rfl,0,rfl⟩
 ·rcases jAN.2 with ⟨_,hn0⟩ | ⟨g,cap,cur,rfl,_,_,hncap,hcapm,_,_⟩
  ·simp at hn0
  have ct0:w.cell? ⟨g,l.length,none⟩=some (.string x):=by rw[←jHK];exact jAN.cells (g:=g) rfl l.length (.string x) (by simp)
  simp only[List.concat_eq_append,List.length_append,List.length_cons,List.length_nil,Nat.zero_add]at *
  unfold maxLen at hcapm
  have hg0:(((l.length:Int)+1) == 0)=false:=by simp;omega
  have hwr:IntKind.i64.wrap (l.length:Int)=(l.length:Int):=by rw[IntKind.wrap_i64];omega
  have c9:Tryz.prog.cellsOf 9=1:=by kernel_rfl
  have qAB:(l.length:Int)<(l.length:Int)+1:=by omega
  have jZU:(l.length:Int)<((l.length+1:Nat):Int):=by omega
  have jY1:l.length<l.length+1:=by omega
  have hix0:(0:Int)≤(l.length:Int):=by omega
  clear jAN
  go_enter Tryz.func174,Tryz.ntmps174
  go_wp2
  go_quiet (fail)
  go_wp2
  go_ret2
  exact⟨by simp,_,rfl⟩
theorem jGX {w:World}{B g cap:Nat}{l:List ByteArray}{x:ByteArray}(h:w.ownsRow B 9 1 (.slice (some ⟨g,0,none⟩) (l.length+1) cap) (l.length+1) ((l++[x]).map Value.string)) :
 w.ownsRow B 9 1 (.slice (some ⟨g,0,none⟩) l.length cap) l.length (l.map Value.string) :=
 ownsRow_pop (xs:=l.map Value.string) (last:=[.string x]) (by simp) (by simpa using h)
theorem jXw (B b:Nat)(op:List ByteArray)(w:World)(h:jAR B b op w) :
 Calls Tryz.prog 146 #[.pointer (some ⟨b,0,none⟩)] w fun e w'=>e=.returned (.tuple #[.string (op.getLast?.getD ⟨#[]⟩),.bool (decide (0<op.length))])∧jAR B b op.dropLast w'∧Below B w w'∧w.heap.size≤w'.heap.size∧∀k,k≠b→w'.heap[k]? = w.heap[k]?:=by
 have cT:=jTN B b op w h
 have h0:=h
 obtain⟨hB,v,hbk,jAN,hne⟩:=h
 rcases List.eq_nil_or_concat op with rfl | ⟨l,x,rfl⟩
 ·have H0:=Lib.hid h0
  clear jAN
  simp only[List.getLast?_nil,Option.getD_none,List.length_nil,Nat.lt_irrefl,decide_false]at cT
  go_enter Tryz.func146,Tryz.ntmps146
  go_wp2_with (go_at_call 174;(with_reducible refine cT.mono ?_);rintro e w2 ⟨rfl,n,rfl⟩)
  go_ret2
  exact⟨by simp,H0.out,⟨rfl,rfl,rfl,Nat.le_refl _,fun _ _=>rfl⟩,Nat.le_refl _,fun _ _=>rfl⟩
 ·rcases jAN.2 with ⟨_,hn0⟩ | ⟨g,cap,cur,rfl,_,_,hncap,hcapm,_,_⟩
  ·simp at hn0
  simp only[List.concat_eq_append,List.length_append,List.length_cons,List.length_nil,Nat.zero_add]at *
  have hp:=jGX jAN
  have HP:=Lib.hid (fun n=>jAR.put (w:=w.drewN n) (v:=.slice (some ⟨g,0,none⟩) (l.length+1) cap) hB hbk (jEV n hp) hne)
  have HB:=Lib.hid (fun n=>Below.setCell (B:=B) (a:=w) (w:=w.drewN n) ⟨rfl,rfl,rfl,Nat.le_refl _,fun _ _=>rfl⟩ (p:=⟨b,0,none⟩) hB (.slice (some ⟨g,0,none⟩) l.length cap))
  clear jAN hp
  simp only[List.getLast?_append,List.getLast?_singleton,Option.some_or,Option.getD_some,Nat.zero_lt_succ,decide_true]at cT
  have c0:w.cell? ⟨b,0,none⟩=some (.slice (some ⟨g,0,none⟩) (l.length+1) cap):=by rw[Lib.cell_of_heap hbk];rfl
  have f0:w.frozen? ⟨b,0,none⟩=false:=Lib.frozen_of_heap hbk 0
  unfold maxLen at hcapm
  have hwr:IntKind.i64.wrap (l.length:Int)=(l.length:Int):=by rw[IntKind.wrap_i64];omega
  have jZU:(l.length:Int)<((l.length+1:Nat):Int):=by omega
  have hix0:(0:Int)≤(l.length:Int):=by omega
  have jZV:(l.length:Int)≤(cap:Int):=by omega
  go_enter Tryz.func146,Tryz.ntmps146
  go_wp2_with (go_at_call 174;(with_reducible refine cT.mono ?_);rintro e w2 ⟨rfl,n,rfl⟩)
  go_region
  go_wp2
  go_ret2
  exact⟨by simp,by simpa using HP.out _,HB.out _,by simp[World.setCell],fun k hk=>Below.heap_setCell _ _ _ _ hk⟩
def followed (B b:Nat)(op:List ByteArray)(x:Pc)(e:Ending)(w':World):Prop :=
 ∃z:Int,e=.returned (.int .u8 z)∧((jJF op x=.error z∧z≠0)∨(z=0∧∃op',jJF op x=.ok op'∧jAR B b op' w'))
theorem jQz (B b:Nat)(op:List ByteArray)(x:Pc)(w:World)(h:jAR B b op w)(jBi:op.length≤1000)(hBw:B≤w.heap.size) :
 Calls Tryz.prog 83 #[.pointer (some ⟨b,0,none⟩),pcV x] w fun e w'=>followed B b op x e w'∧Below B w w'∧w.heap.size≤w'.heap.size:=by
 have ag:=Tryz.isAgg76
 have zg:=Tryz.sizeOf76
 have HF:=Lib.hid (show jJF op x=if x.k=2 then (if op.length+1 > 16 then .error 3 else .ok (op++[x.s]))
  else if x.k=3 then (if op.getLast? = some x.s then .ok op.dropLast else .error 9) else .ok op from rfl)
 obtain⟨k,s,c⟩:=x
 have hbx:=jAb (w:=w) (pcC ⟨k,s,c⟩)
 have h1:=h.step hbx
 have hB1:B≤(w.alloc (pcC ⟨k,s,c⟩)).heap.size:=Nat.le_trans hBw hbx.size
 have hbb:=hbx.mono hBw
 have hX:=Boxed.new w ⟨k,s,c⟩
 unfold pcV
 have cU:=jWi B b op s _ h1 jBi hB1
 have cO:=jXw B b op _ h1
 unfold pcC at cU cO hX hbb hbx
 unfold followed
 simp only at cU cO hX hbx hbb HF ⊢
 have HB:=Lib.hid hbb
 have HX:=Lib.hid hbx.size
 have hbl:b<w.heap.size:=by obtain⟨_,v,hb,_⟩:=h;exact lt_of_block hb
 by_cases h2:k=2
 ·subst h2
  clear cO
  by_cases h16:op.length+1 > 16
  ·have hI:(16:Int)<(op.length:Int)+1:=by omega
   go_enter Tryz.func83,Tryz.ntmps83
   go_wp2_with (go_at_call 145;(with_reducible refine cU.mono ?_);rintro e w2 ⟨rfl,hs2,hb2,hz2⟩;obtain⟨ao,cap,c0⟩:=hs2.cell;simp only[List.length_append,List.length_cons,List.length_nil,Nat.zero_add]at c0;have HS2:=Lib.hid hs2)
   go_ret
   exact⟨⟨3,rfl,.inl ⟨by rw[HF.out];simp <;> omega,by decide⟩⟩,HB.out.trans hb2,Nat.le_trans HX.out hz2⟩
  ·have hI:¬(16:Int)<(op.length:Int)+1:=by omega
   go_enter Tryz.func83,Tryz.ntmps83
   go_wp2_with (go_at_call 145;(with_reducible refine cU.mono ?_);rintro e w2 ⟨rfl,hs2,hb2,hz2⟩;obtain⟨ao,cap,c0⟩:=hs2.cell;simp only[List.length_append,List.length_cons,List.length_nil,Nat.zero_add]at c0;have HS2:=Lib.hid hs2)
   go_ret
   exact⟨⟨0,rfl,.inr ⟨rfl,_,by rw[HF.out];simp <;> omega,HS2.out⟩⟩,HB.out.trans hb2,Nat.le_trans HX.out hz2⟩
 ·by_cases h3:k=3
  ·subst h3
   clear cU
   obtain⟨x0,x1,x2,x3⟩:=hX
   have hne:w.heap.size≠b:=by omega
   rcases List.eq_nil_or_concat op with rfl | ⟨l,y,rfl⟩
   ·simp only[List.getLast?_nil,Option.getD_none,List.length_nil,Nat.lt_irrefl,decide_false]at cO
    go_enter Tryz.func83,Tryz.ntmps83
    go_wp2_with (go_at_call 146;(with_reducible refine cO.mono ?_);rintro e w2 ⟨rfl,hs2,hb2,hz2,hk2⟩;have HS2:=Lib.hid hs2)
    go_ret
    exact⟨⟨9,rfl,.inl ⟨by rw[HF.out];simp,by decide⟩⟩,HB.out.trans hb2,Nat.le_trans HX.out hz2⟩
   ·simp only[List.concat_eq_append,List.length_append,List.length_cons,List.length_nil,Nat.zero_add,List.getLast?_append,List.getLast?_singleton,Option.some_or,Option.getD_some,Nat.zero_lt_succ,decide_true,List.dropLast_concat]at *
    by_cases hq:y.toList=s.toList
    ·have hy:=Lib.hid (jGf hq)
     go_enter Tryz.func83,Tryz.ntmps83
     go_wp2_with (go_at_call 146;(with_reducible refine cO.mono ?_);rintro e w2 ⟨rfl,hs2,hb2,hz2,hk2⟩;have HS2:=Lib.hid hs2;have y1:=(World.cell?_of_block (a:=⟨w.heap.size,1,none⟩) (hk2 w.heap.size hne)).trans x1;have HB2:=Lib.hid hb2;have HZ2:=Lib.hid hz2;clear hk2)
     go_ret
     exact⟨⟨0,rfl,.inr ⟨rfl,_,by rw[HF.out,hy.out];simp,HS2.out⟩⟩,HB.out.trans HB2.out,Nat.le_trans HX.out HZ2.out⟩
    ·have hy:=Lib.hid (fun h:y=s=>hq (by rw[h]))
     have hqb:(y.toList == s.toList)=false:=by simp[hq]
     go_enter Tryz.func83,Tryz.ntmps83
     go_wp2_with (go_at_call 146;(with_reducible refine cO.mono ?_);rintro e w2 ⟨rfl,hs2,hb2,hz2,hk2⟩;have HS2:=Lib.hid hs2;have y1:=(World.cell?_of_block (a:=⟨w.heap.size,1,none⟩) (hk2 w.heap.size hne)).trans x1;have HB2:=Lib.hid hb2;have HZ2:=Lib.hid hz2;clear hk2)
     go_ret
     exact⟨⟨9,rfl,.inl ⟨by rw[HF.out];simp;exact hy.out,by decide⟩⟩,HB.out.trans HB2.out,Nat.le_trans HX.out HZ2.out⟩
  ·clear cU cO
   have H1:=Lib.hid h1
   go_enter Tryz.func83,Tryz.ntmps83
   go_wp2
   go_ret
   exact⟨⟨0,rfl,.inr ⟨rfl,_,by rw[HF.out];simp[h2,h3],H1.out⟩⟩,HB.out,HX.out⟩
end Go.Proofs.YtldapapdolkiaaaGreatDoor
namespace Go.Proofs.YtldapapdolkiaaaGreatDoor
set_option maxHeartbeats 64000000
open Go Go.RowKit
set_option maxRecDepth 100000
theorem add_block (A:Addr)(k:Nat):(A.add k).block=A.block:=by unfold Addr.add;split <;> rfl
theorem jBq {w:World}{a:Addr}{n d:Nat}{v:Value}(hd:0<d)(h:w.cell? (a.add (n+d))=some v):w.cell? { block:=(a.add n).block,off:=(a.add n).off+d }=some v:=by
 have e:({ block:=(a.add n).block,off:=(a.add n).off+d }:Addr)=a.add (n+d):=by
  unfold Addr.add
  by_cases h0:n=0
  ·subst h0;simp;omega
  ·simp[h0];omega
 rw[e];exact h
def jAO (B:Nat)(w:World)(v:Value)(n sz:Nat)(f:Nat→Nat→Value):Prop :=
 ∃ (p:Option Addr) (cap:Nat),v=.slice p n cap∧n≤cap∧cap≤maxLen ∧
  (0<n→∃A,p=some A∧A.block<B∧∀i j,i<n→j<sz→w.cell? (A.add (i*sz+j))=some (f i j))
theorem jAO.below {B:Nat}{w w':World}{v:Value}{n sz:Nat}{f:Nat→Nat→Value}(hb:Below B w w')(h:jAO B w v n sz f):jAO B w' v n sz f:=by
 obtain⟨p,cap,e,h1,h2,h3⟩:=h
 refine⟨p,cap,e,h1,h2,fun hn=>?_⟩
 obtain⟨A,e,hA,hc⟩:=h3 hn
 exact⟨A,e,hA,fun i j hi hj=>by rw[hb.cell (by rw[add_block];exact hA)];exact hc i j hi hj⟩
theorem jAO.mono {B B':Nat}{w:World}{v:Value}{n sz:Nat}{f:Nat→Nat→Value}(hB:B≤B')(h:jAO B w v n sz f):jAO B' w v n sz f:=by
 obtain⟨p,cap,e,h1,h2,h3⟩:=h
 refine⟨p,cap,e,h1,h2,fun hn=>?_⟩
 obtain⟨A,e,hA,hc⟩:=h3 hn
 exact⟨A,e,by omega,hc⟩
def pcF (l:List Pc)(i j:Nat):Value:=if j=0 then .int .u8 (l.getD i nil).k else if j=1 then .string (l.getD i nil).s else .bool (l.getD i nil).c
def jBe (w:World)(v:Value)(l:List Pc):Prop:=jAO w.heap.size w v l.length 3 (pcF l)
theorem jBe.step {w w':World}{v:Value}{l:List Pc}(hb:Below w.heap.size w w')(h:jBe w v l):jBe w' v l:=(jAO.below hb h).mono hb.size
theorem jLv {l:List Pc}{k:Nat}{op:List ByteArray}(h:jC4 l k=.ok op)(he:jCB l k≠0):jC4 l (k+1)=.error (jCB l k):=by
 simp only[jC4,h]
 rw[if_pos he]
theorem jO5 {l:List Pc}{k:Nat}{op:List ByteArray}(h:jC4 l k=.ok op)(he:jCB l k=0):jC4 l (k+1)=jJF op (l.getD k nil):=by
 simp only[jC4,h]
 rw[if_neg (by rw[he];simp)]
theorem jRa {l:List Pc}{k:Nat}(he:jA8 (l.getD k nil)≠0):jCB l k=jA8 (l.getD k nil):=by
 unfold jCB;rw[if_pos he]
theorem jQp {l:List Pc}(he:jA8 (l.getD 0 nil)=0):jCB l 0=0:=by
 unfold jCB;rw[if_neg (by rw[he];simp),if_pos rfl]
theorem jPJ {l:List Pc}{k:Nat}(h0:jA8 (l.getD k nil)=0)(hk:k≠0):jCB l k=jRQ (l.getD (k-1) nil) (l.getD k nil):=by
 unfold jCB;rw[if_neg (by rw[h0];simp),if_neg hk]
theorem jTo {l:List Pc}{k:Nat}{op:List ByteArray}(h:jC4 l k=.ok op)(he:jA8 (l.getD k nil)≠0):jC4 l (k+1)=.error (jA8 (l.getD k nil)):=by
 have e:=jRa he
 rw[jLv h (by rw[e];exact he),e]
theorem jYt {l:List Pc}{k:Nat}{op:List ByteArray}(h:jC4 l k=.ok op)(h0:jA8 (l.getD k nil)=0)(hk:k≠0)(he:jRQ (l.getD (k-1) nil) (l.getD k nil)≠0):jC4 l (k+1)=.error (jRQ (l.getD (k-1) nil) (l.getD k nil)):=by
 have e:=jPJ h0 hk
 rw[jLv h (by rw[e];exact he),e]
theorem jXU {l:List Pc}{k:Nat}{op:List ByteArray}(h:jC4 l k=.ok op)(h0:jA8 (l.getD k nil)=0)(hk:k=0∨jRQ (l.getD (k-1) nil) (l.getD k nil)=0):jC4 l (k+1)=jJF op (l.getD k nil):=by
 refine jO5 h ?_
 rcases Nat.eq_zero_or_pos k with rfl | hp
 ·exact jQp h0
 ·rcases hk with hk | hk
  ·omega
  ·rw[jPJ h0 (by omega),hk]
theorem jVE {op op':List ByteArray}{x:Pc}(h:jJF op x=.ok op'):op'.length≤op.length+1:=by
 unfold jJF at h
 split at h
 ·split at h
  ·cases h
  ·cases h;simp
 ·split at h
  ·split at h
   ·cases h;simp;omega
   ·cases h
  ·cases h;omega
theorem jP6 {l:List Pc}:∀ {k:Nat} {op:List ByteArray},jC4 l k=.ok op→op.length≤k:=by
 intro k
 induction k with
 | zero=>intro op h;cases h;simp
 | succ k ih =>
   intro op h
   simp only[jC4]at h
   cases e:jC4 l k with
   | error x=>rw[e]at h;cases h
   | ok o =>
     rw[e]at h
     have:=ih e
     have h':(if jCB l k≠0 then Except.error (jCB l k) else jJF o (l.getD k nil))=Except.ok op:=h
     split at h'
     ·cases h'
     ·have:=jVE h';omega
theorem jLx {l:List Pc}{k:Nat}(hk:k<l.length):l.getD k nil ∈ l:=by
 rw[List.getD_eq_getElem?_getD,List.getElem?_eq_getElem hk];exact List.getElem_mem hk
def FolZ (r:Except Int (List ByteArray))(B b:Nat)(z:Int)(w:World):Prop:=match r with
 | .error z0=>z=z0∧(z == 0)=false
 | .ok op=>z=0∧jAR B b op w
theorem folZ {B b:Nat}{op:List ByteArray}{x:Pc}{z:Int}{w:World}(h:(jJF op x=.error z∧z≠0)∨(z=0∧∃op',jJF op x=.ok op'∧jAR B b op' w)):FolZ (jJF op x) B b z w:=by
 rcases h with ⟨h,h0⟩ | ⟨rfl,op',h,hs⟩
 ·rw[h];exact⟨rfl,by simpa using h0⟩
 ·rw[h];exact⟨rfl,hs⟩
theorem jB6 (l:List Pc)(v:Value)(w:World)(hv:jBe w v l)(hs:∀x ∈ l,x.s.size≤maxLen)(hT:Tabs w) :
 Calls Tryz.prog 49 #[v] w fun e w'=>e=.returned (.int .u8 (jAu l))∧Below w.heap.size w w':=by
 obtain⟨p,cap,rfl,hl,hc,jA4⟩:=hv
 unfold maxLen at hc
 have ag:=Tryz.isAgg76
 have zg:=Tryz.sizeOf76
 by_cases jHN:512<l.length
 ·have HE:=Lib.hid (jHE jHN)
  have hI:(512:Int)<(l.length:Int):=by omega
  clear jA4
  go_enter Tryz.func49,Tryz.ntmps49
  go_wp2
  go_ret
  exact⟨jAQ HE.out.symm,Below.refl _ _⟩
 have hI:¬(512:Int)<(l.length:Int):=by omega
 have HR:=Lib.hid jA4
 have HS:=Lib.hid hs
 have HT:=Lib.hid hT
 clear jA4 hs hT
 go_enter Tryz.func49,Tryz.ntmps49
 go_wp2
 go_loopw [14] (fun i wr=>∃ (k:Nat) (op:List ByteArray),k≤l.length∧i=.int .i64 k∧Hid (jC4 l k=.ok op)∧Hid (jAR w.heap.size w.heap.size op wr)∧Hid (Below w.heap.size w wr)∧w.heap.size<wr.heap.size) (fun i _=>l.length-(intOf i).toNat)
 case atStart=>exact⟨0,[],Nat.zero_le _,rfl,rfl,jAR.new w,jAb _,by simp⟩
 case round =>
  obtain⟨k,op,hk,rfl,HQ,HK,HB,hsz⟩:=hrel
  by_cases hlt:k<l.length
  ·obtain⟨A,rfl,hA,jAj⟩:=HR.out (by omega)
   have hAb:(A.add (k*3)).block<w.heap.size:=by rw[add_block];exact hA
   have x0:wr.cell? (A.add (k*3))=some (.int .u8 (l.getD k nil).k):=by
    rw[HB.out.cell hAb];have:=jAj k 0 hlt (by omega);simpa [pcF] using this
   have x1:wr.cell? { block:=(A.add (k*3)).block,off:=(A.add (k*3)).off+1 }=some (.string (l.getD k nil).s):=by
    rw[HB.out.cell (p:={ block:=(A.add (k*3)).block,off:=(A.add (k*3)).off+1 }) hAb];have:=jBq (by omega) (jAj k 1 hlt (by omega));simpa [pcF] using this
   have x2:wr.cell? { block:=(A.add (k*3)).block,off:=(A.add (k*3)).off+2 }=some (.bool (l.getD k nil).c):=by
    rw[HB.out.cell (p:={ block:=(A.add (k*3)).block,off:=(A.add (k*3)).off+2 }) hAb];have:=jBq (by omega) (jAj k 2 hlt (by omega));simpa [pcF] using this
   have cP:=jJM (l.getD k nil) (wr.alloc (pcC (l.getD k nil))) (HS.out _ (jLx hlt)) (HT.out.step (jAa HB.out (jAb _)))
   have HP0:=Lib.hid (fun (he:jA8 (l.getD k nil)≠0)=>jTo HQ.out he)
   have HP1:=Lib.hid (fun (h0:jA8 (l.getD k nil)=0) (hk:k≠0)=>jYt HQ.out h0 hk)
   have HP2:=Lib.hid (fun (h0:jA8 (l.getD k nil)=0)=>jXU HQ.out h0)
   have hX0:=Boxed.new wr (l.getD k nil)
   have jNn:=fun (h:0<k)=>jAj (k-1)
   generalize l.getD k nil=x at x0 x1 x2 cP HP0 HP1 HP2 hX0
   have HX0:=Lib.hid hX0;clear hX0
   have HBX:=Lib.hid (jAa HB.out (jAb (w:=wr) (pcC x)))
   have HKX:=Lib.hid (HK.out.step (jAb (w:=wr) (pcC x)))
   unfold pcV pcC at cP
   unfold pcC at HBX HX0 HKX
   clear jAj
   by_cases he:jA8 x=0
   ·rw[he]at cP
    have jBi:=jP6 HQ.out
    have cF:=fun wr h hB=>jQz w.heap.size w.heap.size op x wr h (by omega) hB
    unfold pcV at cF
    have HFR:=Lib.hid (fun hn=>HP2.out he hn)
    by_cases hk0:k=0
    ·have HF0:=Lib.hid (HFR.out (.inl hk0))
     have hkd:decide (0<k)=false:=by simp;omega
     clear hk0 jNn
     cases hfo:jJF op x with
     | error z0 =>
       have HFO:=Lib.hid hfo
       have HE:=Lib.hid (jBQ jHN (HF0.out.trans hfo) (by omega))
       go_wp2_with (first
        | (go_at_call 97;(with_reducible refine cP.mono ?_);rintro e w2 ⟨rfl,hb2⟩;have HX2:=Lib.hid (HX0.out.step hb2);have HB2:=Lib.hid (jAa HBX.out hb2);have HK2:=Lib.hid (HKX.out.step hb2);clear hb2;obtain⟨b0,b1,b2,b3⟩:=HX2.out)
        | (go_at_call 83;(with_reducible refine (cF w2 HK2.out HB2.out.size).mono ?_);rintro e w4 ⟨⟨z,rfl,hz⟩,hb4,hz4⟩;have HB4:=Lib.hid (HB2.out.trans hb4);have HZ4:=Lib.hid (Nat.lt_of_lt_of_le HK2.out.lt hz4);have HZ:=Lib.hid (folZ hz);clear hb4 hz4 hz;rw[HFO.out]at HZ;obtain⟨rfl,hzb⟩:=HZ.out))
       go_ret
       exact⟨jAQ HE.out.symm,HB4.out⟩
     | ok op2 =>
       have HFO:=Lib.hid hfo
       have HE:=Lib.hid (HF0.out.trans hfo)
       go_wp2_with (first
        | (go_at_call 97;(with_reducible refine cP.mono ?_);rintro e w2 ⟨rfl,hb2⟩;have HX2:=Lib.hid (HX0.out.step hb2);have HB2:=Lib.hid (jAa HBX.out hb2);have HK2:=Lib.hid (HKX.out.step hb2);clear hb2;obtain⟨b0,b1,b2,b3⟩:=HX2.out)
        | (go_at_call 83;(with_reducible refine (cF w2 HK2.out HB2.out.size).mono ?_);rintro e w4 ⟨⟨z,rfl,hz⟩,hb4,hz4⟩;have HB4:=Lib.hid (HB2.out.trans hb4);have HZ4:=Lib.hid (Nat.lt_of_lt_of_le HK2.out.lt hz4);have HZ:=Lib.hid (folZ hz);clear hb4 hz4 hz;rw[HFO.out]at HZ;obtain⟨rfl,hsk⟩:=HZ.out;have HSK:=Lib.hid hsk;clear hsk))
       go_roundw
       case rel=>exact⟨k+1,op2,by omega,by go_num,HE.out,HSK.out,HB4.out,HZ4.out⟩
       case measure=>simp[intOf];omega
    ·have hkd:decide (0<k)=true:=by simp;omega
     have hwr:IntKind.i64.wrap ((k:Int)-1)=((k-1:Nat):Int):=by rw[IntKind.wrap_i64];omega
     have qAB:((k-1:Nat):Int)<(l.length:Int):=by omega
     have jZU:(0:Int)≤((k-1:Nat):Int):=by omega
     have jY1:k-1<l.length:=by omega
     have qAC:(A.add ((k-1)*3)).block<w.heap.size:=by rw[add_block];exact hA
     have HN1:=Lib.hid (HP1.out he hk0)
     have hk1:0<k:=by omega
     have HC0:=Lib.hid (show w.cell? (A.add ((k-1)*3+0))=some (.int .u8 (l.getD (k-1) nil).k) from jNn hk1 0 jY1 (by omega))
     have HC1:=Lib.hid (show w.cell? (A.add ((k-1)*3+1))=some (.string (l.getD (k-1) nil).s) from jNn hk1 1 jY1 (by omega))
     have HC2:=Lib.hid (show w.cell? (A.add ((k-1)*3+2))=some (.bool (l.getD (k-1) nil).c) from jNn hk1 2 jY1 (by omega))
     clear jNn HP1
     have cN:=fun wr=>jFK (l.getD (k-1) nil) x wr
     generalize l.getD (k-1) nil=a at HN1 HFR HC0 HC1 HC2 cN
     unfold pcV at cN
     go_wp2_with (go_at_call 97;(with_reducible refine cP.mono ?_);rintro e w2 ⟨rfl,hb2⟩;have HX2:=Lib.hid (HX0.out.step hb2);have HB2:=Lib.hid (jAa HBX.out hb2);have HK2:=Lib.hid (HKX.out.step hb2);clear hb2;obtain⟨b0,b1,b2,b3⟩:=HX2.out)
     have y0:w2.cell? (A.add ((k-1)*3))=some (.int .u8 a.k):=by
      rw[HB2.out.cell qAC];simpa using HC0.out
     have y1:w2.cell? { block:=(A.add ((k-1)*3)).block,off:=(A.add ((k-1)*3)).off+1 }=some (.string a.s):=by
      rw[HB2.out.cell (p:={ block:=(A.add ((k-1)*3)).block,off:=(A.add ((k-1)*3)).off+1 }) qAC];simpa using jBq (by omega) HC1.out
     have y2:w2.cell? { block:=(A.add ((k-1)*3)).block,off:=(A.add ((k-1)*3)).off+2 }=some (.bool a.c):=by
      rw[HB2.out.cell (p:={ block:=(A.add ((k-1)*3)).block,off:=(A.add ((k-1)*3)).off+2 }) qAC];simpa using jBq (by omega) HC2.out
     clear x0 x1 x2
     have hw2:w.heap.size≤w2.heap.size:=HB2.out.size
     go_region_held3 (fun w'=>w'.cell? (A.add ((k-1)*3))=some (.int .u8 a.k)∧w'.cell? { block:=(A.add ((k-1)*3)).block,off:=(A.add ((k-1)*3)).off+1 }=some (.string a.s)∧w'.cell? { block:=(A.add ((k-1)*3)).block,off:=(A.add ((k-1)*3)).off+2 }=some (.bool a.c)∧w'.cell? ⟨wr.heap.size,0,none⟩=some (.int .u8 x.k)∧w'.cell? ⟨wr.heap.size,1,none⟩=some (.string x.s)∧w'.cell? ⟨wr.heap.size,2,none⟩=some (.bool x.c))
      (first
        | go_keep
        | (refine⟨?_,?_,?_,?_,?_,?_⟩
           ·(rw[hb3.cell (p:=A.add ((k-1)*3)) (by show _<w2.heap.size;omega)];assumption)
           ·(rw[hb3.cell (p:={ block:=(A.add ((k-1)*3)).block,off:=(A.add ((k-1)*3)).off+1 }) (by show _<w2.heap.size;show (A.add ((k-1)*3)).block<_;omega)];assumption)
           ·(rw[hb3.cell (p:={ block:=(A.add ((k-1)*3)).block,off:=(A.add ((k-1)*3)).off+2 }) (by show _<w2.heap.size;show (A.add ((k-1)*3)).block<_;omega)];assumption)
           ·(rw[hb3.cell (p:=⟨wr.heap.size,0,none⟩) (by show _<w2.heap.size;exact b3)];assumption)
           ·(rw[hb3.cell (p:=⟨wr.heap.size,1,none⟩) (by show _<w2.heap.size;exact b3)];assumption)
           ·(rw[hb3.cell (p:=⟨wr.heap.size,2,none⟩) (by show _<w2.heap.size;exact b3)];assumption)))
      ((go_simp;go_at_call 98;(with_reducible refine (cN _).mono ?_);rintro e w3 ⟨rfl,hb3⟩))
     rename_i hHeld
     have HX3:=Lib.hid (Boxed.step (wr:=w2.drew) hb3 HX2.out)
     have HB3:=Lib.hid (jAa (wr:=w2.drew) HB2.out.drew hb3)
     have HK3:=Lib.hid (jAR.step (w:=w2.drew) hb3 HK2.out)
     clear hHeld hb3 y0 y1 y2 b0 b1 b2 b3 HX2 HB2 HK2 HX0 HBX HKX
     obtain⟨b0,b1,b2,b3⟩:=HX3.out
     by_cases hn:jRQ a x=0
     ·rw[hn]
      have HF0:=Lib.hid (HFR.out (.inr hn))
      cases hfo:jJF op x with
      | error z0 =>
        have HFO:=Lib.hid hfo
        have HE:=Lib.hid (jBQ jHN (HF0.out.trans hfo) (by omega))
        go_wp2_with (go_at_call 83;(with_reducible refine (cF w3 HK3.out HB3.out.size).mono ?_);rintro e w4 ⟨⟨z,rfl,hz⟩,hb4,hz4⟩;have HB4:=Lib.hid (HB3.out.trans hb4);have HZ4:=Lib.hid (Nat.lt_of_lt_of_le HK3.out.lt hz4);have HZ:=Lib.hid (folZ hz);clear hb4 hz4 hz;rw[HFO.out]at HZ;obtain⟨rfl,hzb⟩:=HZ.out)
        go_ret
        exact⟨jAQ HE.out.symm,HB4.out⟩
      | ok op2 =>
        have HFO:=Lib.hid hfo
        have HE:=Lib.hid (HF0.out.trans hfo)
        go_wp2_with (go_at_call 83;(with_reducible refine (cF w3 HK3.out HB3.out.size).mono ?_);rintro e w4 ⟨⟨z,rfl,hz⟩,hb4,hz4⟩;have HB4:=Lib.hid (HB3.out.trans hb4);have HZ4:=Lib.hid (Nat.lt_of_lt_of_le HK3.out.lt hz4);have HZ:=Lib.hid (folZ hz);clear hb4 hz4 hz;rw[HFO.out]at HZ;obtain⟨rfl,hsk⟩:=HZ.out;have HSK:=Lib.hid hsk;clear hsk)
        go_roundw
        case rel=>exact⟨k+1,op2,by omega,by go_num,HE.out,HSK.out,HB4.out,HZ4.out⟩
        case measure=>simp[intOf];omega
     ·have HE:=Lib.hid (jBQ jHN (HN1.out hn) (by omega))
      generalize jRQ a x=E at HE hn
      have hE0:(E == 0)=false:=by simpa using hn
      go_wp2
      go_ret
      exact⟨jAQ HE.out.symm,HB3.out⟩
   ·generalize hE:jA8 x=E at cP
    have hE0:(E == 0)=false:=by rw[←hE];simpa using he
    have HE:=Lib.hid (jBQ jHN (HP0.out he) (by omega))
    rw[hE]at HE
    clear hE
    go_wp2_with (go_at_call 97;(with_reducible refine cP.mono ?_);rintro e w2 ⟨rfl,hb2⟩;have HX2:=Lib.hid (HX0.out.step hb2);have HB2:=Lib.hid (jAa HBX.out hb2);have HK2:=Lib.hid (HKX.out.step hb2);clear hb2)
    go_ret
    exact⟨jAQ HE.out.symm,HB2.out⟩
  ·have hkl:k=l.length:=by omega
   obtain⟨ao,cap2,c0⟩:=HK.out.cell
   have HE:=Lib.hid (jMw jHN (hkl▸HQ.out))
   by_cases h0:op=[]
   ·have hI0:¬(0:Int)<(op.length:Int):=by rw[h0];simp
    go_wp2
    go_ret
    exact⟨jAQ (by rw[HE.out,if_pos h0]),HB.out⟩
   ·have hI0:(0:Int)<(op.length:Int):=by have:=List.length_pos_iff.2 h0;omega
    go_wp2
    go_ret
    exact⟨jAQ (by rw[HE.out,if_neg h0]),HB.out⟩
end Go.Proofs.YtldapapdolkiaaaGreatDoor
namespace Go.Proofs.YtldapapdolkiaaaGreatDoor
set_option maxHeartbeats 64000000
open Go Go.RowKit
set_option maxRecDepth 100000
theorem jMi:(Tryz.prog.info? 5).map (fun i=>(i.zero,i.size,i.bytes))=some (some (.int .u8 0),1,1):=by kernel_rfl
def jGw (B:Nat)(v:Value)(l:List UInt8)(w:World):Prop:=w.ownsRow B 5 1 v l.length (Lib.byteCells l)
theorem jGw.step {B:Nat}{v:Value}{l:List UInt8}{w w':World}(hb:Below w.heap.size w w')(h:jGw B v l w):jGw B v l w':=jAZ hb h
theorem jGw.form {B:Nat}{v:Value}{l:List UInt8}{w:World}(h:jGw B v l w):∃ao cap,v=.slice ao l.length cap:=by
 rcases h.2 with ⟨hv,h0⟩ | ⟨g,cap,cur,hv,_⟩
 ·exact⟨none,0,by rw[hv,h0]⟩
 ·exact⟨_,_,hv⟩
theorem jGw.nil (B:Nat)(w:World):jGw B (.slice none 0 0) [] w:=World.ownsRow_nil _ _ _ _
theorem jGw.more {B:Nat}{v:Value}{l m:List UInt8}{w:World}(h:w.ownsRow B 5 1 v (l.length+m.length) (Lib.byteCells l++Lib.byteCells m)):jGw B v (l++m) w:=by
 unfold jGw
 rw[List.length_append,show Lib.byteCells (l++m)=Lib.byteCells l++Lib.byteCells m by simp[Lib.byteCells]]
 exact h
theorem jBH (w:World)(u:Value)(t:TypeId):∀j x,[u][j]? = some x→(w.alloc (.cells #[u] t)).cell? ((⟨w.heap.size,0,none⟩:Addr).add j)=some x:=by
 intro j x hj
 match j,hj with
 | 0,hj=>simp at hj;subst hj;simp[Addr.add]
theorem jKd (s:ByteArray):s=bytes s.data.toList:=by obtain⟨⟨l⟩⟩:=s;rfl
theorem jMZ (a b:List UInt8):(bytes a)++(bytes b)=bytes (a++b):=by
 unfold bytes
 apply ByteArray.ext
 simp
def ntA:Array Value:=#[.int .u8 2,.bool false,.string ⟨#[60]⟩,.string ⟨#[62]⟩,.int .u8 2,.bool true,.string ⟨#[60,43]⟩,.string ⟨#[62]⟩,.int .u8 3,.bool false,.string ⟨#[60,47]⟩,.string ⟨#[62]⟩,.int .u8 3,.bool true,.string ⟨#[60,47,43]⟩,.string ⟨#[62]⟩,.int .u8 4,.bool false,.string ⟨#[60]⟩,.string ⟨#[47,62]⟩,.int .u8 5,.bool false,.string ⟨#[123]⟩,.string ⟨#[125]⟩]
def Nts (w:World):Prop:=5≤w.heap.size∧∃t fr,w.heap[0]? = some (.cells ntA t fr)
theorem Nts.step {w w':World}(h:Nts w)(hb:Below w.heap.size w w'):Nts w':=by
 obtain⟨h5,t,fr,hg⟩:=h
 exact⟨Nat.le_trans h5 hb.size,t,fr,by rw[hb.block 0 (by omega)];exact hg⟩
end Go.Proofs.YtldapapdolkiaaaGreatDoor
namespace Go.Proofs.YtldapapdolkiaaaGreatDoor
set_option maxHeartbeats 64000000
open Go Go.RowKit
set_option maxRecDepth 100000
theorem jAS (l:List Pc)(k:Nat)(hk:k<l.length):l.take (k+1)=l.take k++[l.getD k nil]:=by
 rw[List.take_succ_eq_append_getElem hk]
 simp[List.getD_eq_getElem?_getD,hk]
theorem jNY (l:List Pc)(k:Nat)(hk:k<l.length):jEC (l.take (k+1))=jEC (l.take k)++(if (l.getD k nil).k=1 then (l.getD k nil).s.data.toList else []):=by
 rw[jAS l k hk]
 unfold jEC
 rw[List.flatMap_append,List.flatMap_cons,List.flatMap_nil,List.append_nil]
theorem jCR (l:List Pc)(k:Nat):bulk (l.take k)≤bulk l:=by
 induction l generalizing k with
 | nil=>simp
 | cons x l ih =>
   cases k with
   | zero=>simp[bulk]
   | succ k =>
     rw[List.take_succ_cons,jBY,jBY]
     have:=ih k
     omega
theorem jBJ {l:List Pc}{k:Nat}(hk:k<l.length):(l.getD k nil).s.size≤bulk l:=by
 have:=jLe hk
 rw[List.getD_eq_getElem?_getD,List.getElem?_eq_getElem hk]
 simp only[Option.getD_some];omega
theorem jAU {B:Nat}{w:World}{A:Addr}{l:List Pc}{k:Nat}(hA:A.block<B)(jAj:∀i j,i<l.length→j<3→w.cell? (A.add (i*3+j))=some (pcF l i j))(hk:k<l.length){wr:World}(hb:Below B w wr) :
 wr.cell? (A.add (k*3))=some (.int .u8 (l.getD k nil).k)∧wr.cell? { block:=(A.add (k*3)).block,off:=(A.add (k*3)).off+1 }=some (.string (l.getD k nil).s)∧wr.cell? { block:=(A.add (k*3)).block,off:=(A.add (k*3)).off+2 }=some (.bool (l.getD k nil).c):=by
 have hAb:(A.add (k*3)).block<B:=by rw[add_block];exact hA
 refine⟨?_,?_,?_⟩
 ·rw[hb.cell hAb];have:=jAj k 0 hk (by omega);simpa [pcF] using this
 ·rw[hb.cell (p:={ block:=(A.add (k*3)).block,off:=(A.add (k*3)).off+1 }) hAb];have:=jBq (by omega) (jAj k 1 hk (by omega));simpa [pcF] using this
 ·rw[hb.cell (p:={ block:=(A.add (k*3)).block,off:=(A.add (k*3)).off+2 }) hAb];have:=jBq (by omega) (jAj k 2 hk (by omega));simpa [pcF] using this
theorem Nts.below {B:Nat}{w w':World}(h:Nts w)(hB:5≤B)(hb:Below B w w'):Nts w':=by
 obtain⟨h5,t,fr,hg⟩:=h
 exact⟨Nat.le_trans h5 hb.size,t,fr,by rw[hb.block 0 (by omega)];exact hg⟩
theorem jCV {l:List Pc}(h:jAu l=0):∀i,i<l.length→jA8 (l.getD i nil)=0:=by
 unfold jAu at h
 split at h
 ·cases h
 ·split at h
  ·rename_i e he
   subst h
   intro i hi
   exfalso
   have key:∀n op,jC4 l n=op→op≠.error 0:=by
    intro n
    induction n with
    | zero=>intro op h;subst h;simp[jC4]
    | succ n ih =>
      intro op h hop
      subst h
      simp only[jC4]at hop
      cases e:jC4 l n with
      | error x=>rw[e]at hop;exact ih _ rfl (by rw[e];exact hop)
      | ok o =>
        rw[e]at hop
        have hop':(if jCB l n≠0 then Except.error (jCB l n) else jJF o (l.getD n nil))=Except.error 0:=hop
        split at hop'
        ·rename_i hh;injection hop' with h0;exact hh h0
        ·unfold jJF at hop'
         split at hop'
         ·split at hop' <;> cases hop'
         ·split at hop'
          ·split at hop' <;> cases hop'
          ·cases hop'
   exact key _ _ rfl he
  ·rename_i op ho
   exact jIx ho
theorem jGc {l:List Pc}(h:bulk l≤100000):∀x ∈ l,x.s.size≤maxLen:=by
 intro x hx
 obtain⟨i,hi,rfl⟩:=List.getElem_of_mem hx
 have:=jLe hi
 unfold maxLen;omega
theorem jEv {B:Nat}{v:Value}{l:List UInt8}{w:World}(h:jGw B v l w):(convert 90 9 v).run Tryz.prog w=.ok (.string (bytes l)) w:=by
 rcases h.2 with ⟨rfl,h0⟩ | ⟨g,cap,cur,rfl,_⟩
 ·obtain rfl:l=[]:=List.eq_nil_of_length_eq_zero h0
  exact Lib.run_convert_nil_bytes w _ _ 5 0 Tryz.underlying90 Tryz.underlying5 Tryz.underlying9
 ·have hc:=World.ownsRow.cells h (g:=g) rfl
  exact run_convert_bytes_back w _ _ 5 ⟨g,0,none⟩ cap l Tryz.underlying90 Tryz.underlying5 Tryz.underlying9 (by intro j hj;exact hc j _ (by simp[Lib.byteCells,hj]))
end Go.Proofs.YtldapapdolkiaaaGreatDoor
namespace Go.Proofs.YtldapapdolkiaaaGreatDoor
set_option maxHeartbeats 64000000
open Go Go.RowKit Go.Shelf
set_option maxRecDepth 100000
theorem jHn (l:List Pc):(jEC l).length≤bulk l:=by
 unfold jEC
 induction l with
 | nil=>simp
 | cons x l ih =>
   rw[List.flatMap_cons,List.length_append,jBY]
   have:(if x.k=1 then x.s.data.toList else []).length≤x.s.size:=by split <;> simp
   omega
end Go.Proofs.YtldapapdolkiaaaGreatDoor
