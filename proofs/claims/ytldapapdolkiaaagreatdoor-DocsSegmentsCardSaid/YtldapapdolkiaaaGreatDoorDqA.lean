/- Text and names as the specification tells them. What a piece has wrong by itself and by those ahead of it, as the specification tells it. Where carried tags stand, as the specification tells it. Which lists of pieces are valid, as the specification tells it. How lists of pieces are written, and their texts, as the specification tells it. Write by the specification; the guard on sizes; and the law over any list of pieces, given that its examples are true. -/
import Derived.Test.YtldapapdolkiaaaGreatDoorDpB
import Derived.Laws.Cover4
namespace Go.Proofs.YtldapapdolkiaaaGreatDoor
set_option maxHeartbeats 64000000
open Go Go.RowKit Go.Lib
set_option maxRecDepth 100000
def jAi (s:ByteArray):List Nat:=jBy s.data.toList.length s.data.toList
def jQx (r:Nat):Value:=.int .i32 (r:Int)
theorem jHj (s:ByteArray):∀ (b i:Nat) (acc:Array Value),Conv.runesFrom s b i acc=acc++((jBy b (s.data.toList.drop i)).map jQx).toArray:=by
 intro b
 induction b with
 | zero=>intro i acc;simp[Conv.runesFrom,jBy]
 | succ b ih =>
   intro i acc
   unfold Conv.runesFrom
   by_cases h:i<s.size
   ·have hne:s.data.toList.drop i≠[]:=by
     intro e
     have:=congrArg List.length e
     rw[List.length_drop,jBb]at this
     simp at this;omega
    rw[if_pos h]
    simp only[jBy,if_neg hne,decodeL_drop,List.drop_drop]
    rw[ih]
    apply Array.ext'
    simp[jQx]
   ·have he:s.data.toList.drop i=[]:=by
     apply List.drop_eq_nil_of_le
     rw[jBb];omega
    rw[if_neg h,he]
    simp[jBy]
theorem jBc:∀ (n:Nat) (l:List UInt8),(jBy n l).length≤n:=by
 intro n
 induction n with
 | zero=>intro l;simp[jBy]
 | succ n ih =>
    intro l;simp only[jBy];split
    ·simp
    ·have:=ih (l.drop (decodeL l).2);simp;omega
theorem jKK (rs:List Nat):runesBytes (rs.map fun r:Nat=>(r:Int))=bytes (jE8 rs):=by
 unfold runesBytes
 have key:∀ (rs:List Nat) (a:List UInt8),(rs.map fun r:Nat=>(r:Int)).foldl (fun r n=>r++Utf8.encode n) (bytes a)=bytes (a++jE8 rs):=by
  intro rs
  induction rs with
  | nil=>intro a;simp[jE8]
  | cons r rs ih =>
    intro a
    simp only[List.map_cons,List.foldl_cons]
    rw[jKd (Utf8.encode (r:Int)),jMZ,ih]
    simp[jE8]
 have:=key rs []
 rw[List.nil_append]at this
 exact this
theorem jXH (s:ByteArray)(w:World)(hs:s.size≤100000):∃cap W1,(convert 9 188 (.string s)).run Tryz.prog w=.ok (.slice (some ⟨w.heap.size,0,none⟩) (jAi s).length cap) W1∧Below w.heap.size w W1 ∧
 (∀ (k r:Nat),(jAi s)[k]? = some r→W1.cell? ⟨w.heap.size,k,none⟩=some (.int .i32 (r:Int)))∧(jAi s).length≤cap ∧
 (convert 188 9 (.slice (some ⟨w.heap.size,0,none⟩) (jAi s).length cap)).run Tryz.prog W1=.ok (.string (bytes (jE8 (jAi s)))) W1:=by
 have e:Conv.runesFrom s s.size 0 #[]=((jAi s).map jQx).toArray:=by
  rw[jHj];simp[jAi]
 have jBi:(jAi s).length≤s.size:=jBc _ _
 have hsz:(Conv.runesFrom s s.size 0 #[]).size=(jAi s).length:=by rw[e];simp
 have h1:=run_runes_of_string (P:=Tryz.prog) w 9 188 21 s Tryz.underlying9 Tryz.underlying188 Tryz.underlying21 (by rw[hsz];omega)
 have hge:=grownCap_ge w (Conv.runesFrom s s.size 0 #[]).size 0 21
 rw[hsz]at h1 hge
 have jAj:∀ (k r:Nat),(jAi s)[k]? = some r→(w.drew.alloc (.cells (Conv.runesFrom s s.size 0 #[]++Array.replicate (grownCap w (jAi s).length 0 21-(jAi s).length) (.int .i32 0)) 21)).cell? ⟨w.heap.size,k,none⟩=some (.int .i32 (r:Int)):=by
  intro k r hk
  have hkl:k<(jAi s).length:=(List.getElem?_eq_some_iff.1 hk).1
  refine (Lib.cell_of_heap (heap_alloc_new w.drew _) k).trans ?_
  rw[e]
  rw[Array.getElem?_append_left (by simpa using hkl)]
  simp[hk,jQx]
 refine⟨_,_,h1,?_,jAj,by omega,?_⟩
 ·exact (Below.refl _ _).drew.alloc (Nat.le_refl _) _
 ·rw[run_convert_runes_string _ _ _ 21 _ _ _ Tryz.underlying188 Tryz.underlying21 Tryz.underlying9]
  have hl:=run_loadCells_list (P:=Tryz.prog) (w.drew.alloc (.cells (Conv.runesFrom s s.size 0 #[]++Array.replicate (grownCap w (jAi s).length 0 21-(jAi s).length) (.int .i32 0)) 21)) ⟨w.heap.size,0,none⟩ (((jAi s).map fun r:Nat=>(r:Int)).map (Value.int .i32)) (fun j v hj=>by
   rw[jHK]
   rw[List.map_map,List.getElem?_map]at hj
   obtain⟨r,hr,rfl⟩:=Option.map_eq_some_iff.1 hj
   exact jAj j r hr)
  simp only[List.length_map]at hl
  rw[run_runesToString _ _ _ _ _ hl,jKK]
theorem jT2 (s:ByteArray):((bytes (jE8 (jAi s))).toList == s.toList)=validD s.data.toList:=by
 have h:=jYv s.data.toList.length s.data.toList (Nat.le_refl _)
 have e:validD s.data.toList=validGoD s.data.toList.length s.data.toList:=rfl
 rw[Bool.eq_iff_iff,e,←h,beq_iff_eq,ByteArray.toList_eq,ByteArray.toList_eq]
 unfold bytes jAi
 simp
def jTD (s:ByteArray)(k:Nat):Prop:=∀i r,(jAi s)[i]? = some r→i<k→ctl r=false
theorem jXQ (s:ByteArray):jBK s=(validD s.data.toList && (jAi s).all fun r=>!ctl r):=rfl
theorem jZR {s:ByteArray}{k:Nat}(h:jTD s k)(hk:(jAi s).length≤k):((jAi s).all fun r=>!ctl r)=true:=by
 rw[List.all_eq_true]
 intro r hr
 obtain⟨i,hi,rfl⟩:=List.getElem_of_mem hr
 rw[h i _ (List.getElem?_eq_getElem hi) (by omega)];rfl
theorem jX3 {s:ByteArray}{k r:Nat}(hk:(jAi s)[k]? = some r)(hc:ctl r=true):((jAi s).all fun r=>!ctl r)=false:=by
 rw[List.all_eq_false]
 exact⟨r,List.mem_of_getElem? hk,by rw[hc];simp⟩
theorem jTD.succ {s:ByteArray}{k r:Nat}(h:jTD s k)(hk:(jAi s)[k]? = some r)(hc:ctl r=false):jTD s (k+1):=by
 intro i q hi hik
 by_cases e:i=k
 ·subst e;rw[hk]at hi;cases hi;exact hc
 ·exact h i q hi (by omega)
theorem jIt (s:ByteArray)(w:World)(hs:s.size≤100000) :
 Calls Tryz.prog 88 #[.string s] w fun e w'=>e=.returned (.bool (jBK s))∧Below w.heap.size w w':=by
 obtain⟨cap,W1,h1,hb,jAj,jUu,h2⟩:=jXH s w hs
 have hV:=jT2 s
 have HT:=hid (jXQ s)
 have jBi:(jAi s).length≤s.size:=jBc _ _
 have HC:=hid jAj
 have HBW:=hid hb
 clear jAj hb
 generalize validD s.data.toList=V at hV HT
 cases V
 ·go_enter Tryz.func88,Tryz.ntmps88
  go_wp2
  go_ret
  exact⟨jAc (by rw[HT.out];rfl),HBW.out⟩
 ·go_enter Tryz.func88,Tryz.ntmps88
  go_wp2
  go_loop [4] (fun i=>∃k:Nat,k≤(jAi s).length∧i=.int .i64 k∧jTD s k) (fun i=>(jAi s).length-(RowKit.intOf i).toNat)
  case atStart=>exact⟨0,Nat.zero_le _,rfl,fun _ _ _ h=>absurd h (Nat.not_lt_zero _)⟩
  case round =>
   obtain⟨k,hk,rfl,hN⟩:=hrel
   have HN:=hid hN;clear hN
   by_cases hlt:k<(jAi s).length
   ·have hr:(jAi s)[k]? = some (jAi s)[k]:=List.getElem?_eq_getElem hlt
    have c0:=HC.out k _ hr
    generalize (jAi s)[k]=r at hr c0
    have HR:=hid hr;clear hr
    have HY:=hid (fun hc=>jX3 HR.out hc)
    have HZ:=hid (fun hc=>HN.out.succ HR.out hc)
    have HCT:=hid (show ctl r=(decide (r<32) || decide (r=127)) from rfl)
    by_cases h32:(r:Int)<32 <;> by_cases h127:(r:Int)=127
    ·omega
    ·go_wp2
     go_ret
     exact⟨jAc (by rw[HT.out,HY.out (by rw[HCT.out];simp;omega)];rfl),HBW.out⟩
    ·go_wp2
     go_ret
     exact⟨jAc (by rw[HT.out,HY.out (by rw[HCT.out];simp;omega)];rfl),HBW.out⟩
    ·have hb127:((r:Int) == 127)=false:=by simp;omega
     go_wp2
     go_round
     case rel=>exact⟨k+1,by omega,by go_num,HZ.out (by rw[HCT.out];simp;omega)⟩
     case measure=>simp[RowKit.intOf];omega
   ·go_wp2
    go_ret
    exact⟨jAc (by rw[HT.out,jZR HN.out (by omega)];rfl),HBW.out⟩
theorem jNV (s:ByteArray)(w:World)(hs:s.size≤maxLen) :
 Calls Tryz.prog 131 #[.string s] w fun e w'=>e=.returned (.bool (jDi s))∧w'=w:=by
 unfold maxLen at hs
 by_cases h0:s.size=0
 ·have hI:((s.size:Int) == 0)=true:=by simp[h0]
  have HZ:=hid (jFW (s:=s) (by omega))
  clear h0
  go_enter Tryz.func131,Tryz.ntmps131
  go_wp2
  go_ret
  exact⟨jAc HZ.out.symm,rfl⟩
 have hI:((s.size:Int) == 0)=false:=beq_eq_false_iff_ne.2 (by omega)
 by_cases h16:s.size≤16
 ·have h00:0<s.size:=by omega
  have HG:=hid (get0 h00)
  by_cases hb1:(97:Int)≤(s[0].toNat:Int) <;> by_cases hb2:(s[0].toNat:Int)≤122
  ·have HL:=hid (jWQ hb1 hb2)
   go_enter Tryz.func131,Tryz.ntmps131
   go_wp2
   go_loop [3] (fun i=>∃k:Nat,k≤s.size∧i=.int .i64 k∧jYX isT s k) (fun i=>s.size-(RowKit.intOf i).toNat)
   case atStart=>exact⟨0,Nat.zero_le _,rfl,jIO _ _⟩
   case round =>
    obtain⟨k,hk,rfl,hu⟩:=hrel
    have HU:=hid hu;clear hu
    by_cases hlt:k<s.size
    ·have HX:=hid (fun h=>jIz HU.out hlt h)
     have HY:=hid (fun h=>jJv (s:=s) hlt h)
     clear hb1 hb2
     generalize hc:(s[k].toNat:Int)=c at HX HY
     by_cases h1:97≤c <;> by_cases h2:c≤122 <;> by_cases h3:48≤c <;> by_cases h4:c≤57 <;> by_cases h5:c=45
     all_goals
      first
      | (exfalso;omega)
      | (try (have h45:(c != 45)=true:=by (simp;omega))
         go_wp2
         first
         | (go_ret
            exact⟨jAc (HY.out (jS9 (by omega) (by omega) (by omega))).symm,rfl⟩)
         | (go_round
            case rel=>exact⟨k+1,by omega,by go_num,HX.out (jR2 (by omega))⟩
            case measure=>simp[RowKit.intOf];omega))
    ·have HZ:=hid (show jDi s=true by rw[jPq (by omega) h16,HG.out,HL.out,jLQ HU.out (by omega)];rfl)
     go_wp2
     go_ret
     exact⟨jAc HZ.out.symm,rfl⟩
  all_goals
   first
   | (exfalso;omega)
   | (have HZ:=hid (jJt h00 (jTJ (by omega)))
      go_enter Tryz.func131,Tryz.ntmps131
      go_wp2
      go_ret
      exact⟨jAc HZ.out.symm,rfl⟩)
 ·have HZ:=hid (jFW (s:=s) (by omega))
  go_enter Tryz.func131,Tryz.ntmps131
  go_wp2
  go_ret
  exact⟨jAc HZ.out.symm,rfl⟩
end Go.Proofs.YtldapapdolkiaaaGreatDoor
namespace Go.Proofs.YtldapapdolkiaaaGreatDoor
set_option maxHeartbeats 64000000
open Go Go.RowKit
set_option maxRecDepth 100000
def jSM (x a:Pc)(i:Nat):Int :=
 if x.k<1∨5<x.k then 1
 else if x.c=true∧x.k≠2∧x.k≠3 then 1
 else if x.k=1∧(x.s.size=0∨jBK x.s=false∨(0<i∧a.k=1)) then 4
 else if x.k≠1∧jDi x.s=false then 5 else 0
theorem jTk (l:List Pc)(i:Nat):jFx l i=jSM (l.getD i nil) (l.getD (i-1) nil) i:=rfl
theorem jRM (l:List Pc)(A:Addr)(cap i:Nat)(w:World)(hv:jBe w (.slice (some A) l.length cap) l)(hi:i<l.length)(hb:bulk l≤100000) :
 Calls Tryz.prog 70 #[.slice (some A) l.length cap,.int .i64 (i:Int)] w fun e w'=>e=.returned (.int .u8 (jFx l i))∧Below w.heap.size w w':=by
 obtain⟨p,cap',e,hl,hc,jA4⟩:=hv
 cases e
 unfold maxLen at hc
 obtain⟨_,eA,hA,jAj⟩:=jA4 (by omega)
 cases eA
 have ag:=Tryz.isAgg76
 have zg:=Tryz.sizeOf76
 obtain⟨x0,x1,x2⟩:=jAU hA jAj hi (Below.refl _ w)
 have hsz:=jBJ hi
 have hlb:l.length≤bulk l:=by unfold bulk;omega
 have HE:=Lib.hid (jTk l i)
 have HY:=Lib.hid (fun (h:0<i) (wr:World) (hb:Below w.heap.size w wr)=>(jAU hA jAj (k:=i-1) (by omega) hb).1)
 clear jAj jA4
 generalize l.getD i nil=x at x0 x1 x2 hsz HE
 generalize l.getD (i-1) nil=a at HE HY
 rw[HE.out]
 clear HE
 have HP:=Lib.hid (show jSM x a i=if x.k<1∨5<x.k then 1
  else if x.c=true∧x.k≠2∧x.k≠3 then 1
  else if x.k=1∧(x.s.size=0∨jBK x.s=false∨(0<i∧a.k=1)) then 4
  else if x.k≠1∧jDi x.s=false then 5 else 0 from rfl)
 have HX:=Lib.hid (Boxed.new w x)
 have HB:=Lib.hid (jAb (w:=w) (pcC x))
 have cT:=fun wr=>jIt x.s wr (by omega)
 have cN:=fun wr=>jNV x.s wr (by unfold maxLen;omega)
 obtain⟨k,s,c⟩:=x
 unfold pcC at HX HB
 simp only at cT cN HP HX HB hsz x0 x1 x2 ⊢
 generalize jSM ⟨k,s,c⟩ a i=E at HP ⊢
 generalize jBK s=T at cT HP
 generalize jDi s=N at cN HP
 by_cases h1:k<1
 ·go_enter Tryz.func70,Tryz.ntmps70
  go_wp2
  go_ret
  exact⟨jAQ (by rw[HP.out];simp[h1]),HB.out⟩
 ·by_cases h5:5<k
  ·go_enter Tryz.func70,Tryz.ntmps70
   go_wp2
   go_ret
   exact⟨jAQ (by rw[HP.out];simp[h5]),HB.out⟩
  ·have hk:k=1∨k=2∨k=3∨k=4∨k=5:=by omega
   clear h1 h5
   rcases hk with rfl | rfl | rfl | rfl | rfl
   ·cases c
    ·by_cases h0:1≤s.size
     ·have hE:=nonempty h0
      have h00:¬s.size=0:=by omega
      have HX2:=Lib.hid (fun wr hb=>HX.out.step (w':=wr) hb)
      have HB2:=Lib.hid (fun wr hb=>jAa (w':=wr) HB.out hb)
      cases T
      ·go_enter Tryz.func70,Tryz.ntmps70
       go_wp2_with (go_at_call 88;(with_reducible refine (cT _).mono ?_);rintro e w2 ⟨rfl,hb2⟩;obtain⟨b0,b1,b2,b3⟩:=HX2.out _ hb2;have HB3:=Lib.hid (HB2.out _ hb2);clear hb2)
       go_ret
       exact⟨jAQ (by rw[HP.out];simp),HB3.out⟩
      ·by_cases h0i:0<i
       ·have hdi:decide (0<i)=true:=by simp;omega
        have hwr:IntKind.i64.wrap ((i:Int)-1)=((i-1:Nat):Int):=by rw[IntKind.wrap_i64];omega
        have qAB:((i-1:Nat):Int)<(l.length:Int):=by omega
        have jY1:i-1<l.length:=by omega
        have HY1:=Lib.hid (HY.out h0i)
        have HI:=Lib.hid h0i
        clear h0i
        obtain⟨ka,sa,ca⟩:=a
        simp only at HY1 HP
        by_cases hka:ka=1
        ·subst hka
         go_enter Tryz.func70,Tryz.ntmps70
         go_wp2_with (go_at_call 88;(with_reducible refine (cT _).mono ?_);rintro e w2 ⟨rfl,hb2⟩;obtain⟨b0,b1,b2,b3⟩:=HX2.out _ hb2;have HB3:=Lib.hid (HB2.out _ hb2);have y0:=HY1.out _ HB3.out;clear hb2)
         go_ret
         exact⟨jAQ (by rw[HP.out];simp[HI.out]),HB3.out⟩
        ·go_enter Tryz.func70,Tryz.ntmps70
         go_wp2_with (go_at_call 88;(with_reducible refine (cT _).mono ?_);rintro e w2 ⟨rfl,hb2⟩;obtain⟨b0,b1,b2,b3⟩:=HX2.out _ hb2;have HB3:=Lib.hid (HB2.out _ hb2);have y0:=HY1.out _ HB3.out;clear hb2)
         go_ret
         exact⟨jAQ (by rw[HP.out];simp[hka,h00]),HB3.out⟩
       ·have hdi:decide (0<i)=false:=by simp;omega
        have HI:=Lib.hid h0i
        clear h0i
        go_enter Tryz.func70,Tryz.ntmps70
        go_wp2_with (go_at_call 88;(with_reducible refine (cT _).mono ?_);rintro e w2 ⟨rfl,hb2⟩;obtain⟨b0,b1,b2,b3⟩:=HX2.out _ hb2;have HB3:=Lib.hid (HB2.out _ hb2);clear hb2)
        go_ret
        exact⟨jAQ (by rw[HP.out];simp[HI.out,h00]),HB3.out⟩
     ·have hE:=isempty h0
      have h00:s.size=0:=by omega
      have HZ:=Lib.hid h00
      clear h0 h00
      go_enter Tryz.func70,Tryz.ntmps70
      go_wp2
      go_ret
      exact⟨jAQ (by rw[HP.out];simp[HZ.out]),HB.out⟩
    ·go_enter Tryz.func70,Tryz.ntmps70
     go_wp2
     go_ret
     exact⟨jAQ (by rw[HP.out];simp),HB.out⟩
   all_goals
    cases c <;> cases N
    all_goals
     go_enter Tryz.func70,Tryz.ntmps70
     go_wp2_with (go_at_call 131;(with_reducible refine (cN _).mono ?_);rintro e w2 ⟨rfl,hw⟩;obtain rfl:=hw.symm)
     go_ret
     exact⟨jAQ (by rw[HP.out];simp),HB.out⟩
end Go.Proofs.YtldapapdolkiaaaGreatDoor
namespace Go.Proofs.YtldapapdolkiaaaGreatDoor
set_option maxHeartbeats 64000000
open Go Go.RowKit
set_option maxRecDepth 100000
def jV7 (l:List Pc)(i:Nat):Int:=if jRA l i=true then 8 else 0
def jUa (l:List Pc)(i k:Nat):Prop:=∀m,m<k→jJJ (l.getD m nil) (l.getD i nil)=false
theorem jUa.succ {l:List Pc}{i k:Nat}(h:jUa l i k)(hk:jJJ (l.getD k nil) (l.getD i nil)=false):jUa l i (k+1):=by
 intro m hm
 by_cases e:m=k
 ·subst e;exact hk
 ·exact h m (by omega)
theorem jUX {l:List Pc}{i k:Nat}(h:jUa l i k)(hk:i≤k):jV7 l i=0:=by
 unfold jV7
 have:jRA l i=false:=by
  unfold jRA
  rw[List.any_eq_false]
  intro m hm
  rw[List.mem_range]at hm
  rw[h m (by omega)];simp
 rw[this];rfl
theorem jVe {l:List Pc}{i k:Nat}(hk:k<i)(h:jJJ (l.getD k nil) (l.getD i nil)=true):jV7 l i=8:=by
 unfold jV7
 have:jRA l i=true:=by
  unfold jRA
  rw[List.any_eq_true]
  exact⟨k,List.mem_range.2 hk,h⟩
 rw[this];rfl
theorem jNC (l:List Pc)(A:Addr)(cap i:Nat)(w:World)(hv:jBe w (.slice (some A) l.length cap) l)(hi:i<l.length)(hb:bulk l≤100000) :
 Calls Tryz.prog 71 #[.slice (some A) l.length cap,.int .i64 (i:Int)] w fun e w'=>e=.returned (.int .u8 (jV7 l i))∧w'=w:=by
 obtain⟨p,cap',e,hl,hc,jA4⟩:=hv
 cases e
 unfold maxLen at hc
 obtain⟨_,eA,hA,jAj⟩:=jA4 (by omega)
 cases eA
 have ag:=Tryz.isAgg76
 have zg:=Tryz.sizeOf76
 have HC:=Lib.hid jAj
 have hlb:l.length≤bulk l:=by unfold bulk;omega
 obtain⟨x0,x1,x2⟩:=jAU hA jAj hi (Below.refl _ w)
 clear jAj jA4 x1
 go_enter Tryz.func71,Tryz.ntmps71
 go_wp2
 go_loop [5] (fun v=>∃k:Nat,k≤i∧v=.int .i64 k∧jUa l i k) (fun v=>i-(RowKit.intOf v).toNat)
 case atStart=>exact⟨0,Nat.zero_le _,rfl,fun m h=>absurd h (Nat.not_lt_zero _)⟩
 case round =>
  obtain⟨k,hk,rfl,hN⟩:=hrel
  have HN:=Lib.hid hN;clear hN
  by_cases hlt:k<i
  ·have hkl:k<l.length:=by omega
   obtain⟨y0,y1,y2⟩:=jAU hA HC.out hkl (Below.refl _ w)
   clear y1
   have HS:=Lib.hid (fun h=>jVe (l:=l) hlt h)
   have HZ:=Lib.hid (fun h=>HN.out.succ h)
   generalize l.getD i nil=x at x0 x2 HS HZ
   generalize l.getD k nil=y at y0 y2 HS HZ
   have HM:=Lib.hid (show jJJ y x=((decide (x.k=2) && x.c && !(decide (y.k=2) && y.c)) || (decide (y.k=3) && y.c && !(decide (x.k=3) && x.c))) from rfl)
   generalize jJJ y x=M at HS HZ HM
   obtain⟨xk,xs,xc⟩:=x
   obtain⟨yk,ys,yc⟩:=y
   simp only at x0 x2 y0 y2 HM
   have hx:xk=2∨xk=3∨(xk≠2∧xk≠3):=by omega
   have hy:yk=2∨yk=3∨(yk≠2∧yk≠3):=by omega
   rcases hx with rfl | rfl | ⟨hx2,hx3⟩ <;> rcases hy with rfl | rfl | ⟨hy2,hy3⟩ <;> cases xc <;> cases yc
   all_goals
    try (have q1:(yk == 2)=false:=beq_eq_false_iff_ne.2 hy2)
    try (have q2:(xk == 3)=false:=beq_eq_false_iff_ne.2 hx3)
    go_wp2
    first
    | (go_ret
       exact⟨jAQ (HS.out (by rw[HM.out];simp[*])).symm,rfl⟩)
    | (go_round
       case rel=>exact⟨k+1,by omega,by go_num,HZ.out (by rw[HM.out];simp[*])⟩
       case measure=>simp[RowKit.intOf];omega)
  ·have HZ:=Lib.hid (jUX HN.out (by omega))
   go_wp2
   go_ret
   exact⟨jAQ HZ.out.symm,rfl⟩
end Go.Proofs.YtldapapdolkiaaaGreatDoor
namespace Go.Proofs.YtldapapdolkiaaaGreatDoor
set_option maxHeartbeats 64000000
open Go Go.RowKit
set_option maxRecDepth 100000
def jB9 (B:Nat)(v:Value)(op:List ByteArray)(w:World):Prop:=w.ownsRow B 9 1 v op.length (op.map Value.string)
theorem jB9.step {B:Nat}{v:Value}{op:List ByteArray}{w w':World}(hb:Below w.heap.size w w')(h:jB9 B v op w):jB9 B v op w':=jAZ hb h
theorem jB9.form {B:Nat}{v:Value}{op:List ByteArray}{w:World}(h:jB9 B v op w):∃ao cap,v=.slice ao op.length cap:=by
 rcases h.2 with ⟨hv,h0⟩ | ⟨g,cap,cur,hv,_⟩
 ·exact⟨none,0,by rw[hv,h0]⟩
 ·exact⟨_,_,hv⟩
theorem jQC {l:List Pc}{k:Nat}{op:List ByteArray}(h:jC4 l k=.ok op)(h0:jFx l k≠0):jCB l k=jFx l k:=by
 rw[←jTA h];unfold refE;rw[if_pos h0]
theorem jU5 {l:List Pc}{k:Nat}{op:List ByteArray}(h:jC4 l k=.ok op)(h0:jFx l k=0):jCB l k=jV7 l k:=by
 rw[←jTA h];unfold refE jV7;rw[if_neg (by rw[h0];simp)]
theorem jM1 {l:List Pc}{k:Nat}{op:List ByteArray}{e:Int}(jHN:¬512<l.length)(hk:k<l.length)(h:jC4 l k=.ok op)(he:jCB l k=e)(h0:e≠0):jAu l=e:=by
 refine jBQ jHN (i:=k+1) ?_ (by omega)
 rw[jLv h (by rw[he];exact h0),he]
theorem folX (op:List ByteArray)(k:Int)(s:ByteArray)(c:Bool):jJF op ⟨k,s,c⟩=if k=2 then (if op.length+1 > 16 then .error 3 else .ok (op++[s])) else if k=3 then (if op.getLast? = some s then .ok op.dropLast else .error 9) else .ok op:=rfl
theorem jDJ (l:List Pc)(v:Value)(w:World)(hv:jBe w v l)(hb:bulk l≤100000) :
 Calls Tryz.prog 25 #[v] w fun e w'=>e=.returned (.int .u8 (jAu l))∧Below w.heap.size w w':=by
 obtain⟨i0,hi,hz0,hz1,hz2⟩:=info_parts jFi
 have HV:=Lib.hid hv
 obtain⟨p,cap,rfl,hl,hc,jA4⟩:=hv
 unfold maxLen at hc
 have ag:=Tryz.isAgg76
 have zg:=Tryz.sizeOf76
 have hlb:l.length≤bulk l:=by unfold bulk;omega
 by_cases jHN:512<l.length
 ·have HE:=Lib.hid (jHE jHN)
  have hI:(512:Int)<(l.length:Int):=by omega
  clear jA4
  go_enter Tryz.func25,Tryz.ntmps25
  go_wp2
  go_ret
  exact⟨jAQ HE.out.symm,Below.refl _ _⟩
 have hI:¬(512:Int)<(l.length:Int):=by omega
 have HR:=Lib.hid jA4
 clear jA4
 go_enter Tryz.func25,Tryz.ntmps25
 go_wp2
 go_loopw [3,4] (fun o i wr=>∃ (k:Nat) (op:List ByteArray),k≤l.length∧i=.int .i64 k∧Hid (jC4 l k=.ok op)∧Hid (jB9 w.heap.size o op wr)∧Hid (Below w.heap.size w wr)) (fun _ i _=>l.length-(intOf i).toNat)
 case atStart=>exact⟨0,[],Nat.zero_le _,rfl,rfl,World.ownsRow_nil _ _ _ _,Below.refl _ _⟩
 case round =>
  obtain⟨k,op,hk,rfl,HQ,HK,HB⟩:=hrel
  by_cases hlt:k<l.length
  ·obtain⟨A,rfl,hA,jAj⟩:=HR.out (by omega)
   have cA:=fun wr (hb':Below w.heap.size w wr)=>jRM l A cap k wr ((HV.out:jBe w _ l).below hb' |>.mono hb'.size) hlt hb
   have cC:=fun wr (hb':Below w.heap.size w wr)=>jNC l A cap k wr ((HV.out:jBe w _ l).below hb' |>.mono hb'.size) hlt hb
   have jBi:=jP6 HQ.out
   have jQf:=fun wr (hb':Below w.heap.size w wr)=>jAU hA jAj hlt hb'
   have HCL:=Lib.hid jQf
   clear jQf jAj
   by_cases ha:jFx l k=0
   ·have HH:=Lib.hid (jU5 HQ.out ha)
    by_cases hca:jV7 l k=0
    ·have HF:=Lib.hid (jO5 HQ.out (HH.out.trans hca))
     rw[ha]at cA
     rw[hca]at cC
     have cA1:=cA wr HB.out
     clear ha hca HH
     generalize l.getD k nil=x at HCL HF
     obtain⟨xk,xs,xc⟩:=x
     rw[folX]at HF
     have arm:=fun (wr':World)=>cC wr'
     by_cases h3:xk=3
     ·subst h3
      rw[if_neg (by decide),if_pos rfl]at HF
      rcases List.eq_nil_or_concat op with rfl | ⟨l',y,rfl⟩
      ·obtain⟨ao,cap2,rfl⟩:=HK.out.form
       rw[if_neg (by simp)]at HF
       have HE:=Lib.hid (jBQ jHN HF.out (by omega))
       go_wp2_with (first
        | (go_at_call 70;(with_reducible refine cA1.mono ?_);rintro e w2 ⟨rfl,hb2⟩;have HB2:=Lib.hid (jAa HB.out hb2);have HK2:=Lib.hid (HK.out.step hb2);obtain⟨x0,x1,x2⟩:=HCL.out w2 HB2.out;have cC2:=cC w2 HB2.out;clear hb2)
        | (go_at_call 71;(with_reducible refine cC2.mono ?_);rintro e w3 ⟨rfl,hw⟩;obtain rfl:=hw.symm))
       go_quiet (fail)
       go_wp2
       go_ret
       exact⟨jAQ HE.out.symm,below_drewN HB2.out _⟩
      ·have hK:=HK.out
       rcases hK.2 with ⟨_,hn0⟩ | ⟨g,cap2,cur,rfl,_,_,hncap,hcapm,_,_⟩
       ·simp at hn0
       have hct:=hK
       simp only[List.concat_eq_append]at *
       have ctw:=fun wr (h:jB9 w.heap.size (.slice (some ⟨g,0,none⟩) (l'++[y]).length cap2) (l'++[y]) wr)=>(show wr.cell? ⟨g,l'.length,none⟩=some (.string y) by rw[←jHK];exact World.ownsRow.cells h (g:=g) rfl l'.length (.string y) (by simp))
       have CTW:=Lib.hid ctw
       have POP:=Lib.hid (fun (wr:World) (h:jB9 w.heap.size (.slice (some ⟨g,0,none⟩) (l'++[y]).length cap2) (l'++[y]) wr)=>(show jB9 w.heap.size (.slice (some ⟨g,0,none⟩) l'.length cap2) l' wr from jGX (x:=y) (by unfold jB9 at h;simpa using h)))
       rw[List.getLast?_append,List.getLast?_singleton,Option.some_or,List.dropLast_concat]at HF
       clear ctw hct hK
       simp only[List.length_append,List.length_cons,List.length_nil,Nat.zero_add]at *
       unfold maxLen at hcapm
       have hg0:(((l'.length:Int)+1) == 0)=false:=beq_eq_false_iff_ne.2 (by omega)
       have hwr:IntKind.i64.wrap (l'.length:Int)=(l'.length:Int):=by rw[IntKind.wrap_i64];omega
       have qAB:(l'.length:Int)<(l'.length:Int)+1:=by omega
       have jZU:(l'.length:Int)<((l'.length+1:Nat):Int):=by omega
       have jY1:l'.length<l'.length+1:=by omega
       have jZV:(l'.length:Int)≤(cap2:Int):=by omega
       by_cases hq:y.toList=xs.toList
       ·have hy:=jGf hq
        rw[if_pos (by rw[hy])]at HF
        clear hy
        go_wp2_with (first
         | (go_at_call 70;(with_reducible refine cA1.mono ?_);rintro e w2 ⟨rfl,hb2⟩;have HB2:=Lib.hid (jAa HB.out hb2);have HK2:=Lib.hid (HK.out.step hb2);obtain⟨x0,x1,x2⟩:=HCL.out w2 HB2.out;have cC2:=cC w2 HB2.out;clear hb2;have ct0:=CTW.out w2 HK2.out;have HK4:=Lib.hid (POP.out w2 HK2.out))
         | (go_at_call 71;(with_reducible refine cC2.mono ?_);rintro e w3 ⟨rfl,hw⟩;obtain rfl:=hw.symm))
        go_quiet (fail)
        go_wp2
        go_roundw
        case rel=>exact⟨k+1,l',by omega,by go_num,HF.out,jEV _ HK4.out,below_drewN HB2.out _⟩
        case measure=>simp[intOf];omega
       ·have hqb:(y.toList == xs.toList)=false:=by simp[hq]
        rw[if_neg (by intro h;injection h with h;exact hq (by rw[h]))]at HF
        have HE:=Lib.hid (jBQ jHN HF.out (by omega))
        go_wp2_with (first
         | (go_at_call 70;(with_reducible refine cA1.mono ?_);rintro e w2 ⟨rfl,hb2⟩;have HB2:=Lib.hid (jAa HB.out hb2);have HK2:=Lib.hid (HK.out.step hb2);obtain⟨x0,x1,x2⟩:=HCL.out w2 HB2.out;have cC2:=cC w2 HB2.out;clear hb2;have ct0:=CTW.out w2 HK2.out)
         | (go_at_call 71;(with_reducible refine cC2.mono ?_);rintro e w3 ⟨rfl,hw⟩;obtain rfl:=hw.symm))
        go_quiet (fail)
        go_wp2
        go_ret
        exact⟨jAQ HE.out.symm,below_drewN HB2.out _⟩
     ·by_cases h2:xk=2
      ·subst h2
       have h3b:((2:Int) == 3)=false:=rfl
       rw[if_pos rfl]at HF
       clear h3
       by_cases h16:op.length+1 > 16
       ·rw[if_pos h16]at HF
        have HE:=Lib.hid (jBQ jHN HF.out (by omega))
        have qAD:(16:Int)<((op++[xs]).length:Int):=by simp;omega
        simp only[List.length_append,List.length_cons,List.length_nil,Nat.zero_add]at qAD
        clear h16
        go_wp2_with (first
         | (go_at_call 70;(with_reducible refine cA1.mono ?_);rintro e w2 ⟨rfl,hb2⟩;have HB2:=Lib.hid (jAa HB.out hb2);have HK2:=Lib.hid (HK.out.step hb2);obtain⟨x0,x1,x2⟩:=HCL.out w2 HB2.out;have cC2:=cC w2 HB2.out;clear hb2;have jAN:=HK2.out;unfold jB9 at jAN;have hsz2:=HB2.out.size)
         | (go_at_call 71;(with_reducible refine cC2.mono ?_);rintro e w3 ⟨rfl,hw⟩;obtain rfl:=hw.symm)
         | (at_builtin;refine wpList_append_own _ rfl _ _ 49 rfl w.heap.size 9 i0 (.string ⟨#[]⟩) 1 16 Tryz.underlying49 hi hz0 hz1 hz2 rfl (by decide) _ _ _ rfl (jAN.alloc _) ⟨w2.heap.size,0,none⟩ 1 1 [.string xs] rfl rfl (jBH _ _ _) (fun x hx=>by simp at hx;subst hx;rfl) (by unfold maxLen;omega) (by omega) (by simp;omega) ?_;intro v3 w3 jAP jAl jBs
            have HB3:=Lib.hid ((HB2.out.alloc HB2.out.size (.cells #[.string xs] 9)).grown jAl (by simp;omega) (fun k hk=>(jAN.lt k hk).1))
            have HK3:=Lib.hid (show jB9 w.heap.size v3 (op++[xs]) w3 by unfold jB9;rw[List.length_append,List.map_append];exact jAP)
            obtain⟨ao3,cap3,rfl⟩:=HK3.out.form
            clear jAN jAP jAl jBs))
        go_ret
        exact⟨jAQ HE.out.symm,HB3.out⟩
       ·rw[if_neg h16]at HF
        have qAD:¬(16:Int)<((op++[xs]).length:Int):=by simp;omega
        simp only[List.length_append,List.length_cons,List.length_nil,Nat.zero_add]at qAD
        clear h16
        go_wp2_with (first
         | (go_at_call 70;(with_reducible refine cA1.mono ?_);rintro e w2 ⟨rfl,hb2⟩;have HB2:=Lib.hid (jAa HB.out hb2);have HK2:=Lib.hid (HK.out.step hb2);obtain⟨x0,x1,x2⟩:=HCL.out w2 HB2.out;have cC2:=cC w2 HB2.out;clear hb2;have jAN:=HK2.out;unfold jB9 at jAN;have hsz2:=HB2.out.size)
         | (go_at_call 71;(with_reducible refine cC2.mono ?_);rintro e w3 ⟨rfl,hw⟩;obtain rfl:=hw.symm)
         | (at_builtin;refine wpList_append_own _ rfl _ _ 49 rfl w.heap.size 9 i0 (.string ⟨#[]⟩) 1 16 Tryz.underlying49 hi hz0 hz1 hz2 rfl (by decide) _ _ _ rfl (jAN.alloc _) ⟨w2.heap.size,0,none⟩ 1 1 [.string xs] rfl rfl (jBH _ _ _) (fun x hx=>by simp at hx;subst hx;rfl) (by unfold maxLen;omega) (by omega) (by simp;omega) ?_;intro v3 w3 jAP jAl jBs
            have HB3:=Lib.hid ((HB2.out.alloc HB2.out.size (.cells #[.string xs] 9)).grown jAl (by simp;omega) (fun k hk=>(jAN.lt k hk).1))
            have HK3:=Lib.hid (show jB9 w.heap.size v3 (op++[xs]) w3 by unfold jB9;rw[List.length_append,List.map_append];exact jAP)
            obtain⟨ao3,cap3,rfl⟩:=HK3.out.form
            clear jAN jAP jAl jBs))
        go_roundw
        case rel=>exact⟨k+1,op++[xs],by omega,by go_num,HF.out,(by show jB9 _ _ _ _;have h:=HK3.out;rw[List.length_append]at h;exact h),HB3.out⟩
        case measure=>simp[intOf];omega
      ·have h3b:(xk == 3)=false:=beq_eq_false_iff_ne.2 h3
       have h2b:(xk == 2)=false:=beq_eq_false_iff_ne.2 h2
       rw[if_neg h2,if_neg h3]at HF
       clear h3 h2
       go_wp2_with (first
        | (go_at_call 70;(with_reducible refine cA1.mono ?_);rintro e w2 ⟨rfl,hb2⟩;have HB2:=Lib.hid (jAa HB.out hb2);have HK2:=Lib.hid (HK.out.step hb2);obtain⟨x0,x1,x2⟩:=HCL.out w2 HB2.out;have cC2:=cC w2 HB2.out;clear hb2)
        | (go_at_call 71;(with_reducible refine cC2.mono ?_);rintro e w3 ⟨rfl,hw⟩;obtain rfl:=hw.symm))
       go_roundw
       case rel=>exact⟨k+1,op,by omega,by go_num,HF.out,HK2.out,HB2.out⟩
       case measure=>simp[intOf];omega
    ·have HE:=Lib.hid (jM1 jHN hlt HQ.out HH.out hca)
     rw[ha]at cA
     generalize jV7 l k=E at HE cC hca
     have hE0:(E == 0)=false:=by simpa using hca
     have cA1:=cA wr HB.out
     clear ha hca HH
     go_wp2_with (first
      | (go_at_call 70;(with_reducible refine cA1.mono ?_);rintro e w2 ⟨rfl,hb2⟩;have HB2:=Lib.hid (jAa HB.out hb2);have cC2:=cC w2 HB2.out;clear hb2)
      | (go_at_call 71;(with_reducible refine cC2.mono ?_);rintro e w3 ⟨rfl,hw⟩;obtain rfl:=hw.symm))
     go_ret
     exact⟨jAQ HE.out.symm,HB2.out⟩
   ·have HE:=Lib.hid (jM1 jHN hlt HQ.out (jQC HQ.out ha) ha)
    generalize jFx l k=E at HE cA ha
    have hE0:(E == 0)=false:=by simpa using ha
    have cA1:=cA wr HB.out
    clear ha
    go_wp2_with (go_at_call 70;(with_reducible refine cA1.mono ?_);rintro e w2 ⟨rfl,hb2⟩;have HB2:=Lib.hid (jAa HB.out hb2);clear hb2)
    go_ret
    exact⟨jAQ HE.out.symm,HB2.out⟩
  ·have hkl:k=l.length:=by omega
   obtain⟨ao,cap2,rfl⟩:=HK.out.form
   have HE:=Lib.hid (jMw jHN (hkl▸HQ.out))
   by_cases h0:op=[]
   ·have hI0:¬(0:Int)<(op.length:Int):=by rw[h0];simp
    have HZ:=Lib.hid h0
    clear h0
    go_wp2
    go_ret
    exact⟨jAQ (by rw[HE.out,if_pos HZ.out]),HB.out⟩
   ·have hI0:(0:Int)<(op.length:Int):=by have:=List.length_pos_iff.2 h0;omega
    go_wp2
    go_ret
    exact⟨jAQ (by rw[HE.out,if_neg h0]),HB.out⟩
end Go.Proofs.YtldapapdolkiaaaGreatDoor
namespace Go.Proofs.YtldapapdolkiaaaGreatDoor
set_option maxHeartbeats 64000000
open Go Go.RowKit
set_option maxRecDepth 100000
theorem jRO (l:List UInt8)(s:ByteArray):bytes l++s=bytes (l++s.data.toList):=by
 rw[jKd s,jMZ];rfl
theorem jJ5 (l:List UInt8):(bytes l).size=l.length:=by unfold bytes;simp[ByteArray.size]
theorem jMI (l:List Pc)(v:Value)(w:World)(hv:jBe w v l)(hb:bulk l≤10000) :
 Calls Tryz.prog 31 #[v] w fun e w'=>e=.returned (.string (bytes (jEC l)))∧w'=w:=by
 obtain⟨p,cap,rfl,hl,hc,jA4⟩:=hv
 unfold maxLen at hc
 have ag:=Tryz.isAgg76
 have zg:=Tryz.sizeOf76
 have HR:=Lib.hid jA4
 clear jA4
 go_enter Tryz.func31,Tryz.ntmps31
 go_wp2
 go_loop [3,4] (fun o i=>∃k:Nat,k≤l.length∧i=.int .i64 k∧o=.string (bytes (jEC (l.take k)))) (fun _ i=>l.length-(intOf i).toNat)
 case atStart=>exact⟨0,Nat.zero_le _,rfl,rfl⟩
 case round =>
  obtain⟨k,hk,rfl,rfl⟩:=hrel
  by_cases hlt:k<l.length
  ·obtain⟨A,rfl,hA,jAj⟩:=HR.out (by omega)
   obtain⟨x0,x1,x2⟩:=jAU hA jAj hlt (Below.refl _ w)
   have jBi:=jHn (l.take k)
   have hbt:=jCR l k
   have hsz:=jBJ hlt
   have HF:=Lib.hid (jNY l k hlt)
   have hbs:=jJ5 (jEC (l.take k))
   clear jAj
   generalize l.getD k nil=x at x0 x1 x2 hsz HF
   by_cases hk1:x.k=1
   ·rw[if_pos hk1]at HF
    have hkb:(x.k == 1)=true:=by simpa using hk1
    clear hk1
    go_wp2
    go_round
    case rel=>exact⟨k+1,by omega,by go_num,congrArg Value.string (by rw[HF.out,jRO])⟩
    case measure=>simp[intOf];omega
   ·rw[if_neg hk1,List.append_nil]at HF
    have hkb:(x.k == 1)=false:=by simpa using hk1
    clear hk1
    go_wp2
    go_round
    case rel=>exact⟨k+1,by omega,by go_num,congrArg Value.string (by rw[HF.out])⟩
    case measure=>simp[intOf];omega
  ·have hE:l.take k=l:=List.take_of_length_le (by omega)
   rw[hE]
   go_wp2
   go_ret
   exact⟨rfl,rfl⟩
end Go.Proofs.YtldapapdolkiaaaGreatDoor
namespace Go.Proofs.YtldapapdolkiaaaGreatDoor
set_option maxHeartbeats 64000000
open Go Go.RowKit
set_option maxRecDepth 100000
def cnt (l:List Pc)(k:Nat):Nat:=l.length+((l.take k).map fun x=>x.s.size).sum
theorem jLa (l:List Pc):cnt l 0=l.length:=by simp[cnt]
theorem jPT (l:List Pc)(k:Nat)(hk:k<l.length):cnt l (k+1)=cnt l k+(l.getD k nil).s.size:=by
 unfold cnt
 rw[jAS l k hk]
 simp only[List.map_append,List.sum_append,List.map_cons,List.map_nil,List.sum_cons,List.sum_nil,Nat.add_zero]
 omega
theorem jSl (l:List Pc):cnt l l.length=bulk l:=by unfold cnt bulk;rw[List.take_length]
def jXY (l:List Pc)(e:Ending):Prop:=∃b,e=.returned (.bool b)∧(b=false→bulk l≤2500)
def jT8 (l:List Pc)(n i:Value):Prop:=(n=.int .i64 0∧i=.int .i64 0)∨(i=.int .i64 1∧∃m:Nat,n=.int .i64 m∧(m=bulk l∨5000≤m)∧m≤500000000000000)
theorem jPe (l:List Pc)(v:Value)(g:Nat)(w:World)(hG:w.cell? ⟨g,0,none⟩=some v)(hv:jBe w v l)(hsz:∀x ∈ l,x.s.size≤140737488355328)(hll:l.length≤140737488355328) :
 Calls Tryz.prog 18 #[.slice (some ⟨g,0,none⟩) 1 1] w fun e w'=>jXY l e∧w'=w:=by
 obtain⟨p,cap,rfl,hl,hc,jA4⟩:=hv
 unfold maxLen at hc
 have ag:=Tryz.isAgg76
 have zg:=Tryz.sizeOf76
 have HR:=Lib.hid jA4
 have HSZ:=Lib.hid hsz
 clear jA4 hsz
 go_enter Tryz.func18,Tryz.ntmps18
 go_wp2
 go_loop [3,4] (fun n i=>jT8 l n i) (fun _ i=>1-(intOf i).toNat)
 case atStart=>exact .inl ⟨rfl,rfl⟩
 case round =>
  rcases hrel with ⟨rfl,rfl⟩ | ⟨rfl,m,rfl,hm,hmb⟩
  ·go_wp2
   go_loop [3,5] (fun n k=>∃j:Nat,j≤l.length∧k=.int .i64 j∧n=.int .i64 (cnt l j)∧Hid (cnt l j≤500000000000000)) (fun _ k=>l.length-(intOf k).toNat)
   case atStart=>exact⟨0,Nat.zero_le _,rfl,by rw[jLa],by show _≤_;rw[jLa];omega⟩
   case round =>
    obtain⟨j,hj,rfl,rfl,HN⟩:=hrel
    by_cases hlt:j<l.length
    ·by_cases h5:cnt l j<5000
     ·obtain⟨A,rfl,hA,jAj⟩:=HR.out (by omega)
      obtain⟨x0,x1,x2⟩:=jAU hA jAj hlt (Below.refl _ w)
      have hcs:=jPT l j hlt
      have hsb:=HSZ.out _ (jLx hlt)
      clear jAj x0 x2
      generalize l.getD j nil=x at x1 hcs hsb
      have h5i:(cnt l j:Int)<5000:=by omega
      have HCS:=Lib.hid hcs
      clear hcs
      generalize cnt l j=q at h5 h5i HCS
      go_wp2
      go_round
      case rel=>exact⟨j+1,by omega,by go_num,by rw[HCS.out];go_num,by show _≤_;rw[HCS.out];omega⟩
      case measure=>simp[intOf];omega
     ·have h5i:¬(cnt l j:Int)<5000:=by omega
      have HM:=Lib.hid (show jT8 l (.int .i64 (cnt l j)) (.int .i64 1) from .inr ⟨rfl,cnt l j,rfl,.inr (by omega),HN.out⟩)
      obtain⟨A,rfl,hA,jAj⟩:=HR.out (by omega)
      clear jAj
      generalize cnt l j=q at h5 h5i HM
      go_wp2
      go_round
      case rel=>exact HM.out
      case measure=>simp[intOf]
    ·have hjl:j=l.length:=by omega
     have HM:=Lib.hid (show jT8 l (.int .i64 (cnt l j)) (.int .i64 1) from .inr ⟨rfl,cnt l j,rfl,.inl (by rw[hjl,jSl]),HN.out⟩)
     generalize cnt l j=q at HM
     go_wp2
     go_round
     case rel=>exact HM.out
     case measure=>simp[intOf]
  ·have HM:=Lib.hid hm
   clear hm
   go_wp2
   go_ret
   exact⟨⟨_,rfl,fun h=>by simp at h;rcases HM.out with h' | h' <;> omega⟩,rfl⟩
end Go.Proofs.YtldapapdolkiaaaGreatDoor
