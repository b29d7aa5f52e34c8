/- Glue by the specification: what a part closes and opens between parts. Glue, by the specification. the guard on sizes, over several lists. each unit and each tag by itself, by the specification. the units of a list, by the specification. -/
import Derived.Test.YtldapapdolkiaaaGreatDoorGlB
import Derived.Test.YtldapapdolkiaaaGreatDoorDqA
namespace Go.Proofs.YtldapapdolkiaaaGreatDoor
set_option maxHeartbeats 64000000
open Go Go.RowKit Go.Lib
set_option maxRecDepth 100000
theorem jRr {u v:Value}(h:∀g,u.ownBlock=some g→v.ownBlock=some g→False):u.ownBlock=none∨u.ownBlock≠v.ownBlock:=by
 cases hu:u.ownBlock with
 | none=>exact .inl rfl
 | some g=>exact .inr (fun e=>h g hu e.symm)
theorem jMr {l:List Pc}:∀ {n:Nat} {z:Int},jC4 l n=.error z→z≠0:=by
 intro n
 induction n with
 | zero=>intro z h;simp[jC4]at h
 | succ n ih =>
   intro z h hz
   subst hz
   simp only[jC4]at h
   cases e:jC4 l n with
   | error x =>
     rw[e]at h
     exact ih (z:=0) (by rw[e];exact h) rfl
   | ok o =>
     rw[e]at h
     have hop':(if jCB l n≠0 then Except.error (jCB l n) else jJF o (l.getD n nil))=Except.error 0:=h
     split at hop'
     ·rename_i hh;injection hop' with h0;exact hh h0
     ·unfold jJF at hop'
      split at hop'
      ·split at hop' <;> cases hop'
      ·split at hop'
       ·split at hop' <;> cases hop'
       ·cases hop'
theorem jZg {B:Nat}{v:Value}{l:List ByteArray}{w:World}(h:jB9 B v l w){g:Nat}(hg:v.ownBlock=some g):g<w.heap.size:=by
 rcases h.2 with ⟨rfl,_⟩ | ⟨g',cap,cur,rfl,_,hh,_⟩
 ·simp[Value.ownBlock]at hg
 ·simp only[Value.ownBlock,Option.some.injEq]at hg
  subst hg
  exact lt_of_block hh
theorem jMu {l:List Pc}(h:jAu l=0):∃op,jC4 l l.length=.ok op:=by
 unfold jAu at h
 split at h
 ·cases h
 ·cases e:jC4 l l.length with
  | ok op=>exact⟨op,rfl⟩
  | error z =>
    rw[e]at h
    have hz:z=0:=h
    exact absurd hz (jMr e)
theorem jOW {l:List Pc}(h:jAu l=0):∀d k,k+d<l.length→coB (l.getD (k+d) nil)=true→coB (l.getD k nil)=true
 | 0,_,_,hc=>hc
 | d+1,k,hk,hc=>by
   obtain⟨op,hr⟩:=jMu h
   have hm:=jPG hr (k+d+1) hk (by omega)
   rw[show k+d+1-1=k+d by omega]at hm
   have:coB (l.getD (k+d) nil)=true:=by
    unfold jJJ at hm
    have hc':coB (l.getD (k+d+1) nil)=true:=hc
    rw[hc']at hm
    cases e:coB (l.getD (k+d) nil)
    ·rw[e]at hm;simp at hm
    ·rfl
   exact jOW h d k (by omega) this
theorem jNQ {l:List Pc}(h:jAu l=0){k:Nat}(hk:k<l.length)(hc:coB (l.getD k nil)=true):jA0 (l.take k)=[]:=by
 unfold jA0
 rw[List.filter_eq_nil_iff.2 (fun x hx=>?_)]
 ·rfl
 ·obtain⟨j,hj,rfl⟩:=List.getElem_of_mem hx
  rw[List.length_take]at hj
  have h1:=jOW h (k-j) j (by omega) (by rw[show j+(k-j)=k by omega];exact hc)
  rw[List.getD_eq_getElem?_getD,List.getElem?_eq_getElem (by omega)]at h1
  rw[List.getElem_take]
  have h2:coB l[j]=true:=h1
  unfold coB at h2
  unfold ccB
  simp only[Bool.and_eq_true,decide_eq_true_eq]at h2 ⊢
  omega
theorem jIZ (l:List Pc)(v:Value)(w:World)(hv:jBe w v l)(hz:jAu l=0)(hl5:l.length≤3000) :
 Calls Tryz.prog 96 #[v] w fun e w'=>(∃ (a b:Option Addr × Nat),e=.returned (.tuple #[.slice a.1 (jA0 l).length a.2,.slice b.1 (jBf l).length b.2])∧jJP w' (.slice a.1 (jA0 l).length a.2) (jA0 l).length (fun j=>(jA0 l).getD j ByteArray.empty)∧jJP w' (.slice b.1 (jBf l).length b.2) (jBf l).length (fun j=>(jBf l).getD j ByteArray.empty))∧Below w.heap.size w w':=by
 obtain⟨i0,hi,hz0,hz1,hz2⟩:=info_parts jFi
 have ag:=Tryz.isAgg76
 have zg:=Tryz.sizeOf76
 obtain⟨p,cap,rfl,hlc,hcm,jA4⟩:=hv
 unfold maxLen at hcm
 have HR:=hid jA4
 have HZ:=hid (fun k (hk:k<l.length) (hc:coB (l.getD k nil)=true)=>jNQ hz hk hc)
 clear jA4 hz
 go_enter Tryz.func96,Tryz.ntmps96
 go_wp2
 go_loopw [4,5,6] (fun c o i wr=>∃k B1:Nat,k≤l.length∧i=.int .i64 k∧w.heap.size≤B1∧B1≤wr.heap.size∧Hid (jB9 B1 c (jA0 (l.take k)) wr)∧Hid (jB9 w.heap.size o (jBf (l.take k)) wr)∧Hid (∀g,o.ownBlock=some g→g<B1)∧Hid (jA0 (l.take k)=[]→c=.slice none 0 0)∧Hid (Below w.heap.size w wr)) (fun _ _ i _=>l.length-(RowKit.intOf i).toNat)
 case atStart=>exact⟨0,w.heap.size,Nat.zero_le _,rfl,Nat.le_refl _,Nat.le_refl _,World.ownsRow_nil _ _ _ _,World.ownsRow_nil _ _ _ _,fun g h=>by simp[Value.ownBlock]at h,fun _=>rfl,Below.refl _ _⟩
 case round =>
  obtain⟨k,B1,hk,rfl,hwB,hB1,HC,HO,HOB,HCN,HB⟩:=hrel
  by_cases hlt:k<l.length
  ·obtain⟨A,rfl,hA,jAj⟩:=HR.out (by omega)
   obtain⟨x0,x1,x2⟩:=jAU hA jAj hlt HB.out
   have hT:=jHH hlt
   have hU:=jJq hlt
   have hV:=HZ.out k hlt
   have hpl:=jFF (l.take k)
   have hpo:=jFl (l.take k)
   have htk:(l.take k).length≤l.length:=by rw[List.length_take];omega
   have jEg:=HB.out.size
   have HX:=hid (fun (w2:World) (h2:Below w.heap.size w w2)=>jAU hA jAj hlt h2)
   clear jAj
   generalize l.getD k nil=x at x0 x1 x2 hT hU hV HX
   generalize jA0 (l.take k)=pc at HC HCN hT hV hpl
   generalize jBf (l.take k)=po at HO hU hpo
   obtain⟨xk,xs,xc⟩:=x
   dsimp only at x0 x1 x2
   have jRD:pc.length≤3000:=by omega
   have qAG:po.length≤3000:=by omega
   have hki:(k:Int)<(l.length:Int):=by omega
   have hk0:(0:Int)≤(k:Int):=by omega
   obtain⟨ao,ca,hfc⟩:=HC.out.form
   subst hfc
   obtain⟨bo,cb,hfo⟩:=HO.out.form
   subst hfo
   cases xc
   ·have HT2:=hid (show jA0 (l.take (k+1))=pc by rw[hT];simp[ccB])
    have HU2:=hid (show jBf (l.take (k+1))=po by rw[hU];simp[coB])
    clear hT hU hV
    go_wp2
    go_roundw
    case rel=>exact⟨k+1,B1,hlt,by go_num,hwB,hB1,by show jB9 _ _ _ _;rw[HT2.out];exact HC.out,by show jB9 _ _ _ _;rw[HU2.out];exact HO.out,HOB.out,by show _→_;rw[HT2.out];exact HCN.out,HB.out⟩
    case measure=>simp[RowKit.intOf] <;> omega
   ·by_cases h3:xk=3
    ·subst h3
     have HT2:=hid (show jA0 (l.take (k+1))=pc++[xs] by rw[hT];simp[ccB])
     have HU2:=hid (show jBf (l.take (k+1))=po by rw[hU];simp[coB])
     clear hT hU hV
     go_wp2_with (first
      | (at_builtin;have jAN:=HC.out;unfold jB9 at jAN;refine wpList_append_own _ rfl _ _ 49 rfl B1 9 i0 (.string ⟨#[]⟩) 1 16 Tryz.underlying49 hi hz0 hz1 hz2 rfl (by decide) _ _ _ rfl (jAN.alloc (.cells #[.string xs] 9)) _ 1 1 [.string xs] rfl rfl (jBH _ _ _) (fun x hx=>by simp at hx;subst hx;rfl) (by unfold maxLen;omega) (by omega) (by simp;omega) ?_;intro v6 w6 jA5 jAv jC8
         have HB6:=hid ((HB.out.alloc jEg (.cells #[.string xs] 9)).grown jAv (by simp;omega) (fun k hk=>Nat.le_trans hwB (jAN.lt k hk).1))
         have HC6:=hid (show jB9 B1 v6 (pc++[xs]) w6 by unfold jB9;rw[List.length_append,List.map_append];exact jA5)
         have HO6:=hid (show jB9 w.heap.size _ po w6 from World.ownsRow.kept (HO.out.alloc (.cells #[.string xs] 9)) jAv (by
          refine jRr fun g hg hg2=>?_
          have h1:=HOB.out g hg
          have h2:=(jAN.lt g hg2).1
          omega))
         have qAH:B1≤w6.heap.size:=Nat.le_trans (by simp;omega) jAv.size
         obtain⟨y0,y1,y2⟩:=HX.out w6 HB6.out
         dsimp only at y0 y1 y2
         clear jAN jA5 jAv jC8))
     go_roundw
     case rel=>exact⟨k+1,B1,hlt,by go_num,hwB,qAH,by show jB9 _ _ _ _;rw[HT2.out];exact HC6.out,by show jB9 _ _ _ _;rw[HU2.out];exact HO6.out,HOB.out,by show _→_;rw[HT2.out];intro h;simp at h,HB6.out⟩
     case measure=>simp[RowKit.intOf] <;> omega
    ·have h3b:(xk == 3)=false:=by simpa using h3
     by_cases h2:xk=2
     ·subst h2
      have hpc:pc=[]:=hV (by simp[coB])
      have HT2:=hid (show jA0 (l.take (k+1))=[] by rw[hT,hpc];simp[ccB])
      have HU2:=hid (show jBf (l.take (k+1))=po++[xs] by rw[hU];simp[coB])
      clear hT hU hV
      subst hpc
      have HN:=HCN.out rfl
      simp only[Value.slice.injEq,List.length_nil,true_and]at HN
      obtain⟨rfl,rfl⟩:=HN
      go_wp2_with (first
       | (at_builtin;have jAN:=HO.out;unfold jB9 at jAN;refine wpList_append_own _ rfl _ _ 49 rfl w.heap.size 9 i0 (.string ⟨#[]⟩) 1 16 Tryz.underlying49 hi hz0 hz1 hz2 rfl (by decide) _ _ _ rfl (jAN.alloc (.cells #[.string xs] 9)) _ 1 1 [.string xs] rfl rfl (jBH _ _ _) (fun x hx=>by simp at hx;subst hx;rfl) (by unfold maxLen;omega) (by omega) (by simp;omega) ?_;intro v6 w6 jA5 jAv jC8
          have HB6:=hid ((HB.out.alloc jEg (.cells #[.string xs] 9)).grown jAv (by simp;omega) (fun k hk=>(jAN.lt k hk).1))
          have HO6:=hid (show jB9 w.heap.size v6 (po++[xs]) w6 by unfold jB9;rw[List.length_append,List.map_append];exact jA5)
          have qAH:w.heap.size≤w6.heap.size:=HB6.out.size
          obtain⟨y0,y1,y2⟩:=HX.out w6 HB6.out
          dsimp only at y0 y1 y2
          clear jAN jA5 jAv jC8))
      go_roundw
      case rel=>exact⟨k+1,w6.heap.size,hlt,by go_num,qAH,Nat.le_refl _,by show jB9 _ _ _ _;rw[HT2.out];exact World.ownsRow_nil _ _ _ _,by show jB9 _ _ _ _;rw[HU2.out];exact HO6.out,fun g hg=>jZg HO6.out hg,by show _→_;intro _;rfl,HB6.out⟩
      case measure=>simp[RowKit.intOf] <;> omega
     ·have h2b:(xk == 2)=false:=by simpa using h2
      have HT2:=hid (show jA0 (l.take (k+1))=pc by rw[hT];simp[ccB,h3])
      have HU2:=hid (show jBf (l.take (k+1))=po by rw[hU];simp[coB,h2])
      clear hT hU hV
      go_wp2
      go_roundw
      case rel=>exact⟨k+1,B1,hlt,by go_num,hwB,hB1,by show jB9 _ _ _ _;rw[HT2.out];exact HC.out,by show jB9 _ _ _ _;rw[HU2.out];exact HO.out,HOB.out,by show _→_;rw[HT2.out];exact HCN.out,HB.out⟩
      case measure=>simp[RowKit.intOf] <;> omega
  ·obtain rfl:k=l.length:=by omega
   rw[List.take_length]at HC HO
   have hki:¬(l.length:Int)<(l.length:Int):=by omega
   obtain⟨ao,ca,hfc⟩:=HC.out.form
   subst hfc
   obtain⟨bo,cb,hfo⟩:=HO.out.form
   subst hfo
   go_wp2
   go_ret2
   exact⟨⟨ao,ca,bo,cb,rfl,jJP.own HC.out,jJP.own HO.out⟩,HB.out⟩
end Go.Proofs.YtldapapdolkiaaaGreatDoor
namespace Go.Proofs.YtldapapdolkiaaaGreatDoor
set_option maxHeartbeats 64000000
open Go Go.RowKit Go.Lib
set_option maxRecDepth 100000
theorem jZN {C O:List ByteArray}(hl:C.length=O.length)(h:∀t,t<O.length→C.getD t ByteArray.empty=O.getD (O.length-1-t) ByteArray.empty):C=O.reverse:=by
 refine List.ext_getElem (by simpa using hl) fun i h1 h2=>?_
 rw[List.getElem_reverse]
 have h3:=h i (by omega)
 rw[List.getD_eq_getElem?_getD,List.getD_eq_getElem?_getD,List.getElem?_eq_getElem h1,List.getElem?_eq_getElem (by omega)]at h3
 exact h3
theorem jYa {C O:List ByteArray}{t:Nat}(ht:t<O.length)(h:C.getD t ByteArray.empty≠O.getD (O.length-1-t) ByteArray.empty):C≠O.reverse:=by
 intro e
 subst e
 apply h
 rw[List.getD_eq_getElem?_getD,List.getD_eq_getElem?_getD,List.getElem?_reverse ht]
theorem jH5 (l:List Pc):l.length≤bulk l:=by unfold bulk;omega
theorem jPw {l:List Pc}{y:Pc}(h:y ∈ l):y.s.size≤bulk l:=by
 obtain⟨i,hi,rfl⟩:=List.getElem_of_mem h
 have h1:=jLe hi
 omega
theorem jXf {C O:List ByteArray}(h:C.length≠O.length):C≠O.reverse:=by
 intro e
 subst e
 simp at h
theorem jNH (ps:List (List Pc))(v:Value)(w:World)(hp:jDA w v ps)(hn:ps.length≤3000)(hb:jCT ps≤8000000)(hb1:∀i,i<ps.length→bulk (ps.getD i [])≤100000) :
 Calls Tryz.prog 47 #[v] w fun e w'=>(∃u,e=.returned (.tuple #[u,.int .u8 (jCA ps)])∧jA7 0 u (jCb ps) w')∧Below w.heap.size w w':=by
 have ag:=Tryz.isAgg76
 have zg:=Tryz.sizeOf76
 have HP:=hid hp
 obtain⟨p,cap,rfl,hlc,hcm⟩:=hp.form
 unfold maxLen at hcm
 clear hp
 have HGE:Hid (jCA ps=if ps.length=0 then 1 else if jBA ps ps.length≠0 then jBA ps ps.length else if jEI ps (ps.length-1)=false then 10 else if 512<(gTo ps ps.length).length then 3 else 0):=rfl
 have HGL:Hid (jCb ps=if jCA ps=0 then gTo ps ps.length else []):=rfl
 have HBK:=hid (fun i (hi:i<ps.length)=>hb1 i hi)
 by_cases h0:ps.length=0
 ·have hE:jCA ps=1:=by rw[HGE.out,if_pos h0]
  have hL:jCb ps=[]:=by rw[HGL.out,if_neg (by rw[hE];decide)]
  rw[hE,hL]
  have hi0:((ps.length:Int) == 0)=true:=beq_iff_eq.2 (by omega)
  clear hE hL
  go_enter Tryz.func47,Tryz.ntmps47
  go_wp2
  go_ret2
  exact⟨⟨_,rfl,jA7.nil _ _⟩,Below.refl _ _⟩
 have hi0:((ps.length:Int) == 0)=false:=beq_eq_false_iff_ne.2 (by omega)
 rw[if_neg h0]at HGE
 go_enter Tryz.func47,Tryz.ntmps47
 go_wp2
 go_loopw [4] (fun i wr=>∃k:Nat,k≤ps.length∧i=.int .i64 k∧Hid (jBA ps k=0)∧Hid (Below w.heap.size w wr)) (fun i _=>ps.length-(RowKit.intOf i).toNat)
 case atStart=>exact⟨0,Nat.zero_le _,rfl,rfl,Below.refl _ _⟩
 case round =>
  obtain⟨k,hk,rfl,HC,HB⟩:=hrel
  by_cases hlt:k<ps.length
  ·obtain⟨A,q,c,rfl,x0,hpc⟩:=HP.out.part HB.out hlt
   have hbk:=HBK.out k hlt
   have cC:=jDJ (ps.getD k []) _ wr hpc (by omega)
   have HS:Hid (jBA ps (k+1)=jAu (ps.getD k [])):=by
    show _=_
    simp only[jBA]
    rw[if_neg (by rw[HC.out];simp)]
   have hki:(k:Int)<(ps.length:Int):=by omega
   have hk0:(0:Int)≤(k:Int):=by omega
   clear hpc
   by_cases hz:jAu (ps.getD k [])=0
   ·rw[hz]at cC HS
    clear hz
    generalize ps.getD k []=part at x0 cC
    go_wp2_with (go_at_call 25;(with_reducible refine cC.mono ?_);rintro e w5 ⟨rfl,hb5⟩)
    go_roundw
    case rel=>exact⟨k+1,hlt,by go_num,HS.out,jAa HB.out hb5⟩
    case measure=>simp[RowKit.intOf] <;> omega
   ·have hE:jCA ps=jAu (ps.getD k []):=by
     have h1:=jEB (ps:=ps) (k:=k+1) (by rw[HS.out];exact hz) (ps.length-(k+1))
     rw[show k+1+(ps.length-(k+1))=ps.length by omega,HS.out]at h1
     rw[HGE.out,if_pos (by rw[h1];exact hz),h1]
    have hL:jCb ps=[]:=by rw[HGL.out,if_neg (by rw[hE];exact hz)]
    have HE2:=hid (And.intro hE hL)
    have hz2:(jAu (ps.getD k []) != 0)=true:=by simpa using hz
    clear hE hL hz HS
    generalize jAu (ps.getD k [])=Z at cC hz2 HE2
    generalize ps.getD k []=part at x0 cC
    go_wp2_with (go_at_call 25;(with_reducible refine cC.mono ?_);rintro e w5 ⟨rfl,hb5⟩)
    go_ret2
    exact⟨⟨.slice none 0 0,by rw[HE2.out.1];rfl,by rw[HE2.out.2];exact jA7.nil _ _⟩,jAa HB.out hb5⟩
  ·obtain rfl:k=ps.length:=by omega
   have hki:¬(ps.length:Int)<(ps.length:Int):=by omega
   have hc0:=HC.out
   have HCZ:=hid (jE9 hc0)
   rw[if_neg (by rw[hc0];simp)]at HGE
   have HB1:=hid HB.out
   clear hc0 hk hlt HC HB
   go_wp2
   go_loopw [6] (fun i wr=>∃k:Nat,k≤ps.length-1∧i=.int .i64 ((k:Int)+1)∧Hid (jEI ps k=true)∧Hid (Below w.heap.size w wr)) (fun i _=>ps.length-(RowKit.intOf i).toNat)
   case atStart=>exact⟨0,Nat.zero_le _,rfl,rfl,HB1.out⟩
   case round =>
    clear HB1
    obtain⟨k,hk,rfl,HF,HB⟩:=hrel
    by_cases hlt:k<ps.length-1
    ·obtain⟨A,q,c,rfl,x0,hpa⟩:=HP.out.part HB.out (i:=k) (by omega)
     obtain⟨A2,q2,c2,e2,y0,hpb⟩:=HP.out.part HB.out (i:=k+1) (by omega)
     obtain rfl:A=A2:=by simpa using e2
     have hba:=HBK.out k (by omega)
     have hbb:=HBK.out (k+1) (by omega)
     have hla:=jGu (HCZ.out k (by omega))
     have hlb:=jGu (HCZ.out (k+1) (by omega))
     have hza:=HCZ.out k (by omega)
     have hzb:=HCZ.out (k+1) (by omega)
     have cE1:=fun W (h1:Below wr.heap.size wr W)=>jIZ (ps.getD k []) _ W (hpa.step h1) hza (by omega)
     have cE2:=fun W (h1:Below wr.heap.size wr W)=>jIZ (ps.getD (k+1) []) _ W (hpb.step h1) hzb (by omega)
     have hk0:(0:Int)≤(k:Int):=by omega
     have hki2:(k:Int)<(ps.length:Int):=by omega
     have hk10:(0:Int)≤(k:Int)+1:=by omega
     have hk1i:(k:Int)+1<(ps.length:Int):=by omega
     have hS:jEI ps (k+1)=jUH (ps.getD k []) (ps.getD (k+1) []):=by simp only[jEI];rw[HF.out];rfl
     have HS:Hid (jEI ps (k+1)=decide (jA0 (ps.getD k [])=(jBf (ps.getD (k+1) [])).reverse)):=hS
     have hcn:(jA0 (ps.getD k [])).length≤6000:=by have:=jFF (ps.getD k []);omega
     have hon:(jBf (ps.getD (k+1) [])).length≤6000:=by have:=jFl (ps.getD (k+1) []);omega
     clear hS hpa hpb hba hbb hla hlb hza hzb
     generalize jA0 (ps.getD k [])=C at cE1 HS hcn
     generalize jBf (ps.getD k [])=O1 at cE1
     generalize jA0 (ps.getD (k+1) [])=C1 at cE2
     generalize jBf (ps.getD (k+1) [])=O at cE2 HS hon
     generalize ps.getD k []=pa at x0 cE1
     generalize ps.getD (k+1) []=pb at y0 cE2
     rw[show A.add (k+1)=({ block:=A.block,off:=A.off+(k+1) }:Addr) by unfold Addr.add;simp]at y0
     have HE10:Hid (jEI ps (k+1)=false→jCA ps=10∧jCb ps=[]):=fun h=>by
      have hE:jCA ps=10:=by
       have h1:=jFH (ps:=ps) (k:=k+1) h (ps.length-1-(k+1))
       rw[show k+1+(ps.length-1-(k+1))=ps.length-1 by omega]at h1
       rw[HGE.out,if_pos h1]
      exact⟨hE,by rw[HGL.out,if_neg (by rw[hE];decide)]⟩
     by_cases hcl:C.length=O.length
     ·have hclb:((C.length:Int) != (O.length:Int))=false:=by rw[hcl];simp
      rw[hcl]at cE1
      go_wp2_with (first
       | (go_at_call 96;(with_reducible refine (cE1 _ (Below.refl _ _)).mono ?_);rintro e w5 ⟨⟨⟨a5,d5⟩,⟨b5,f5⟩,rfl,hc5,ho5⟩,hb5⟩;dsimp only;dsimp only at hc5;have y1:=(hb5.cell (World.block_lt_of_cell? wr _ y0)).trans y0;clear ho5)
       | (go_at_call 96;(with_reducible refine (cE2 _ hb5).mono ?_);rintro e w6 ⟨⟨⟨a6,d6⟩,⟨b6,f6⟩,rfl,hc6,ho6⟩,hb6⟩;dsimp only;dsimp only at ho6;have HC6:=hid (hc5.step hb6);have HO6:=hid ho6;have HB6:=hid (jAa (jAa HB.out hb5) hb6);clear hc6 y1))
      have hn1:IntKind.i64.wrap ((O.length:Int)-1)=(O.length:Int)-1:=by rw[IntKind.wrap_i64] <;> omega
      obtain⟨wo,hwo⟩:∃x,x=w6:=⟨_,rfl⟩
      subst hwo
      go_loopw [12] (fun i wr=>∃j:Nat,j≤O.length∧i=.int .i64 j∧Hid (∀t,t<j→C.getD t ByteArray.empty=O.getD (O.length-1-t) ByteArray.empty)∧Hid (Below wo.heap.size wo wr)) (fun i _=>O.length-(RowKit.intOf i).toNat)
      case atStart=>exact⟨0,Nat.zero_le _,rfl,fun t ht=>absurd ht (Nat.not_lt_zero _),Below.refl _ _⟩
      case round =>
       obtain⟨j,hj,rfl,HS2,HB2⟩:=hrel
       by_cases qAI:j<O.length
       ·obtain⟨A5,rfl,u0⟩:=HC6.out.cell HB2.out qAI
        obtain⟨A6,rfl,v0⟩:=HO6.out.cell HB2.out (i:=O.length-1-j) (by omega)
        have hji:(j:Int)<(O.length:Int):=by omega
        have hj0:(0:Int)≤(j:Int):=by omega
        have hq:((O.length:Int)-1-(j:Int))=((O.length-1-j:Nat):Int):=by omega
        have hn2:IntKind.i64.wrap ((O.length:Int)-1-(j:Int))=((O.length-1-j:Nat):Int):=by rw[IntKind.wrap_i64] <;> omega
        have hj1:(0:Int)≤((O.length-1-j:Nat):Int):=by omega
        have hj2:((O.length-1-j:Nat):Int)<(O.length:Int):=by omega
        by_cases hs:C.getD j ByteArray.empty=O.getD (O.length-1-j) ByteArray.empty
        ·have jUc:((C.getD j ByteArray.empty).toList == (O.getD (O.length-1-j) ByteArray.empty).toList)=true:=by rw[hs];simp
         have HS3:Hid (∀t,t<j+1→C.getD t ByteArray.empty=O.getD (O.length-1-t) ByteArray.empty):=fun t ht=>by
          rcases Nat.lt_succ_iff_lt_or_eq.1 ht with h1 | rfl
          ·exact HS2.out t h1
          ·exact hs
         clear hs
         generalize C.getD j ByteArray.empty=s at u0 jUc
         generalize O.getD (O.length-1-j) ByteArray.empty=t at v0 jUc
         go_wp2
         go_quiet (fail)
         go_wp2
         go_roundw
         case rel=>exact⟨j+1,qAI,by go_num,HS3.out,jAa HB2.out (bdN _ _)⟩
         case measure=>simp[RowKit.intOf] <;> omega
        ·have jUc:((C.getD j ByteArray.empty).toList == (O.getD (O.length-1-j) ByteArray.empty).toList)=false:=by
          simp
          intro e
          exact hs (jGf e)
         have HE2:=hid (HE10.out (by rw[HS.out];exact decide_eq_false (jYa qAI hs)))
         clear hs
         generalize C.getD j ByteArray.empty=s at u0 jUc
         generalize O.getD (O.length-1-j) ByteArray.empty=t at v0 jUc
         go_wp2
         go_quiet (fail)
         go_wp2
         go_ret2
         exact⟨⟨.slice none 0 0,by rw[HE2.out.1];rfl,by rw[HE2.out.2];exact jA7.nil _ _⟩,jAa HB6.out (jAa HB2.out (bdN _ _))⟩
       ·obtain rfl:j=O.length:=by omega
        have hji:¬(O.length:Int)<(O.length:Int):=by omega
        have HT:=hid (show jEI ps (k+1)=true by rw[HS.out];exact decide_eq_true (jZN hcl HS2.out))
        go_wp2
        go_roundw
        case rel=>exact⟨k+1,hlt,by go_num,HT.out,jAa HB6.out HB2.out⟩
        case measure=>simp[RowKit.intOf] <;> omega
     ·have hclb:((C.length:Int) != (O.length:Int))=true:=by simp;omega
      have HE2:=hid (HE10.out (by rw[HS.out];exact decide_eq_false (jXf hcl)))
      go_wp2_with (first
       | (go_at_call 96;(with_reducible refine (cE1 _ (Below.refl _ _)).mono ?_);rintro e w5 ⟨⟨⟨a5,d5⟩,⟨b5,f5⟩,rfl,hc5,ho5⟩,hb5⟩;dsimp only;have y1:=(hb5.cell (World.block_lt_of_cell? wr _ y0)).trans y0;clear ho5 hc5)
       | (go_at_call 96;(with_reducible refine (cE2 _ hb5).mono ?_);rintro e w6 ⟨⟨⟨a6,d6⟩,⟨b6,f6⟩,rfl,hc6,ho6⟩,hb6⟩;dsimp only;have HB6:=hid (jAa (jAa HB.out hb5) hb6);clear hc6 ho6 y1))
      go_ret2
      exact⟨⟨.slice none 0 0,by rw[HE2.out.1];rfl,by rw[HE2.out.2];exact jA7.nil _ _⟩,HB6.out⟩
    ·obtain rfl:k=ps.length-1:=by omega
     have hf0:=HF.out
     rw[if_neg (by rw[hf0];simp)]at HGE
     have hki:¬((ps.length-1:Nat):Int)+1<(ps.length:Int):=by omega
     have HB2:=hid HB.out
     clear hf0 HF HB hk hlt
     have jHO:∀k,k≤ps.length→bulk (gTo ps k)≤8000000:=fun k hk=>Nat.le_trans (jH9 ps k hk) (Nat.le_trans (jCP ps (ps.length-k) k (by omega)) hb)
     have HSM:=hid jHO
     clear jHO
     go_wp2
     go_loopw [13,14] (fun o i wr=>∃k:Nat,k≤ps.length∧i=.int .i64 k∧Hid (jA7 w.heap.size o (gTo ps k) wr)∧Hid (Below w.heap.size w wr)) (fun _ i _=>ps.length-(RowKit.intOf i).toNat)
     case atStart=>exact⟨0,Nat.zero_le _,rfl,jA7.nil _ _,HB2.out⟩
     case round =>
      clear HB2
      obtain⟨k,hk,rfl,HK,HB⟩:=hrel
      by_cases hlt:k<ps.length
      ·obtain⟨A,q,c,rfl,x0,hpk⟩:=HP.out.part (Below.refl _ _) (i:=k) hlt
       have HX0:=hid x0
       obtain⟨q',c',e2,hql,hqc,jA4⟩:=hpk
       obtain⟨rfl,rfl⟩:q=q'∧c=c':=by simpa using e2
       unfold maxLen at hqc
       have HR:=hid jA4
       have hki:(k:Int)<(ps.length:Int):=by omega
       have hk0:(0:Int)≤(k:Int):=by omega
       have HNX:Hid (gTo ps (k+1)=jEn ps.length k (gTo ps k) (ps.getD k []) (ps.getD k []).length):=rfl
       have HBP:Hid (∀m,m≤(ps.getD k []).length→bulk (jEn ps.length k (gTo ps k) (ps.getD k []) m)≤8100000):=fun m hm=>by
        have h1:=jD8 ps.length k (gTo ps k) (ps.getD k []) m hm
        have h2:=HSM.out k hk
        have h3:=HBK.out k hlt
        have h4:=jCR (ps.getD k []) m
        omega
       have HJS:=hid (fun m (hm:m<(ps.getD k []).length)=>jGB (n:=ps.length) (i:=k) (o:=gTo ps k) hm)
       have hbk:=HBK.out k hlt
       clear x0 e2 jA4
       generalize ps.getD k []=part at *
       generalize gTo ps k=o0 at *
       go_wp2
       go_loopw [13,15] (fun o i wr=>∃m:Nat,m≤part.length∧i=.int .i64 m∧Hid (jA7 w.heap.size o (jEn ps.length k o0 part m) wr)∧Hid (Below w.heap.size w wr)) (fun _ i _=>part.length-(RowKit.intOf i).toNat)
       case atStart=>exact⟨0,Nat.zero_le _,rfl,HK.out,HB.out⟩
       case round =>
        clear HK HB
        obtain⟨m,hm,rfl,HK,HB⟩:=hrel
        have x0:=(HB.out.cell (World.block_lt_of_cell? w _ HX0.out)).trans HX0.out
        by_cases jGx:m<part.length
        ·obtain⟨AP,rfl,hAP,jAj⟩:=HR.out (by omega)
         obtain⟨z0,z1,z2⟩:=jAU hAP jAj jGx HB.out
         have hsx:=jBJ jGx
         have hbo:=HBP.out m hm
         have HT2:=hid (HJS.out m jGx)
         have hmi:(m:Int)<(part.length:Int):=by omega
         have hm0:(0:Int)≤(m:Int):=by omega
         clear jAj
         generalize part.getD m nil=x at z0 z1 z2 hsx HT2
         generalize jEn ps.length k o0 part m=out at HK hbo HT2
         obtain⟨xk,xs,xc⟩:=x
         dsimp only at z0 z1 z2 hsx
         have HKc:=hid (HK.out.step (jAb (.cells #[.int .u8 xk,.string xs,.bool xc] 76)))
         have HBc:=hid (jAa HB.out (jAb (.cells #[.int .u8 xk,.string xs,.bool xc] 76)))
         have HXc:=hid (show (wr.alloc (.cells #[.int .u8 xk,.string xs,.bool xc] 76)).heap[wr.heap.size]? = some (pcC ⟨xk,xs,xc⟩) from heap_alloc_new wr _)
         obtain⟨y0,y1,y2⟩:=jAG HXc.out
         dsimp only at y0 y1 y2
         have x9:=(HBc.out.cell (World.block_lt_of_cell? w _ HX0.out)).trans HX0.out
         have hol:=jH5 out
         have HLO:=hid (show out.length≤100000000 by omega)
         have HM1:=hid (show ∀y ∈ out,y.s.size+xs.size≤1000000000 from fun y hy=>by have:=jPw hy;omega)
         have cX:=fun v' w' (hO:jA7 w.heap.size v' out w') (hB:w.heap.size≤w'.heap.size)=>jD0 w.heap.size out ⟨xk,xs,xc⟩ v' w' hO hB HLO.out HM1.out
         unfold pcV at cX
         dsimp only at cX
         obtain⟨ao,ca,rfl⟩:=HK.out.form
         have HIT:=hid (fun (h:jDa ps.length k ⟨xk,xs,xc⟩=true)=>show jEn ps.length k o0 part (m+1)=out by rw[HT2.out];unfold jVC;rw[if_pos h])
         have HIF:=hid (fun (h:jDa ps.length k ⟨xk,xs,xc⟩=false)=>show jEn ps.length k o0 part (m+1)=jJj out ⟨xk,xs,xc⟩ by rw[HT2.out];unfold jVC;rw[if_neg (by rw[h];simp)])
         clear HT2 hol hbo hsx
         cases xc
         ·have HST:=hid (HIF.out (jBW (.inl (by simp[coB])) (.inl (by simp[ccB]))))
          clear HIT HIF
          go_wp2_with (go_at_call 93;(with_reducible refine (cX _ _ HKc.out HBc.out.size).mono ?_);rintro e w6 ⟨v6,rfl,hO6,hb6,_⟩;have HB6:=hid (HBc.out.trans hb6);have HK6:=hid hO6;clear hO6 hb6)
          go_roundw
          case rel=>exact⟨m+1,jGx,by go_num,by show jA7 _ _ _ _;rw[HST.out];exact HK6.out,HB6.out⟩
          case measure=>simp[RowKit.intOf] <;> omega
         ·by_cases h2:xk=2
          ·subst h2
           by_cases hkp:0<k
           ·have jZZ:(0:Int)<(k:Int):=by omega
            have HST:=hid (HIT.out (jM7 (by simp[coB]) hkp))
            clear HIT HIF
            go_wp2
            go_roundw
            case rel=>exact⟨m+1,jGx,by go_num,by show jA7 _ _ _ _;rw[HST.out];exact HKc.out,HBc.out⟩
            case measure=>simp[RowKit.intOf] <;> omega
           ·have jZZ:¬(0:Int)<(k:Int):=by omega
            have HST:=hid (HIF.out (jBW (.inr hkp) (.inl (by simp[ccB]))))
            clear HIT HIF
            go_wp2_with (go_at_call 93;(with_reducible refine (cX _ _ HKc.out HBc.out.size).mono ?_);rintro e w6 ⟨v6,rfl,hO6,hb6,_⟩;have HB6:=hid (HBc.out.trans hb6);have HK6:=hid hO6;clear hO6 hb6)
            go_roundw
            case rel=>exact⟨m+1,jGx,by go_num,by show jA7 _ _ _ _;rw[HST.out];exact HK6.out,HB6.out⟩
            case measure=>simp[RowKit.intOf] <;> omega
          ·have h2b:(xk == 2)=false:=by simpa using h2
           by_cases h3:xk=3
           ·subst h3
            by_cases hkl:k+1<ps.length
            ·have jRu:(k:Int)<(ps.length:Int)-1:=by omega
             have HST:=hid (HIT.out (jI0 (by simp[ccB]) hkl))
             clear HIT HIF
             go_wp2
             go_roundw
             case rel=>exact⟨m+1,jGx,by go_num,by show jA7 _ _ _ _;rw[HST.out];exact HKc.out,HBc.out⟩
             case measure=>simp[RowKit.intOf] <;> omega
            ·have jRu:¬(k:Int)<(ps.length:Int)-1:=by omega
             have HST:=hid (HIF.out (jBW (.inl (by simp[coB])) (.inr hkl)))
             clear HIT HIF
             go_wp2_with (go_at_call 93;(with_reducible refine (cX _ _ HKc.out HBc.out.size).mono ?_);rintro e w6 ⟨v6,rfl,hO6,hb6,_⟩;have HB6:=hid (HBc.out.trans hb6);have HK6:=hid hO6;clear hO6 hb6)
             go_roundw
             case rel=>exact⟨m+1,jGx,by go_num,by show jA7 _ _ _ _;rw[HST.out];exact HK6.out,HB6.out⟩
             case measure=>simp[RowKit.intOf] <;> omega
           ·have h3b:(xk == 3)=false:=by simpa using h3
            have HST:=hid (HIF.out (jBW (.inl (by simp[coB,h2])) (.inl (by simp[ccB,h3]))))
            clear HIT HIF
            go_wp2_with (go_at_call 93;(with_reducible refine (cX _ _ HKc.out HBc.out.size).mono ?_);rintro e w6 ⟨v6,rfl,hO6,hb6,_⟩;have HB6:=hid (HBc.out.trans hb6);have HK6:=hid hO6;clear hO6 hb6)
            go_roundw
            case rel=>exact⟨m+1,jGx,by go_num,by show jA7 _ _ _ _;rw[HST.out];exact HK6.out,HB6.out⟩
            case measure=>simp[RowKit.intOf] <;> omega
        ·obtain rfl:m=part.length:=by omega
         have hmi:¬(part.length:Int)<(part.length:Int):=by omega
         go_wp2
         go_roundw
         case rel=>exact⟨k+1,hlt,by go_num,by show jA7 _ _ _ _;rw[HNX.out];exact HK.out,HB.out⟩
         case measure=>simp[RowKit.intOf] <;> omega
      ·obtain rfl:k=ps.length:=by omega
       have hki:¬(ps.length:Int)<(ps.length:Int):=by omega
       have hbg:=HSM.out ps.length (Nat.le_refl _)
       have jZ0:(gTo ps ps.length).length≤bulk (gTo ps ps.length):=by unfold bulk;omega
       have hgl:(gTo ps ps.length).length≤8000000:=by omega
       clear hbg jZ0
       generalize gTo ps ps.length=out at HK HGE HGL hgl
       obtain⟨ao,ca,rfl⟩:=HK.out.form
       by_cases jHZ:512<out.length
       ·have hE:jCA ps=3:=by rw[HGE.out,if_pos jHZ]
        have hL:jCb ps=[]:=by rw[HGL.out,if_neg (by rw[hE];decide)]
        have HE2:=hid (And.intro hE hL)
        have hli:(512:Int)<(out.length:Int):=by omega
        clear hE hL
        go_wp2
        go_ret2
        exact⟨⟨.slice none 0 0,by rw[HE2.out.1];rfl,by rw[HE2.out.2];exact jA7.nil _ _⟩,HB.out⟩
       ·have hE:jCA ps=0:=by rw[HGE.out,if_neg jHZ]
        have hL:jCb ps=out:=by rw[HGL.out,if_pos hE]
        have HE2:=hid (And.intro hE hL)
        have hli:¬(512:Int)<(out.length:Int):=by omega
        have HO7:=hid HK.out.low
        clear hE hL
        go_wp2
        go_ret2
        exact⟨⟨_,by rw[HE2.out.1];rfl,by rw[HE2.out.2];exact HO7.out⟩,HB.out⟩
end Go.Proofs.YtldapapdolkiaaaGreatDoor
namespace Go.Proofs.YtldapapdolkiaaaGreatDoor
set_option maxHeartbeats 64000000
open Go Go.RowKit Go.Lib
set_option maxRecDepth 100000
def LongsEnd (ps:List (List Pc))(e:Ending):Prop:=∃b,e=.returned (.bool b)∧(b=false→jCT ps≤2500)
def jWE (ps:List (List Pc))(i m:Nat):Prop:=(m=jCT (ps.take i)∨5000≤m)∧m≤i*300000000000000+5000
def jRw (ps:List (List Pc))(l:List Pc)(i j m:Nat):Prop:=(m=jCT (ps.take i)+cnt l j∨5000≤m)∧m≤i*300000000000000+150000000010000
theorem jWE.in {ps:List (List Pc)}{l:List Pc}{i m:Nat}(h:jWE ps i m)(hl:l.length≤140737488355328):jRw ps l i 0 (m+l.length):=by
 unfold jWE at h
 unfold jRw
 rw[jLa]
 omega
theorem jRw.step {ps:List (List Pc)}{l:List Pc}{i j m:Nat}(h:jRw ps l i j m)(hj:j<l.length)(hm:m<5000)(hs:(l.getD j nil).s.size≤140737488355328):jRw ps l i (j+1) (m+(l.getD j nil).s.size):=by
 unfold jRw at *
 rw[jPT l j hj]
 omega
theorem jRw.out {ps:List (List Pc)}{i m:Nat}(hi:i<ps.length)(h:jRw ps (ps.getD i []) i (ps.getD i []).length m):jWE ps (i+1) m:=by
 unfold jRw jWE at *
 rw[jSl]at h
 rw[jC7 hi]
 omega
theorem jRw.le {ps:List (List Pc)}{l:List Pc}{i j m:Nat}(h:jRw ps l i j m)(hi:i≤30):m≤10000000000000000:=by
 unfold jRw at h
 omega
theorem jWE.le {ps:List (List Pc)}{i m:Nat}(h:jWE ps i m)(hi:i≤30):m≤10000000000000000:=by
 unfold jWE at h
 omega
end Go.Proofs.YtldapapdolkiaaaGreatDoor
namespace Go.Proofs.YtldapapdolkiaaaGreatDoor
set_option maxHeartbeats 64000000
open Go Go.RowKit Go.Lib
set_option maxRecDepth 100000
theorem jD9 (r:Int):(Utf8.encode r).size≤4:=by
 unfold Utf8.encode
 dsimp only
 split <;> (try split) <;> (try split) <;> (try split) <;> simp[ByteArray.size]
theorem jH6 (s:ByteArray)(w:World)(hs:s.size≤100000):∃cap W1 cur,(convert 9 188 (.string s)).run Tryz.prog w=.ok (.slice (some ⟨w.heap.size,0,none⟩) (jAi s).length cap) W1∧Below w.heap.size w W1 ∧
 W1.heap[w.heap.size]? = some (.cells cur 21 (0,0))∧(∀ (k r:Nat),(jAi s)[k]? = some r→cur[k]? = some (.int .i32 (r:Int)))∧(jAi s).length≤cap:=by
 have e:Conv.runesFrom s s.size 0 #[]=((jAi s).map jQx).toArray:=by
  rw[jHj];simp[jAi]
 have jBi:(jAi s).length≤s.size:=jBc _ _
 have hsz:(Conv.runesFrom s s.size 0 #[]).size=(jAi s).length:=by rw[e];simp
 have h1:=run_runes_of_string (P:=Tryz.prog) w 9 188 21 s Tryz.underlying9 Tryz.underlying188 Tryz.underlying21 (by rw[hsz];omega)
 have hge:=grownCap_ge w (Conv.runesFrom s s.size 0 #[]).size 0 21
 rw[hsz]at h1 hge
 refine⟨_,_,_,h1,(Below.refl _ _).drew.alloc (Nat.le_refl _) _,heap_alloc_new w.drew _,?_,by omega⟩
 intro k r hk
 have hkl:k<(jAi s).length:=(List.getElem?_eq_some_iff.1 hk).1
 rw[e]
 rw[Array.getElem?_append_left (by simpa using hkl)]
 simp[hk,jQx]
def jFp (r:Nat):Pc:=⟨1,Utf8.encode (r:Int),false⟩
def unP (x:Pc):List Pc:=if x.k=1 then (jAi x.s).map jFp else [x]
def jB8 (l:List Pc)(k:Nat):List Pc:=(l.take k).flatMap unP
def jAh (l:List Pc):List Pc:=l.flatMap unP
theorem jFY {l:List Pc}{k:Nat}(h:k<l.length):jB8 l (k+1)=jB8 l k++unP (l.getD k nil):=by
 unfold jB8
 rw[jAS l k h,List.flatMap_append]
 simp
theorem jHG (l:List Pc):jB8 l l.length=jAh l:=by unfold jB8 jAh;rw[List.take_length]
theorem jW8 (x:Pc):(unP x).length≤x.s.size+1:=by
 unfold unP
 split
 ·rw[List.length_map]
  have:=jBc x.s.data.toList.length x.s.data.toList
  have h2:(jAi x.s).length≤x.s.size:=this
  omega
 ·simp
theorem jFo:∀l:List Pc,(l.flatMap unP).length≤bulk l
 | []=>by simp
 | x :: l=>by
   rw[List.flatMap_cons,List.length_append,jBY]
   have h1:=jFo l
   have h2:=jW8 x
   omega
theorem jM0 (l:List Pc)(k:Nat):(jB8 l k).length≤bulk l:=Nat.le_trans (jFo _) (jCR l k)
theorem jBu {w:World}{B b sz:Nat}{e t:TypeId}{v:Value}{n:Nat}{xs:List Value}{cs:Array Value}(jAN:w.ownsRow B e sz v n xs)(hb:w.heap[b]? = some (.cells cs t (0,0)))(hne:e≠t):v.ownBlock≠some b:=by
 rcases jAN.2 with ⟨rfl,_⟩ | ⟨g,cap,cur,rfl,_,hg,_⟩
 ·simp[Value.ownBlock]
 ·intro e'
  simp only[Value.ownBlock,Option.some.injEq]at e'
  subst e'
  rw[hg]at hb
  injection hb with hb
  injection hb with _ ht _
  exact hne ht
theorem jA7.more1 {B:Nat}{v:Value}{l:List Pc}{u:ByteArray}{w:World}(h:w.ownsRow B 76 3 v (l.length+1) (cells3 l++[.int .u8 1,.string u,.bool false])):jA7 B v (l++[⟨1,u,false⟩]) w:=jA7.more (x:=⟨1,u,false⟩) h
theorem one3 (a:Int)(b:ByteArray)(c:Bool):∀u ∈ ([.int .u8 a,.string b,.bool c]:List Value),u.oneCell'=true:=by intro u hu;simp at hu;rcases hu with rfl | rfl | rfl <;> rfl
theorem jLk (l:List Pc)(v:Value)(w:World)(hv:jBe w v l)(hb:bulk l≤10000) :
 Calls Tryz.prog 92 #[v] w fun e w'=>(∃u,e=.returned u∧jA7 w.heap.size u (jAh l) w')∧Below w.heap.size w w':=by
 obtain⟨p,cap,rfl,hl,hc,jA4⟩:=hv
 unfold maxLen at hc
 obtain⟨i0,hi,hz0,hz1,hz2⟩:=info_parts jEs
 have ag:=Tryz.isAgg76
 have zg:=Tryz.sizeOf76
 have HR:=hid jA4
 clear jA4
 go_enter Tryz.func92,Tryz.ntmps92
 go_wp2
 go_loopw [3,4] (fun o i wr=>∃k:Nat,k≤l.length∧i=.int .i64 k∧Hid (jA7 w.heap.size o (jB8 l k) wr)∧Hid (Below w.heap.size w wr)) (fun _ i _=>l.length-(RowKit.intOf i).toNat)
 case atStart=>exact⟨0,Nat.zero_le _,rfl,jA7.nil _ _,Below.refl _ _⟩
 case round =>
  obtain⟨k,hk,rfl,HK,HB⟩:=hrel
  by_cases hlt:k<l.length
  ·obtain⟨A,rfl,hA,jAj⟩:=HR.out (by omega)
   obtain⟨x0,x1,x2⟩:=jAU hA jAj hlt HB.out
   have HS:=hid (jFY hlt)
   have hsz:=jBJ hlt
   have hol:=jM0 l k
   have hki:(k:Int)<(l.length:Int):=by omega
   have hk0:(0:Int)≤(k:Int):=by omega
   clear jAj
   generalize l.getD k nil=x at x0 x1 x2 HS hsz
   generalize jB8 l k=o1 at HK HS hol
   obtain⟨ao,ca,rfl⟩:=HK.out.form
   have jEg:=HB.out.size
   obtain⟨xk,xs,xc⟩:=x
   dsimp only at x0 x1 x2 hsz
   by_cases h1:xk=1
   ·subst h1
    obtain⟨cap2,W1,cur,hcv,hb2,jUv,jUd,jZ1⟩:=jH6 xs wr (by omega)
    have hrl:(jAi xs).length≤xs.size:=jBc _ _
    have HS1:=hid (show jB8 l (k+1)=o1++(jAi xs).map jFp by rw[HS.out];unfold unP;rw[if_pos rfl])
    have HCU:=hid jUd
    have HW:=hid (jAa HB.out hb2)
    have HK1:=hid (HK.out.step hb2)
    have HBL:=hid jUv
    have hrs:(jAi xs).length≤10000:=by omega
    clear jUd jUv hrl HS
    generalize jAi xs=rs at *
    obtain⟨wo,hwo⟩:∃wo,wo=wr:=⟨_,rfl⟩
    subst hwo
    go_wp2
    go_loopw [3,6] (fun o i wr2=>∃j:Nat,j≤rs.length∧i=.int .i64 j∧Hid (jA7 w.heap.size o (o1++(rs.take j).map jFp) wr2)∧Hid (wr2.heap[wo.heap.size]? = some (.cells cur 21 (0,0)))∧Hid (Below w.heap.size w wr2)) (fun _ i _=>rs.length-(RowKit.intOf i).toNat)
    case atStart=>exact⟨0,Nat.zero_le _,rfl,by show jA7 _ _ _ _;simpa using HK1.out,HBL.out,HW.out⟩
    case round =>
     clear HB HW HK HK1 jEg
     obtain⟨j,hj,rfl,HO,HR2,HB⟩:=hrel
     by_cases hjl:j<rs.length
     ·have hr:rs[j]? = some rs[j]:=List.getElem?_eq_getElem hjl
      have ck:=(Lib.cell_of_heap HR2.out j).trans (HCU.out j _ hr)
      have HT:=hid (show o1++(rs.take (j+1)).map jFp=(o1++(rs.take j).map jFp)++[⟨1,Utf8.encode ((rs[j]:Nat):Int),false⟩] by rw[List.take_add_one,hr,List.map_append,List.append_assoc];rfl)
      have jBi:(o1++(rs.take j).map jFp).length≤20000:=by rw[List.length_append,List.length_map,List.length_take];omega
      have hji:(j:Int)<(rs.length:Int):=by omega
      have hj0:(0:Int)≤(j:Int):=by omega
      generalize rs[j]=r at hr ck HT
      generalize o1++(rs.take j).map jFp=pre at HO HT jBi
      clear hr
      obtain⟨aoj,caj,hfo⟩:=HO.out.form
      subst hfo
      have jBU:=HO.out
      unfold jA7 at jBU
      have HK2:=hid jBU
      have jEg:=HB.out.size
      have q1:=hid (show pre.length+1≤maxLen by unfold maxLen;omega)
      have q2:=hid (show (pre.length+1)*32≤140737488355328 by omega)
      clear jBU HO
      go_wp2_with (first
       | (at_builtin;refine wpList_append_own _ rfl _ _ 39 rfl w.heap.size 76 i0 _ 3 32 Tryz.underlying39 hi hz0 hz1 hz2 rfl (by decide) _ _ _ rfl (HK2.out.alloc (.cells #[.int .u8 1,.string (Utf8.encode (r:Int)),.bool false] 76)) ⟨wr.heap.size,0,none⟩ 1 1 [.int .u8 1,.string (Utf8.encode (r:Int)),.bool false] rfl rfl (jEN wr _ _ _ _) (one3 _ _ _) q1.out q2.out (by simp;omega) ?_;intro v3 w3 jAP jAl jBs
          have HR6:=hid (show w3.heap[wo.heap.size]? = some (.cells cur 21 (0,0)) by
           have d4:=(Below.heap_alloc wr (.cells #[.int .u8 1,.string (Utf8.encode (r:Int)),.bool false] 76) _ (lt_of_block HR2.out)).trans HR2.out
           rw[jAl.block wo.heap.size (lt_of_block d4) (fun e=>jBu (HK2.out.alloc (.cells #[.int .u8 1,.string (Utf8.encode (r:Int)),.bool false] 76)) d4 (by decide) e.symm)]
           exact d4)
          have HB3:=hid ((HB.out.alloc jEg (.cells #[.int .u8 1,.string (Utf8.encode (r:Int)),.bool false] 76)).grown jAl (by simp;omega) (fun k hk=>(HK2.out.lt k hk).1))
          have HK3:=hid (jA7.more1 jAP)
          clear jAP jAl jBs))
      go_roundw
      case rel=>exact⟨j+1,hjl,by go_num,(by show jA7 _ _ _ _;rw[HT.out];exact HK3.out),HR6.out,HB3.out⟩
      case measure=>simp[RowKit.intOf];omega
     ·have hji:¬(j:Int)<(rs.length:Int):=by omega
      have HE:=hid (show o1++(rs.take j).map jFp=jB8 l (k+1) by rw[HS1.out,List.take_of_length_le (by omega)])
      go_wp2
      go_roundw
      case rel=>exact⟨k+1,hlt,by go_num,(by show jA7 _ _ _ _;rw[←HE.out];exact HO.out),HB.out⟩
      case measure=>simp[RowKit.intOf];omega
   ·have h1b:(xk != 1)=true:=by simpa using h1
    have HS1:=hid (show jB8 l (k+1)=o1++[⟨xk,xs,xc⟩] by rw[HS.out];unfold unP;rw[if_neg h1])
    have jBU:=HK.out
    unfold jA7 at jBU
    have HK2:=hid jBU
    have q1:=hid (show o1.length+1≤maxLen by unfold maxLen;omega)
    have q2:=hid (show (o1.length+1)*32≤140737488355328 by omega)
    clear jBU HK HS h1
    go_wp2_with (first
     | (at_builtin;refine wpList_append_own _ rfl _ _ 39 rfl w.heap.size 76 i0 _ 3 32 Tryz.underlying39 hi hz0 hz1 hz2 rfl (by decide) _ _ _ rfl (HK2.out.alloc (.cells #[.int .u8 xk,.string xs,.bool xc] 76)) ⟨wr.heap.size,0,none⟩ 1 1 [.int .u8 xk,.string xs,.bool xc] rfl rfl (jEN wr _ _ _ _) (one3 _ _ _) q1.out q2.out (by simp;omega) ?_;intro v3 w3 jAP jAl jBs
        have HB3:=hid ((HB.out.alloc jEg (.cells #[.int .u8 xk,.string xs,.bool xc] 76)).grown jAl (by simp;omega) (fun k hk=>(HK2.out.lt k hk).1))
        have HK3:=hid (jA7.more (x:=⟨xk,xs,xc⟩) jAP)
        clear jAP jAl jBs))
    go_roundw
    case rel=>exact⟨k+1,hlt,by go_num,(by show jA7 _ _ _ _;rw[HS1.out];exact HK3.out),HB3.out⟩
    case measure=>simp[RowKit.intOf];omega
  ·have hki:¬(k:Int)<(l.length:Int):=by omega
   obtain rfl:k=l.length:=by omega
   rw[jHG]at HK
   go_wp2
   go_ret
   exact⟨⟨_,rfl,HK.out⟩,HB.out⟩
end Go.Proofs.YtldapapdolkiaaaGreatDoor
namespace Go.Proofs.YtldapapdolkiaaaGreatDoor
set_option maxHeartbeats 64000000
open Go Go.RowKit Go.Lib
set_option maxRecDepth 100000
theorem jNc:(Tryz.prog.info? 190).map (fun i=>(i.zero,i.size,i.bytes))=some (some (.agg #[.int .i32 0,.bool false]),2,8):=by kernel_rfl
def unN (x:Pc):Nat:=if x.k=5 then 1 else if x.k=1 then (jAi x.s).length else 0
def jR5 (l:List Pc)(k:Nat):Nat:=((l.take k).map unN).sum
def jAW (l:List Pc):Nat:=(l.map unN).sum
theorem jSr {l:List Pc}{k:Nat}(h:k<l.length):jR5 l (k+1)=jR5 l k+unN (l.getD k nil):=by
 unfold jR5
 rw[jAS l k h,List.map_append,List.sum_append]
 simp
theorem jUS (l:List Pc):jR5 l l.length=jAW l:=by unfold jR5 jAW;rw[List.take_length]
theorem jZl (x:Pc):unN x≤x.s.size+1:=by
 unfold unN
 split
 ·omega
 ·split
  ·have h2:(jAi x.s).length≤x.s.size:=jBc _ _
   omega
  ·omega
theorem jHA:∀l:List Pc,(l.map unN).sum≤bulk l
 | []=>by simp
 | x :: l=>by
   rw[List.map_cons,List.sum_cons,jBY]
   have h1:=jHA l
   have h2:=jZl x
   omega
theorem jXn (l:List Pc)(k:Nat):jR5 l k≤bulk l:=Nat.le_trans (jHA _) (jCR l k)
theorem jBV (w:World)(a b:Value)(t:TypeId):∀j u,[a,b][j]? = some u→(w.alloc (.cells #[a,b] t)).cell? ((⟨w.heap.size,0,none⟩:Addr).add j)=some u:=by
 intro j x hj
 match j,hj with
 | 0,hj=>simp at hj;subst hj;simp[Addr.add]
 | 1,hj=>simp at hj;subst hj;simp[Addr.add]
theorem one2 (a:Int)(c:Bool):∀u ∈ ([.int .i32 a,.bool c]:List Value),u.oneCell'=true:=by intro u hu;simp at hu;rcases hu with rfl | rfl <;> rfl
def jQR (B:Nat)(v:Value)(n:Nat)(w:World):Prop:=∃xs,w.ownsRow B 190 2 v n xs
theorem jQR.step {B:Nat}{v:Value}{n:Nat}{w w':World}(hb:Below w.heap.size w w')(h:jQR B v n w):jQR B v n w':=by
 obtain⟨xs,h⟩:=h
 exact⟨xs,jAZ hb h⟩
theorem jQR.form {B:Nat}{v:Value}{n:Nat}{w:World}(h:jQR B v n w):∃ao cap,v=.slice ao n cap:=by
 obtain⟨xs,h⟩:=h
 rcases h.2 with ⟨hv,h0⟩ | ⟨g,cap,cur,hv,_⟩
 ·subst h0
  exact⟨none,0,hv⟩
 ·exact⟨_,_,hv⟩
theorem jSC (l:List Pc)(v:Value)(w:World)(hv:jBe w v l)(hb:bulk l≤10000) :
 Calls Tryz.prog 89 #[v] w fun e w'=>(∃a:Option Addr × Nat,e=.returned (.slice a.1 (jAW l) a.2))∧Below w.heap.size w w':=by
 obtain⟨p,cap,rfl,hl,hc,jA4⟩:=hv
 unfold maxLen at hc
 obtain⟨i0,hi,hz0,hz1,hz2⟩:=info_parts jNc
 have ag:=Tryz.isAgg76
 have zg:=Tryz.sizeOf76
 have ag2:=Tryz.isAgg190
 have zg2:=Tryz.sizeOf190
 have HR:=hid jA4
 clear jA4
 go_enter Tryz.func89,Tryz.ntmps89
 go_wp2
 go_loopw [3,4] (fun o i wr=>∃k:Nat,k≤l.length∧i=.int .i64 k∧Hid (jQR w.heap.size o (jR5 l k) wr)∧Hid (Below w.heap.size w wr)) (fun _ i _=>l.length-(RowKit.intOf i).toNat)
 case atStart=>exact⟨0,Nat.zero_le _,rfl,show jQR _ _ _ _ from ⟨[],World.ownsRow_nil _ _ _ _⟩,Below.refl _ _⟩
 case round =>
  obtain⟨k,hk,rfl,HK,HB⟩:=hrel
  by_cases hlt:k<l.length
  ·obtain⟨A,rfl,hA,jAj⟩:=HR.out (by omega)
   obtain⟨x0,x1,x2⟩:=jAU hA jAj hlt HB.out
   have HS:=hid (jSr hlt)
   have hsz:=jBJ hlt
   have hol:=jXn l k
   have hki:(k:Int)<(l.length:Int):=by omega
   have hk0:(0:Int)≤(k:Int):=by omega
   have HX:=hid (fun (w2:World) (h2:Below w.heap.size w w2)=>jAU hA jAj hlt h2)
   clear jAj
   generalize l.getD k nil=x at x0 x1 x2 HS hsz HX
   generalize jR5 l k=o1 at HK HS hol
   obtain⟨ao,ca,rfl⟩:=HK.out.form
   have jEg:=HB.out.size
   obtain⟨xk,xs,xc⟩:=x
   dsimp only at x0 x1 x2 hsz
   by_cases h5:xk=5
   ·subst h5
    have HS1:=hid (show jR5 l (k+1)=o1+1 by rw[HS.out];rfl)
    obtain⟨vs,jBU⟩:=HK.out
    have HK2:=hid jBU
    have q1:=hid (show o1+1≤maxLen by unfold maxLen;omega)
    have q2:=hid (show (o1+1)*8≤140737488355328 by omega)
    clear jBU HK HS
    go_wp2_with (first
     | (at_builtin;refine wpList_append_own _ rfl _ _ 154 rfl w.heap.size 190 i0 _ 2 8 Tryz.underlying154 hi hz0 hz1 hz2 rfl (by decide) _ _ _ rfl (HK2.out.alloc (.cells #[.int .i32 0,.bool true] 190)) ⟨wr.heap.size,0,none⟩ 1 1 [.int .i32 0,.bool true] rfl rfl (jBV wr _ _ _) (one2 _ _) q1.out q2.out (by simp;omega) ?_;intro v3 w3 jAP jAl jBs
        have HB3:=hid ((HB.out.alloc jEg (.cells #[.int .i32 0,.bool true] 190)).grown jAl (by simp;omega) (fun k hk=>(HK2.out.lt k hk).1))
        have HK3:=hid (show jQR w.heap.size v3 (o1+1) w3 from ⟨_,jAP⟩)
        obtain⟨y0,y1,y2⟩:=HX.out w3 HB3.out
        dsimp only at y0 y1 y2
        clear jAP jAl jBs))
    go_roundw
    case rel=>exact⟨k+1,hlt,by go_num,(by show jQR _ _ _ _;rw[HS1.out];exact HK3.out),HB3.out⟩
    case measure=>simp[RowKit.intOf];omega
   ·have h5b:(xk == 5)=false:=by simpa using h5
    by_cases h1:xk=1
    ·subst h1
     obtain⟨cap2,W1,cur,hcv,hb2,jUv,jUd,jZ1⟩:=jH6 xs wr (by omega)
     have hrl:(jAi xs).length≤xs.size:=jBc _ _
     have HS1:=hid (show jR5 l (k+1)=o1+(jAi xs).length by rw[HS.out];rfl)
     have HCU:=hid jUd
     have HW:=hid (jAa HB.out hb2)
     have HK1:=hid (HK.out.step hb2)
     have HBL:=hid jUv
     have hrs:(jAi xs).length≤10000:=by omega
     clear jUd jUv hrl HS
     generalize jAi xs=rs at *
     obtain⟨wo,hwo⟩:∃wo,wo=wr:=⟨_,rfl⟩
     subst hwo
     go_wp2
     go_loopw [3,6] (fun o i wr2=>∃j:Nat,j≤rs.length∧i=.int .i64 j∧Hid (jQR w.heap.size o (o1+j) wr2)∧Hid (wr2.heap[wo.heap.size]? = some (.cells cur 21 (0,0)))∧Hid (Below w.heap.size w wr2)) (fun _ i _=>rs.length-(RowKit.intOf i).toNat)
     case atStart=>exact⟨0,Nat.zero_le _,rfl,HK1.out,HBL.out,HW.out⟩
     case round =>
      clear HB HW HK HK1 jEg
      obtain⟨j,hj,rfl,HO,HR2,HB⟩:=hrel
      by_cases hjl:j<rs.length
      ·have hr:rs[j]? = some rs[j]:=List.getElem?_eq_getElem hjl
       have ck:=(Lib.cell_of_heap HR2.out j).trans (HCU.out j _ hr)
       have hji:(j:Int)<(rs.length:Int):=by omega
       have hj0:(0:Int)≤(j:Int):=by omega
       generalize rs[j]=r at hr ck
       clear hr
       obtain⟨aoj,caj,hfo⟩:=HO.out.form
       subst hfo
       obtain⟨vs,jBU⟩:=HO.out
       have HK2:=hid jBU
       have jEg:=HB.out.size
       have q1:=hid (show o1+j+1≤maxLen by unfold maxLen;omega)
       have q2:=hid (show (o1+j+1)*8≤140737488355328 by omega)
       clear jBU HO
       go_wp2_with (first
        | (at_builtin;refine wpList_append_own _ rfl _ _ 154 rfl w.heap.size 190 i0 _ 2 8 Tryz.underlying154 hi hz0 hz1 hz2 rfl (by decide) _ _ _ rfl (HK2.out.alloc (.cells #[.int .i32 (r:Int),.bool false] 190)) ⟨wr.heap.size,0,none⟩ 1 1 [.int .i32 (r:Int),.bool false] rfl rfl (jBV wr _ _ _) (one2 _ _) q1.out q2.out (by simp;omega) ?_;intro v3 w3 jAP jAl jBs
           have HR6:=hid (show w3.heap[wo.heap.size]? = some (.cells cur 21 (0,0)) by
            have d4:=(Below.heap_alloc wr (.cells #[.int .i32 (r:Int),.bool false] 190) _ (lt_of_block HR2.out)).trans HR2.out
            rw[jAl.block wo.heap.size (lt_of_block d4) (fun e=>jBu (HK2.out.alloc (.cells #[.int .i32 (r:Int),.bool false] 190)) d4 (by decide) e.symm)]
            exact d4)
           have HB3:=hid ((HB.out.alloc jEg (.cells #[.int .i32 (r:Int),.bool false] 190)).grown jAl (by simp;omega) (fun k hk=>(HK2.out.lt k hk).1))
           have HK3:=hid (show jQR w.heap.size v3 ((o1+j)+1) w3 from ⟨_,jAP⟩)
           clear jAP jAl jBs))
       go_roundw
       case rel=>exact⟨j+1,hjl,by go_num,HK3.out,HR6.out,HB3.out⟩
       case measure=>simp[RowKit.intOf];omega
      ·have hji:¬(j:Int)<(rs.length:Int):=by omega
       obtain rfl:j=rs.length:=by omega
       go_wp2
       go_roundw
       case rel=>exact⟨k+1,hlt,by go_num,(by show jQR _ _ _ _;rw[HS1.out];exact HO.out),HB.out⟩
       case measure=>simp[RowKit.intOf];omega
    ·have h1b:(xk == 1)=false:=by simpa using h1
     have HS1:=hid (show jR5 l (k+1)=o1 by rw[HS.out];unfold unN;rw[if_neg h5,if_neg h1];rfl)
     go_wp2
     go_roundw
     case rel=>exact⟨k+1,hlt,by go_num,(by show jQR _ _ _ _;rw[HS1.out];exact HK.out),HB.out⟩
     case measure=>simp[RowKit.intOf];omega
  ·have hki:¬(k:Int)<(l.length:Int):=by omega
   obtain rfl:k=l.length:=by omega
   rw[jUS]at HK
   obtain⟨ao,ca,rfl⟩:=HK.out.form
   go_wp2
   go_ret
   exact⟨⟨ao,ca,rfl⟩,HB.out⟩
def unE (l:List Pc):Nat:=if jAu l=0 then jAW l else 0
theorem jMN (l:List Pc)(v:Value)(w:World)(hv:jBe w v l)(hb:bulk l≤10000) :
 Calls Tryz.prog 91 #[v] w fun e w'=>e=.returned (.tuple #[.int .i64 (unE l:Nat),.int .u8 (jAu l)])∧Below w.heap.size w w':=by
 have cC:=jDJ l v w hv (by omega)
 have hn:jAW l≤10000:=by have:=jHA l;unfold jAW;omega
 by_cases hE:jAu l=0
 ·have HU:=hid (show unE l=jAW l by unfold unE;rw[if_pos hE])
  have HH:=hid hE
  rw[hE]at cC
  have cA:=fun w1 (h1:Below w.heap.size w w1)=>jSC l v w1 (hv.step h1) hb
  generalize jAW l=n at *
  go_enter Tryz.func91,Tryz.ntmps91
  go_wp2_with (first
   | (go_at_call 25;(with_reducible refine cC.mono ?_);rintro e w1 ⟨rfl,hb1⟩)
   | (go_at_call 89;(with_reducible refine (cA w1 hb1).mono ?_);rintro e w2 ⟨⟨⟨a,c⟩,rfl⟩,hb2⟩;dsimp only;have HB2:=hid (jAa hb1 hb2);clear hb1 hb2))
  go_ret2
  exact⟨by rw[HU.out,HH.out];rfl,HB2.out⟩
 ·have HU:=hid (show unE l=0 by unfold unE;rw[if_neg hE])
  generalize hZ:jAu l=Z at cC hE
  have hz:(Z == 0)=false:=by simpa using hE
  have hz2:(Z != 0)=true:=by simpa using hE
  clear hE hZ
  go_enter Tryz.func91,Tryz.ntmps91
  go_wp2_with (go_at_call 25;(with_reducible refine cC.mono ?_);rintro e w1 ⟨rfl,hb1⟩)
  go_ret2
  exact⟨by rw[HU.out];rfl,hb1⟩
end Go.Proofs.YtldapapdolkiaaaGreatDoor
