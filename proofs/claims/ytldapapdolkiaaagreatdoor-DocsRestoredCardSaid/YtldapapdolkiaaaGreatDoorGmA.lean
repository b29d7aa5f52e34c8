/- Decoding of texts that are put together or cut. No run of any program here. Pieces, each unit by itself, and joined again. No run of any program here. Which lists are valid, piece by piece and unit by unit; units joined are the list again. No run of any program here. A list cut at places, unit by unit. No run of any program here. The parts are valid, have the units between the places, and the text together. No run of any program here. The parts are glued to the list again. No run of any program here. A cut in two steps. No run of any program here. What the law DocsGlued asks, as data. No run of any program here. No part of a list is longer than the list; two parts side by side, glued. No run of any program here. -/
import Derived.Test.YtldapapdolkiaaaGreatDoorGlD
import Derived.Test.YtldapapdolkiaaaGreatDoorCuC
namespace Go.Proofs.YtldapapdolkiaaaGreatDoor
open Go Go.RowKit Go.Lib
set_option maxRecDepth 100000
theorem jYV {n n' b0 b1 b2 b3 b1' b2' b3':Nat}(hn:(decodeN n b0 b1 b2 b3).2≤n')(h1:1<n'→b1'=b1)(h2:2<n'→b2'=b2)(h3:3<n'→b3'=b3)(hv:¬((decodeN n b0 b1 b2 b3).1=65533∧(decodeN n b0 b1 b2 b3).2=1)) :
 decodeN n' b0 b1' b2' b3'=decodeN n b0 b1 b2 b3:=by
 unfold decodeN at hv hn ⊢
 by_cases c0:b0<128
 ·rw[if_pos c0,if_pos c0]
 rw[if_neg c0]at hv hn ⊢
 rw[if_neg c0]
 by_cases c1:b0 / 32=6∧(1<n∧b1 / 64=2)
 ·rw[if_pos c1]at hv hn ⊢
  split at hn
  ·rename_i v1
   have e1:=h1 (by omega)
   have hn2:2≤n':=hn
   rw[if_pos ⟨c1.1,by omega,by rw[e1];exact c1.2.2⟩,e1]
  ·rename_i v1
   rw[if_neg v1]at hv
   exact absurd ⟨rfl,rfl⟩ hv
 rw[if_neg c1]at hv hn ⊢
 by_cases c2:b0 / 16=14∧(1<n∧b1 / 64=2)∧(2<n∧b2 / 64=2)
 ·rw[if_pos c2]at hv hn ⊢
  split at hn
  ·rename_i v1
   have hn3:3≤n':=hn
   have e1:=h1 (by omega)
   have e2:=h2 (by omega)
   rw[if_neg (by omega),if_pos ⟨c2.1,⟨by omega,by rw[e1];exact c2.2.1.2⟩,by omega,by rw[e2];exact c2.2.2.2⟩,e1,e2]
  ·rename_i v1
   rw[if_neg v1]at hv
   exact absurd ⟨rfl,rfl⟩ hv
 rw[if_neg c2]at hv hn ⊢
 by_cases c3:b0 / 8=30∧(1<n∧b1 / 64=2)∧(2<n∧b2 / 64=2)∧(3<n∧b3 / 64=2)
 ·rw[if_pos c3]at hv hn ⊢
  split at hn
  ·rename_i v1
   have hn4:4≤n':=hn
   have e1:=h1 (by omega)
   have e2:=h2 (by omega)
   have e3:=h3 (by omega)
   rw[if_neg (by omega),if_neg (by omega),if_pos ⟨c3.1,⟨by omega,by rw[e1];exact c3.2.1.2⟩,⟨by omega,by rw[e2];exact c3.2.2.1.2⟩,by omega,by rw[e3];exact c3.2.2.2.2⟩,e1,e2,e3]
  ·rename_i v1
   rw[if_neg v1]at hv
   exact absurd ⟨rfl,rfl⟩ hv
 rw[if_neg c3]at hv
 exact absurd ⟨rfl,rfl⟩ hv
theorem jHG {a:List UInt8}{i d:Nat}(h:i<d):(a.take d).getD i 0=a.getD i 0:=by
 rw[List.getD_eq_getElem?_getD,List.getD_eq_getElem?_getD,List.getElem?_take_of_lt h]
theorem qA8 {a:List UInt8}(hne:a≠[])(hv:¬((decodeL a).1=65533∧(decodeL a).2=1)):decodeL (a.take (decodeL a).2)=decodeL a:=by
 have hw:=decodeL_width a
 have hle:=jGJ a hne
 generalize hd:(decodeL a).2=d at hw hle
 have jBi:(a.take d).length=d:=by rw[List.length_take];omega
 have h0:(a.take d).getD 0 0=a.getD 0 0:=jHG (by omega)
 have hv':=hv
 have hd':=hd
 rw[decodeL_N]at hv' hd'
 rw[decodeL_N,decodeL_N,h0,jBi]
 exact jYV (Nat.le_of_eq hd') (fun h=>by rw[jHG h]) (fun h=>by rw[jHG h]) (fun h=>by rw[jHG h]) hv'
theorem jZ2 {n n' b0 b1 b2 b3 b1' b2' b3':Nat}(hn:n≤n')(h1:1<n→b1'=b1)(h2:2<n→b2'=b2)(h3:3<n→b3'=b3)(hv:¬((decodeN n b0 b1 b2 b3).1=65533∧(decodeN n b0 b1 b2 b3).2=1)) :
 decodeN n' b0 b1' b2' b3'=decodeN n b0 b1 b2 b3:=by
 unfold decodeN at hv ⊢
 by_cases c0:b0<128
 ·rw[if_pos c0,if_pos c0]
 rw[if_neg c0]at hv ⊢
 rw[if_neg c0]
 by_cases c1:b0 / 32=6∧(1<n∧b1 / 64=2)
 ·have e1:=h1 c1.2.1
  rw[if_pos c1,if_pos ⟨c1.1,by omega,by rw[e1];exact c1.2.2⟩,e1]
 rw[if_neg c1]at hv ⊢
 by_cases c2:b0 / 16=14∧(1<n∧b1 / 64=2)∧(2<n∧b2 / 64=2)
 ·have e1:=h1 c2.2.1.1
  have e2:=h2 c2.2.2.1
  rw[if_pos c2,if_neg (by omega),if_pos ⟨c2.1,⟨by omega,by rw[e1];exact c2.2.1.2⟩,by omega,by rw[e2];exact c2.2.2.2⟩,e1,e2]
 rw[if_neg c2]at hv ⊢
 by_cases c3:b0 / 8=30∧(1<n∧b1 / 64=2)∧(2<n∧b2 / 64=2)∧(3<n∧b3 / 64=2)
 ·have e1:=h1 c3.2.1.1
  have e2:=h2 c3.2.2.1.1
  have e3:=h3 c3.2.2.2.1
  rw[if_pos c3,if_neg (by omega),if_neg (by omega),if_pos ⟨c3.1,⟨by omega,by rw[e1];exact c3.2.1.2⟩,⟨by omega,by rw[e2];exact c3.2.2.1.2⟩,by omega,by rw[e3];exact c3.2.2.2.2⟩,e1,e2,e3]
 rw[if_neg c3]at hv
 exact absurd ⟨rfl,rfl⟩ hv
theorem jJI {a b:List UInt8}{i:Nat}(h:i<a.length):(a++b).getD i 0=a.getD i 0:=by
 rw[List.getD_eq_getElem?_getD,List.getD_eq_getElem?_getD,List.getElem?_append_left h]
theorem qBq {a b:List UInt8}(hne:a≠[])(hv:¬((decodeL a).1=65533∧(decodeL a).2=1)):decodeL (a++b)=decodeL a:=by
 have hl:0<a.length:=List.length_pos_iff.2 hne
 rw[decodeL_N]at hv
 rw[decodeL_N,decodeL_N,jJI hl]
 exact jZ2 (by rw[List.length_append];omega) (fun h=>by rw[jJI h]) (fun h=>by rw[jJI h]) (fun h=>by rw[jJI h]) hv
def jEg (l:List UInt8):List Nat:=jBy l.length l
theorem jFY {l:List UInt8}(hne:l≠[]):jEg l=(decodeL l).1 :: jEg (l.drop (decodeL l).2):=by
 have hl:0<l.length:=List.length_pos_iff.2 hne
 have hw:=decodeL_width l
 obtain⟨n,hn⟩:∃n,l.length=n+1:=⟨l.length-1,by omega⟩
 unfold jEg
 rw[hn]
 simp only[jBy,if_neg hne]
 rw[jFE n (l.drop (decodeL l).2).length _ (by rw[List.length_drop];omega) (Nat.le_refl _)]
theorem jNo:∀ (n:Nat) (a b:List UInt8),a.length≤n→jQN a=true→jQN b=true→jQN (a++b)=true∧jEg (a++b)=jEg a++jEg b
 | 0,a,b,h,_,hb=>by
   obtain rfl:a=[]:=List.eq_nil_of_length_eq_zero (by omega)
   exact⟨hb,rfl⟩
 | n+1,a,b,h,ha,hb=>by
   by_cases hne:a=[]
   ·subst hne
    exact⟨hb,rfl⟩
   ·have hl:0<a.length:=List.length_pos_iff.2 hne
    have hw:=decodeL_width a
    have hle:=jGJ a hne
    have jUc:a++b≠[]:=by simp[hne]
    rw[jKj a hne]at ha
    simp only[Bool.and_eq_true,Bool.not_eq_true',decide_eq_false_iff_not]at ha
    obtain⟨⟨h1,h2⟩,h3⟩:=ha
    have hd:=qBq (b:=b) hne h1
    have hdr:(a++b).drop (decodeL a).2=a.drop (decodeL a).2++b:=List.drop_append_of_le_length hle
    obtain⟨i1,i2⟩:=jNo n (a.drop (decodeL a).2) b (by rw[List.length_drop];omega) h3 hb
    refine⟨?_,?_⟩
    ·rw[jKj _ jUc,hd,hdr,i1,h2]
     simp[h1]
    ·rw[jFY jUc,jFY hne,hd,hdr,i2]
     rfl
theorem jYk {a b:List UInt8}(ha:jQN a=true)(hb:jQN b=true):jQN (a++b)=true:=(jNo _ a b (Nat.le_refl _) ha hb).1
theorem jWo {a b:List UInt8}(ha:jQN a=true)(hb:jQN b=true):jEg (a++b)=jEg a++jEg b:=(jNo _ a b (Nat.le_refl _) ha hb).2
theorem jYq {t:List UInt8}(h:jQN t=true):jE8 (jEg t)=t:=by
 unfold jQN at h
 rw[Bool.and_eq_true]at h
 exact (jYv t.length t (Nat.le_refl _)).2 h.1
end Go.Proofs.YtldapapdolkiaaaGreatDoor
namespace Go.Proofs.YtldapapdolkiaaaGreatDoor
open Go Go.RowKit Go.Lib
set_option maxRecDepth 100000
def jV3 (r:Nat):Prop:=jQN (Utf8.encode (r:Int)).data.toList=true∧jEg (Utf8.encode (r:Int)).data.toList=[r]
theorem jUf:∀ (n:Nat) (l:List UInt8),l.length≤n→jQN l=true→∀r ∈ jEg l,jV3 r
 | 0,l,hn,_,r,hr=>by
   obtain rfl:l=[]:=List.eq_nil_of_length_eq_zero (by omega)
   cases hr
 | n+1,l,hn,ht,r,hr=>by
   by_cases hne:l=[]
   ·subst hne;cases hr
   ·rw[jFY hne]at hr
    rw[jKj l hne]at ht
    simp only[Bool.and_eq_true,Bool.not_eq_true',decide_eq_false_iff_not]at ht
    obtain⟨⟨h1,h2⟩,h3⟩:=ht
    have hw:=decodeL_width l
    have hle:=jGJ l hne
    have hl:0<l.length:=List.length_pos_iff.2 hne
    rcases List.mem_cons.1 hr with rfl | hr
    ·have he:=roundtrip l hne h1
     have hd:=qA8 hne h1
     have jUc:l.take (decodeL l).2≠[]:=by
      intro h
      have:=congrArg List.length h
      rw[List.length_take,List.length_nil]at this
      omega
     have hdr:(l.take (decodeL l).2).drop (decodeL l).2=[]:=by
      apply List.drop_eq_nil_of_le
      rw[List.length_take];omega
     refine⟨?_,?_⟩
     ·rw[he,jKj _ jUc,hd,hdr,h2]
      simp[h1,qBn]
     ·rw[he,jFY jUc,hd,hdr]
      rfl
    ·exact jUf n _ (by rw[List.length_drop];omega) h3 r hr
theorem jRe (s:ByteArray):jAi s=jEg s.data.toList:=rfl
theorem qBh {s:ByteArray}(ht:jBK s=true):∀r ∈ jAi s,jV3 r:=fun r hr=>jUf _ _ (Nat.le_refl _) (by rw[←jGA];exact ht) r hr
theorem qBS {s:ByteArray}(ht:jBK s=true):jE8 (jAi s)=s.data.toList:=jYq (by rw[←jGA];exact ht)
theorem qBi {r:Nat}:0<(Utf8.encode (r:Int)).size:=by
 unfold Utf8.encode
 dsimp only
 split <;> (try split) <;> (try split) <;> (try split) <;> simp[ByteArray.size]
theorem jTS (r:Nat):(jFp r).s=Utf8.encode (r:Int):=by simp only[jFp]
theorem jFI (r:Nat):(jFp r).k=1:=by simp only[jFp]
theorem qCf (r:Nat):(jFp r).c=false:=by simp only[jFp]
theorem jSp {r:Nat}(h:jV3 r):(jFp r).c=false∧0<(jFp r).s.size∧jBK (jFp r).s=true:=by
 rw[jTS,jGA]
 exact⟨qCf r,qBi,h.1⟩
def jGd (x:Pc):Prop:=x.k=1→∃r,x=jFp r∧jV3 r
theorem qBt {x:Pc}(h:jGd x):unP x=[x]:=by
 unfold unP
 by_cases h1:x.k=1
 ·obtain⟨r,rfl,h2,h3⟩:=h h1
  rw[if_pos h1,jRe,jTS,h3]
  rfl
 ·rw[if_neg h1]
theorem qAL {x:Pc}(h:jA8 x=0):∀y ∈ unP x,jGd y:=by
 intro y hy
 unfold unP at hy
 by_cases h1:x.k=1
 ·rw[if_pos h1]at hy
  obtain⟨r,hr,rfl⟩:=List.mem_map.1 hy
  intro _
  exact⟨r,rfl,qBh (jHc h h1) r hr⟩
 ·rw[if_neg h1]at hy
  rw[List.mem_singleton.1 hy]
  exact fun h2=>absurd h2 h1
theorem jZj {l:List Pc}(h:∀x ∈ l,jA8 x=0):∀y ∈ jAh l,jGd y:=by
 intro y hy
 obtain⟨x,hx,hy⟩:=List.mem_flatMap.1 hy
 exact qAL (h x hx) y hy
theorem jOi (a b:List Pc):jAh (a++b)=jAh a++jAh b:=List.flatMap_append
def jBs (S:List Pc):List Pc:=S.foldl jJj []
theorem jTA (S:List Pc)(x:Pc):jBs (S++[x])=jJj (jBs S) x:=by unfold jBs;rw[List.foldl_append];rfl
def qBr (x:Pc):Prop:=x.k=1→x.c=false∧0<x.s.size∧jBK x.s=true
def jRM:Pc→List Pc→Prop
 | _,[]=>True
 | a,x :: l=>¬(x.k=1∧a.k=1)∧jRM x l
theorem jUd:∀ (l:List Pc) (a x:Pc),jRM a l→¬(x.k=1∧(l.getLast?.getD a).k=1)→jRM a (l++[x])
 | [],a,x,_,h=>⟨h,trivial⟩
 | y :: l,a,x,h,h2=>by
   refine⟨h.1,jUd l y x h.2 ?_⟩
   have e:(y :: l).getLast?.getD a=l.getLast?.getD y:=by
    cases l with
    | nil=>rfl
    | cons z l=>rw[List.getLast?_cons_cons];cases hq:(z :: l).getLast? with
      | none=>simp at hq
      | some q=>rfl
   rwa [e]at h2
theorem jUo:∀ (l:List Pc) (a y z:Pc),jRM a (l++[y])→y.k=z.k→jRM a (l++[z])
 | [],a,y,z,h,e=>⟨by rw[←e];exact h.1,trivial⟩
 | x :: l,a,y,z,h,e=>⟨h.1,jUo l x y z h.2 e⟩
def tag0:Pc:=⟨2,⟨#[]⟩,true⟩
structure Joined (S L:List Pc):Prop where
 one:jAh L=S
 txt:∀x ∈ L,qBr x
 tag:∀x ∈ L,x.k≠1→x ∈ S
 adj:jRM tag0 L
theorem Joined.nil:Joined [] []:=⟨rfl,(fun x h=>by cases h),(fun x h=>by cases h),trivial⟩
theorem jIK {α:Type}(l:List α)(y a:α):(l++[y]).getLast?.getD a=y:=by rw[List.getLast?_concat];rfl
theorem qB4 {s:ByteArray}{r:Nat}(hs:jBK s=true)(hr:jV3 r):jBK (s++Utf8.encode (r:Int))=true∧jAi (s++Utf8.encode (r:Int))=jAi s++[r]:=by
 have e:(s++Utf8.encode (r:Int)).data.toList=s.data.toList++(Utf8.encode (r:Int)).data.toList:=by simp
 rw[jGA]at hs ⊢
 rw[jRe,jRe,e]
 exact⟨jYk hs hr.1,by rw[jWo hs hr.1,hr.2]⟩
theorem Joined.snoc {S L:List Pc}(h:Joined S L){x:Pc}(hx:jGd x):Joined (S++[x]) (jJj L x):=by
 rcases List.eq_nil_or_concat L with rfl | ⟨L0,y,rfl⟩
 ·rw[jVq]
  have hS:S=[]:=h.one.symm
  subst hS
  refine⟨?_,?_,?_,⟨fun e=>absurd e.2 (by unfold tag0;decide),trivial⟩⟩
  ·show unP x++[]=_;rw[qBt hx];rfl
  ·intro y hy
   rw[List.mem_singleton.1 hy]
   intro h1
   obtain⟨r,rfl,h2⟩:=hx h1
   exact jSp h2
  ·intro y hy _;exact hy
 ·rw[List.concat_eq_append]at h ⊢
  by_cases hk:x.k=1∧y.k=1
  ·rw[jMt hk.1 hk.2]
   obtain⟨r,rfl,hg⟩:=hx hk.1
   obtain⟨hc,hp,ht⟩:=h.txt y (by simp) hk.2
   obtain⟨t1,t2⟩:=qB4 ht hg
   have hz:(⟨y.k,y.s++(jFp r).s,y.c⟩:Pc)=⟨1,y.s++Utf8.encode (r:Int),false⟩:=by rw[hk.2,hc,jTS]
   rw[hz]
   refine⟨?_,?_,?_,jUo L0 tag0 y _ h.adj hk.2⟩
   ·rw[jOi,←h.one,jOi,List.append_assoc]
    congr 1
    show unP _++[]=unP y++[]++[jFp r]
    unfold unP
    rw[if_pos rfl,if_pos hk.2,t2]
    simp
   ·intro z hz
    rcases List.mem_append.1 hz with hz | hz
    ·exact h.txt z (by simp[hz])
    ·rw[List.mem_singleton.1 hz]
     intro _
     exact⟨rfl,by simp;omega,t1⟩
   ·intro z hz hk1
    rcases List.mem_append.1 hz with hz | hz
    ·exact List.mem_append_left _ (h.tag z (by simp[hz]) hk1)
    ·rw[List.mem_singleton.1 hz]at hk1
     exact absurd rfl hk1
  ·rw[jGq hk]
   refine⟨?_,?_,?_,jUd _ _ _ h.adj (by rw[jIK];exact hk)⟩
   ·rw[jOi,h.one]
    congr 1
    show unP x++[]=_
    rw[qBt hx];rfl
   ·intro z hz
    rcases List.mem_append.1 hz with hz | hz
    ·exact h.txt z hz
    ·rw[List.mem_singleton.1 hz]
     intro h1
     obtain⟨r,rfl,h2⟩:=hx h1
     exact jSp h2
   ·intro z hz hk1
    rcases List.mem_append.1 hz with hz | hz
    ·exact List.mem_append_left _ (h.tag z hz hk1)
    ·rw[List.mem_singleton.1 hz]
     exact List.mem_append_right _ (List.mem_singleton.2 rfl)
theorem jSm:∀ (T S L:List Pc),Joined S L→(∀x ∈ T,jGd x)→Joined (S++T) (T.foldl jJj L)
 | [],S,L,h,_=>by rw[List.append_nil];exact h
 | x :: T,S,L,h,hT=>by
   have:=jSm T (S++[x]) (jJj L x) (h.snoc (hT x (List.mem_cons_self ..))) fun y hy=>hT y (List.mem_cons_of_mem _ hy)
   rw[List.append_assoc]at this
   exact this
theorem joined (S:List Pc)(h:∀x ∈ S,jGd x):Joined S (jBs S):=jSm S [] [] Joined.nil h
end Go.Proofs.YtldapapdolkiaaaGreatDoor
namespace Go.Proofs.YtldapapdolkiaaaGreatDoor
open Go Go.RowKit Go.Lib
set_option maxRecDepth 100000
def chk:Pc→List ByteArray→List Pc→Prop
 | _,op,[]=>op=[]
 | a,op,x :: S=>jA8 x=0∧jJJ a x=false∧∃op',jJF op x=.ok op'∧chk x op' S
def jOD (l:List Pc)(i:Nat):Pc:=if i=0 then tag0 else l.getD (i-1) nil
theorem qBw {l:List Pc}{i:Nat}(h:i<l.length):l.drop i=l.getD i nil :: l.drop (i+1):=by
 rw[List.drop_eq_getElem_cons h,List.getD_eq_getElem?_getD,List.getElem?_eq_getElem h]
 rfl
theorem jRJ (l:List Pc)(i:Nat):jOD l (i+1)=l.getD i nil:=by unfold jOD;rw[if_neg (by omega)];rfl
theorem qBO (x:Pc):jJJ tag0 x=false:=by
 unfold jJJ
 rw[show coB tag0=true from rfl,show ccB tag0=false from rfl]
 simp
theorem qBf {l:List Pc}{i:Nat}(h:jCB l i=0):jA8 (l.getD i nil)=0∧jJJ (jOD l i) (l.getD i nil)=false∧¬((l.getD i nil).k=1∧(jOD l i).k=1):=by
 unfold jCB at h
 by_cases h1:jA8 (l.getD i nil)=0
 ·rw[if_neg (fun e=>e h1)]at h
  by_cases h2:i=0
  ·subst h2
   exact⟨h1,qBO _,fun e=>absurd e.2 (by unfold jOD tag0;simp)⟩
  ·rw[if_neg h2]at h
   unfold jOD
   rw[if_neg h2]
   unfold jRQ at h
   split at h
   ·cases h
   ·rename_i h3
    split at h
    ·cases h
    ·rename_i h4
     exact⟨h1,by simpa using h4,h3⟩
 ·rw[if_pos h1]at h
  exact absurd h h1
theorem qBz:∀ (n:Nat) {l:List Pc},jC4 l n≠.error 0
 | 0,l,h=>by simp[jC4]at h
 | n+1,l,hop=>by
   simp only[jC4]at hop
   cases e:jC4 l n with
   | error x=>rw[e]at hop;exact qBz n (by rw[e];exact hop)
   | ok o =>
     rw[e]at hop
     have hop':(if jCB l n≠0 then Except.error (jCB l n) else jJF o (l.getD n nil))=Except.error 0:=hop
     split at hop'
     ·rename_i hh;injection hop' with h0;exact hh h0
     ·unfold jJF at hop'
      split at hop'
      ·split at hop' <;> cases hop'
      ·split at hop'
       ·split at hop' <;> cases hop'
       ·cases hop'
theorem qBs {l:List Pc}{i:Nat}(h1:jA8 (l.getD i nil)=0)(h2:jJJ (jOD l i) (l.getD i nil)=false)(h3:¬((l.getD i nil).k=1∧(jOD l i).k=1)):jCB l i=0:=by
 unfold jCB
 rw[if_neg (fun e=>e h1)]
 by_cases h0:i=0
 ·rw[if_pos h0]
 ·rw[if_neg h0]
  unfold jOD at h2 h3
  rw[if_neg h0]at h2 h3
  unfold jRQ
  rw[if_neg h3,if_neg (fun e=>by rw[h2]at e;cases e)]
theorem qAD {l:List Pc}(hz:jC4 l l.length=.ok []):∀ (d i:Nat) (op:List ByteArray),i+d=l.length→jC4 l i=.ok op→chk (jOD l i) op (l.drop i)∧jRM (jOD l i) (l.drop i)
 | 0,i,op,hi,hr=>by
   obtain rfl:i=l.length:=by omega
   rw[hz]at hr
   injection hr with hr
   rw[List.drop_length]
   exact⟨hr.symm,trivial⟩
 | d+1,i,op,hi,hr=>by
   obtain⟨op',hs⟩:=jXM hz (i+1) (by omega)
   have hh:jCB l i=0:=jNg hs i (by omega)
   obtain⟨g1,g2,g3⟩:=qBf hh
   have hs2:=hs
   simp only[jC4,hr,hh,ne_eq,not_true_eq_false,if_false]at hs2
   obtain⟨h1,h2⟩:=qAD hz d (i+1) op' (by omega) hs
   rw[jRJ]at h1 h2
   rw[qBw (by omega)]
   exact⟨⟨g1,g2,op',hs2,h1⟩,g3,h2⟩
theorem qAH {l:List Pc}:∀ (d i:Nat) (op:List ByteArray),i+d=l.length→jC4 l i=.ok op→chk (jOD l i) op (l.drop i)→jRM (jOD l i) (l.drop i)→jC4 l l.length=.ok []
 | 0,i,op,hi,hr,hc,_=>by
   obtain rfl:i=l.length:=by omega
   rw[List.drop_length]at hc
   rw[hr,show op=[] from hc]
 | d+1,i,op,hi,hr,hc,hn=>by
   rw[qBw (by omega)]at hc hn
   obtain⟨g1,g2,op',hf,h1⟩:=hc
   obtain⟨g3,h2⟩:=hn
   refine qAH d (i+1) op' (by omega) ?_ (by rw[jRJ];exact h1) (by rw[jRJ];exact h2)
   simp only[jC4,hr,qBs g1 g2 g3,ne_eq,not_true_eq_false,if_false]
   exact hf
theorem qAo {l:List Pc}(h:jAu l=0):l.length≤512∧chk tag0 [] l∧jRM tag0 l:=by
 have hl:¬512<l.length:=by
  intro h0
  rw[jHE h0]at h
  cases h
 unfold jAu at h
 rw[if_neg hl]at h
 cases hr:jC4 l l.length with
 | error e =>
   rw[hr]at h
   dsimp only at h
   subst h
   exact absurd hr (qBz _)
 | ok op =>
   rw[hr]at h
   dsimp only at h
   split at h
   ·rename_i h0
    subst h0
    exact⟨by omega,qAD hr l.length 0 [] (by omega) rfl⟩
   ·cases h
theorem qBM {l:List Pc}(hl:l.length≤512)(h:chk tag0 [] l)(ha:jRM tag0 l):jAu l=0:=by
 rw[jMw (by omega) (qAH l.length 0 [] (by omega) rfl h ha),if_pos rfl]
theorem jMr:∀ {l:List Pc} {a b:Pc} {op:List ByteArray},coB a=coB b→ccB a=ccB b→chk a op l→chk b op l
 | [],_,_,_,_,_,h=>h
 | x :: l,a,b,op,h1,h2,h=>by
   obtain⟨g1,g2,g3⟩:=h
   refine⟨g1,?_,g3⟩
   unfold jJJ at g2 ⊢
   rw[←h1,←h2]
   exact g2
theorem jIC {x:Pc}(h:x.k=1):coB x=false∧ccB x=false:=by
 unfold coB ccB
 rw[h]
 exact⟨rfl,rfl⟩
theorem jIZ {op:List ByteArray}{x:Pc}(h:x.k=1):jJF op x=.ok op:=by
 unfold jJF
 rw[if_neg (by omega),if_neg (by omega)]
theorem jUe {x:Pc}(h:x.k=1)(ht:qBr x):jA8 x=0:=by
 obtain⟨h1,h2,h3⟩:=ht h
 unfold jA8
 rw[if_neg (by omega),if_neg (by rw[h1];simp),if_pos h,if_neg (fun e=>by rcases e with e | e <;> first | omega | (rw[h3]at e;cases e))]
theorem jXQ {r:Nat}(h:jV3 r):jA8 (jFp r)=0:=jUe (jFI r) fun _=>jSp h
theorem jM0 {a x:Pc}(hx:x.k=1):jJJ a x=ccB a:=by
 obtain⟨h1,h2⟩:=jIC hx
 unfold jJJ
 rw[h1,h2]
 simp
theorem jDZ {a x:Pc}{op:List ByteArray}{S:List Pc}:chk a op (x :: S)=(jA8 x=0∧jJJ a x=false∧∃op',jJF op x=.ok op'∧chk x op' S):=by rw[chk]
theorem jZ6 {rest:List Pc}{op:List ByteArray}:∀ (rs:List Nat) (a:Pc),a.k=1→(∀r ∈ rs,jV3 r)→(chk a op (rs.map jFp++rest)↔chk a op rest)
 | [],a,_,_=>Iff.rfl
 | r :: rs,a,ha,hg=>by
   have ih:=jZ6 (rest:=rest) (op:=op) rs (jFp r) (jFI r) fun q hq=>hg q (List.mem_cons_of_mem _ hq)
   have hr:=hg r (List.mem_cons_self ..)
   obtain⟨a1,a2⟩:=jIC ha
   obtain⟨b1,b2⟩:=jIC (jFI r)
   constructor
   ·rintro ⟨_,_,op',hf,hc⟩
    rw[jIZ (jFI r)]at hf
    injection hf with hf
    subst hf
    exact jMr (by rw[a1,b1]) (by rw[a2,b2]) (ih.1 hc)
   ·intro hc
    refine⟨jXQ hr,by rw[jM0 (jFI r)];exact a2,op,jIZ (jFI r),ih.2 (jMr (by rw[a1,b1]) (by rw[a2,b2]) hc)⟩
theorem jZ7 {s:ByteArray}(hp:0<s.size)(ht:jBK s=true):∃r rs,jAi s=r :: rs∧∀q ∈ r :: rs,jV3 q:=by
 have hg:=qBh ht
 cases hr:jAi s with
 | nil =>
   have he:=qBS ht
   rw[hr]at he
   have h2:=jBb s
   rw[←he]at h2
   simp[jE8]at h2
   omega
 | cons r rs=>exact⟨r,rs,rfl,by rw[←hr];exact hg⟩
theorem jNc {x:Pc}(h:jA8 x=0)(hk:x.k=1):x.c=false∧0<x.s.size∧jBK x.s=true:=by
 have ht:=jHc h hk
 unfold jA8 at h
 split at h
 ·cases h
 ·split at h
  ·cases h
  ·rename_i h2
   try rw[if_pos hk]at h
   split at h
   ·cases h
   ·rename_i h3
    refine⟨?_,?_,ht⟩
    ·cases hc:x.c
     ·rfl
     ·exact absurd ⟨hc,by omega,by omega⟩ h2
    ·simp only[not_or]at h3
     omega
theorem jOm:∀ (l:List Pc) (a:Pc) (op:List ByteArray),(∀x ∈ l,qBr x)→(chk a op l↔chk a op (jAh l))
 | [],_,_,_=>Iff.rfl
 | x :: l,a,op,ht=>by
   have ih:=fun op'=>jOm l x op' fun y hy=>ht y (List.mem_cons_of_mem _ hy)
   have hx:=ht x (List.mem_cons_self ..)
   have e:jAh (x :: l)=unP x++jAh l:=rfl
   rw[e]
   by_cases hk:x.k=1
   ·obtain⟨h1,h2,h3⟩:=hx hk
    obtain⟨r,rs,hr,hg⟩:=jZ7 h2 h3
    have eu:unP x=jFp r :: rs.map jFp:=by unfold unP;rw[if_pos hk,hr,List.map_cons]
    rw[eu,List.cons_append,jDZ,jDZ]
    have hrg:=hg r (List.mem_cons_self ..)
    have jA9:=fun op'=>jZ6 (rest:=jAh l) (op:=op') rs (jFp r) (jFI r) fun q hq=>hg q (List.mem_cons_of_mem _ hq)
    obtain⟨c1,c2⟩:=jIC hk
    obtain⟨b1,b2⟩:=jIC (jFI r)
    constructor
    ·rintro ⟨g1,g2,op',hf,hc⟩
     rw[jIZ hk]at hf
     obtain rfl:op=op':=Except.ok.inj hf
     rw[jM0 hk]at g2
     exact⟨jXQ hrg,by rw[jM0 (jFI r)];exact g2,op,jIZ (jFI r),(jA9 op).2 (jMr (by rw[c1,b1]) (by rw[c2,b2]) ((ih op).1 hc))⟩
    ·rintro ⟨g1,g2,op',hf,hc⟩
     rw[jIZ (jFI r)]at hf
     obtain rfl:op=op':=Except.ok.inj hf
     rw[jM0 (jFI r)]at g2
     exact⟨jUe hk hx,by rw[jM0 hk];exact g2,op,jIZ hk,(ih op).2 (jMr (by rw[c1,b1]) (by rw[c2,b2]) ((jA9 op).1 hc))⟩
   ·have eu:unP x=[x]:=by unfold unP;rw[if_neg hk]
    rw[eu]
    constructor
    ·rintro ⟨g1,g2,op',hf,hc⟩
     exact⟨g1,g2,op',hf,(ih op').1 hc⟩
    ·rintro ⟨g1,g2,op',hf,hc⟩
     exact⟨g1,g2,op',hf,(ih op').2 hc⟩
/-! what is joined -/
theorem qBm (L:List Pc)(t:ByteArray)(r:Nat):jJj (jJj L ⟨1,t,false⟩) (jFp r)=jJj L ⟨1,t++Utf8.encode (r:Int),false⟩:=by
 rcases List.eq_nil_or_concat L with rfl | ⟨L0,y,rfl⟩
 ·rw[jVq,jVq]
  have:=jMt (o:=[]) (y:=⟨1,t,false⟩) (x:=jFp r) (jFI r) rfl
  rw[List.nil_append]at this
  rw[this,jTS]
  rfl
 ·rw[List.concat_eq_append]
  by_cases hk:y.k=1
  ·have e1:=jMt (o:=L0) (y:=y) (x:=⟨1,t,false⟩) rfl hk
   have e2:=jMt (o:=L0) (y:=y) (x:=⟨1,t++Utf8.encode (r:Int),false⟩) rfl hk
   have e3:=jMt (o:=L0) (y:=⟨y.k,y.s++t,y.c⟩) (x:=jFp r) (jFI r) hk
   rw[e1,e2]
   refine e3.trans ?_
   rw[jTS,ByteArray.append_assoc]
  ·have e1:=jGq (o:=L0) (y:=y) (x:=⟨1,t,false⟩) (by rintro ⟨_,h⟩;exact hk h)
   have e2:=jGq (o:=L0) (y:=y) (x:=⟨1,t++Utf8.encode (r:Int),false⟩) (by rintro ⟨_,h⟩;exact hk h)
   have e3:=jMt (o:=L0++[y]) (y:=⟨1,t,false⟩) (x:=jFp r) (jFI r) rfl
   rw[e1,e2]
   refine e3.trans ?_
   rw[jTS]
theorem jX2 (L:List Pc):∀ (rs:List Nat) (t:ByteArray),(rs.map jFp).foldl jJj (jJj L ⟨1,t,false⟩)=jJj L ⟨1,t++bytes (jE8 rs),false⟩
 | [],t=>by
   show jJj L _=_
   rw[show t++bytes (jE8 [])=t by apply ByteArray.ext;simp[jE8,bytes]]
 | r :: rs,t=>by
   rw[List.map_cons,List.foldl_cons,qBm,jX2 L rs]
   congr 2
   rw[show jE8 (r :: rs)=(Utf8.encode (r:Int)).data.toList++jE8 rs from rfl]
   apply ByteArray.ext
   apply Array.ext'
   simp[bytes]
theorem qB1 (L:List Pc){x:Pc}(h:qBr x):(unP x).foldl jJj L=jJj L x:=by
 by_cases hk:x.k=1
 ·obtain⟨h1,h2,h3⟩:=h hk
  obtain⟨r,rs,hr,_⟩:=jZ7 h2 h3
  have he:=qBS h3
  unfold unP
  rw[if_pos hk,hr,List.map_cons,List.foldl_cons]
  have e1:jFp r=⟨1,Utf8.encode (r:Int),false⟩:=by simp only[jFp]
  rw[e1,jX2]
  have e2:x=⟨1,x.s,false⟩:=by
   obtain⟨k,s,c⟩:=x
   dsimp only at hk h1
   subst hk h1
   rfl
  have e3:Utf8.encode (r:Int)++bytes (jE8 rs)=x.s:=by
   apply ByteArray.ext
   apply Array.ext'
   rw[←he,hr]
   simp[bytes,jE8]
  rw[e3,←e2]
 ·unfold unP
  rw[if_neg hk]
  rfl
theorem jLg:∀ (l L:List Pc),(∀x ∈ l,qBr x)→(jAh l).foldl jJj L=l.foldl jJj L
 | [],_,_=>rfl
 | x :: l,L,h=>by
   show (unP x++jAh l).foldl jJj L=_
   rw[List.foldl_append,qB1 L (h x (List.mem_cons_self ..)),jLg l _ fun y hy=>h y (List.mem_cons_of_mem _ hy)]
   rfl
theorem jTV:∀ (l L:List Pc),jRM (L.getLast?.getD tag0) l→l.foldl jJj L=L++l
 | [],L,_=>by simp
 | x :: l,L,h=>by
   have e:jJj L x=L++[x]:=by
    rcases List.eq_nil_or_concat L with rfl | ⟨L0,y,rfl⟩
    ·rfl
    ·rw[List.concat_eq_append]at h ⊢
     rw[jIK]at h
     exact jGq h.1
   rw[List.foldl_cons,e,jTV l _ (by rw[jIK];exact h.2),List.append_assoc]
   rfl
theorem jKt {l:List Pc}(h:jAu l=0):jBs (jAh l)=l:=by
 obtain⟨_,_,ha⟩:=qAo h
 unfold jBs
 rw[jLg l [] fun x hx hk=>jNc (jE3 h x hx) hk,jTV l [] ha]
 rfl
theorem qAJ {S:List Pc}(ha:∀x ∈ S,jGd x)(hc:chk tag0 [] S)(hl:(jBs S).length≤512):jAu (jBs S)=0:=by
 have hj:=joined S ha
 exact qBM hl ((jOm _ _ _ hj.txt).2 (by rw[hj.one];exact hc)) hj.adj
theorem jEY {l:List Pc}(h:jAu l=0):chk tag0 [] (jAh l):=(jOm l tag0 [] fun x hx hk=>jNc (jE3 h x hx) hk).1 (qAo h).2.1
end Go.Proofs.YtldapapdolkiaaaGreatDoor
namespace Go.Proofs.YtldapapdolkiaaaGreatDoor
open Go Go.RowKit Go.Lib
set_option maxRecDepth 100000
def jCG:List Int→Nat→List ByteArray→List Pc→List Pc→List (List Pc)
 | _,_,_,acc,[]=>[acc]
 | [],u,op,acc,x :: S=>jCG [] (jBM u x) (jAM op x) (acc++[x]) S
 | p :: r,u,op,acc,x :: S=>if (u:Int)=p∧x.k≠3 then (acc++jAE op) :: jCG r (jBM u x) (jAM op x) (jAt op++[x]) S else jCG (p :: r) (jBM u x) (jAM op x) (acc++[x]) S
theorem jD0 (at':List Int)(u:Nat)(op:List ByteArray)(acc:List Pc):jCG at' u op acc []=[acc]:=by cases at' <;> rfl
theorem jD1 (u:Nat)(op:List ByteArray)(acc:List Pc):∀S:List Pc,jCG [] u op acc S=[acc++S]
 | []=>by rw[jD0,List.append_nil]
 | x :: S=>by
   rw[jCG,jD1 (jBM u x) (jAM op x) (acc++[x]) S,List.append_assoc]
   rfl
theorem jBu {p:Int}{r:List Int}{u:Nat}{op:List ByteArray}{acc S:List Pc}{x:Pc}(h:(u:Int)=p∧x.k≠3):jCG (p :: r) u op acc (x :: S)=(acc++jAE op) :: jCG r (jBM u x) (jAM op x) (jAt op++[x]) S:=by
 rw[jCG,if_pos h]
theorem jDJ {p:Int}{r:List Int}{u:Nat}{op:List ByteArray}{acc S:List Pc}{x:Pc}(h:¬((u:Int)=p∧x.k≠3)):jCG (p :: r) u op acc (x :: S)=jCG (p :: r) (jBM u x) (jAM op x) (acc++[x]) S:=by
 rw[jCG,if_neg h]
theorem jVo (L:List Pc):∀T:List Pc,(∀x ∈ T,x.k≠1)→T.foldl jJj L=L++T:=by
 intro T
 induction T generalizing L with
 | nil=>intro _;simp
 | cons x T ih =>
   intro h
   have e:jJj L x=L++[x]:=by
    rcases List.eq_nil_or_concat L with rfl | ⟨L0,y,rfl⟩
    ·rfl
    ·rw[List.concat_eq_append]
     exact jGq fun e=>h x (List.mem_cons_self ..) e.1
   rw[List.foldl_cons,e,ih _ fun y hy=>h y (List.mem_cons_of_mem _ hy),List.append_assoc]
   rfl
theorem jDf (op:List ByteArray):∀x ∈ jAE op,x.k=3∧x.c=true:=by
 intro x hx
 unfold jAE at hx
 obtain⟨s,_,rfl⟩:=List.mem_map.1 hx
 exact⟨rfl,rfl⟩
theorem jDD (op:List ByteArray):∀x ∈ jAt op,x.k=2∧x.c=true:=by
 intro x hx
 unfold jAt at hx
 obtain⟨s,_,rfl⟩:=List.mem_map.1 hx
 exact⟨rfl,rfl⟩
theorem jMy (A T:List Pc):jBs (A++T)=T.foldl jJj (jBs A):=by unfold jBs;rw[List.foldl_append]
theorem jOW (A:List Pc)(op:List ByteArray):jBs (A++jAE op)=jBs A++jAE op:=by
 rw[jMy]
 exact jVo _ _ fun x hx=>by rw[(jDf op x hx).1];decide
theorem jIn (op:List ByteArray):jBs (jAt op)=jAt op:=by
 unfold jBs
 rw[jVo [] _ fun x hx=>by rw[(jDD op x hx).1];decide]
 rfl
theorem qAu (A:List Pc)(x:Pc):jBs (A++[x])=jJj (jBs A) x:=jTA A x
theorem jT2 {l:List Int}{k:Nat}(h:k<l.length):l.drop k=l.getD k 0 :: l.drop (k+1):=by
 rw[List.drop_eq_getElem_cons h,List.getD_eq_getElem?_getD,List.getElem?_eq_getElem h]
 rfl
theorem jYP (at':List Int):∀ (S:List Pc) (st:Cs) (acc:List Pc),st.part=jBs acc→(S.foldl (jCx at') st).out++[(S.foldl (jCx at') st).part]=st.out++(jCG (at'.drop st.out.length) st.unit st.opn acc S).map jBs
 | [],st,acc,h=>by rw[jD0];simp[h]
 | x :: S,st,acc,h=>by
   rw[List.foldl_cons]
   by_cases hh:jES at' st x=true
   ·have hh2:=hh
    unfold jES at hh2
    simp only[Bool.and_eq_true,decide_eq_true_eq]at hh2
    obtain⟨h1,h2,h3⟩:=hh2
    have ed:at'.drop st.out.length=at'.getD st.out.length 0 :: at'.drop (st.out.length+1):=jT2 h1
    rw[ed,jBu ⟨h2,h3⟩]
    have es:jCx at' st x=⟨st.out++[st.part++jAE st.opn],jJj (jAt st.opn) x,jAM st.opn x,jBM st.unit x⟩:=by
     unfold jCx jCY
     rw[if_pos hh]
    rw[es]
    have ih:=jYP at' S ⟨st.out++[st.part++jAE st.opn],jJj (jAt st.opn) x,jAM st.opn x,jBM st.unit x⟩ (jAt st.opn++[x]) (by rw[qAu,jIn])
    rw[ih]
    dsimp only
    rw[List.length_append,List.length_singleton,List.map_cons,jOW,←h,List.append_assoc]
    rfl
   ·have es:jCx at' st x=⟨st.out,jJj st.part x,jAM st.opn x,jBM st.unit x⟩:=by
     unfold jCx jCY
     rw[if_neg hh]
    rw[es]
    have ih:=jYP at' S ⟨st.out,jJj st.part x,jAM st.opn x,jBM st.unit x⟩ (acc++[x]) (by rw[qAu,h])
    rw[ih]
    dsimp only
    congr 2
    by_cases h1:st.out.length<at'.length
    ·have ed:at'.drop st.out.length=at'.getD st.out.length 0 :: at'.drop (st.out.length+1):=jT2 h1
     rw[ed,jDJ]
     rintro ⟨h2,h3⟩
     apply hh
     unfold jES
     simp only[Bool.and_eq_true,decide_eq_true_eq]
     exact⟨h1,h2,h3⟩
    ·rw[List.drop_of_length_le (by omega)]
     rfl
theorem jQ0 (at':List Int)(S:List Pc):jK2 at' S=(jCG at' 0 [] [] S).map jBs:=by
 unfold jK2 jBD
 rw[List.take_length]
 have:=jYP at' S cs0 [] rfl
 rw[this]
 rfl
end Go.Proofs.YtldapapdolkiaaaGreatDoor
namespace Go.Proofs.YtldapapdolkiaaaGreatDoor
open Go Go.RowKit Go.Lib
set_option maxRecDepth 100000
theorem jUN {a:Pc}{op:List ByteArray}:chk a op []=(op=[]):=by rw[chk]
/-! validity -/
def Ext (acc:List Pc)(b:Pc)(op:List ByteArray):Prop:=∀rest,chk b op rest→chk tag0 [] (acc++rest)
theorem Ext.nil:Ext [] tag0 []:=fun _ h=>h
theorem Ext.snoc {acc:List Pc}{b x:Pc}{op op':List ByteArray}(h:Ext acc b op)(h1:jA8 x=0)(h2:jJJ b x=false)(h3:jJF op x=.ok op'):Ext (acc++[x]) x op':=by
 intro rest hr
 rw[List.append_assoc]
 apply h
 show chk b op (x :: rest)
 rw[jDZ]
 exact⟨h1,h2,op',h3,hr⟩
def jHr (op:List ByteArray):Prop:=(∀s ∈ op,jDi s=true)∧op.length≤16
theorem jXf {k:Int}{s:ByteArray}(hk:k=2∨k=3)(hs:jDi s=true):jA8 ⟨k,s,true⟩=0:=by
 unfold jA8
 dsimp only
 rcases hk with rfl | rfl
 ·rw[if_neg (by decide),if_neg (by decide),if_neg (by decide),if_pos hs]
 ·rw[if_neg (by decide),if_neg (by decide),if_neg (by decide),if_pos hs]
theorem jXm (op:List ByteArray)(s:ByteArray):jAE (op++[s])=⟨3,s,true⟩ :: jAE op:=by unfold jAE;simp
theorem jVm (op:List ByteArray)(s:ByteArray):jAt (op++[s])=jAt op++[⟨2,s,true⟩]:=by unfold jAt;simp
theorem jRv:∀ (n:Nat) (op:List ByteArray) (b:Pc),op.length=n→(∀s ∈ op,jDi s=true)→chk b op (jAE op)
 | 0,op,b,hn,_=>by
   obtain rfl:op=[]:=List.eq_nil_of_length_eq_zero hn
   show chk b [] []
   rw[jUN]
 | n+1,op,b,hn,hs=>by
   rcases List.eq_nil_or_concat op with rfl | ⟨o,s,rfl⟩
   ·cases hn
   ·rw[List.concat_eq_append]at hn hs ⊢
    rw[jXm,jDZ]
    refine⟨jXf (.inr rfl) (hs s (by simp)),?_,o,?_,jRv n o _ (by simpa using hn) fun q hq=>hs q (by simp[hq])⟩
    ·unfold jJJ
     rw[show coB ⟨3,s,true⟩=false from rfl,show ccB ⟨3,s,true⟩=true from rfl]
     simp
    ·unfold jJF
     dsimp only
     rw[if_neg (by decide),if_pos rfl,if_pos (by simp)]
     simp
theorem jSq:∀ (n:Nat) (op:List ByteArray),op.length=n→jHr op→∃b,coB b=true∧ccB b=false∧Ext (jAt op) b op
 | 0,op,hn,_=>by
   obtain rfl:op=[]:=List.eq_nil_of_length_eq_zero hn
   exact⟨tag0,rfl,rfl,Ext.nil⟩
 | n+1,op,hn,hs=>by
   rcases List.eq_nil_or_concat op with rfl | ⟨o,s,rfl⟩
   ·cases hn
   ·rw[List.concat_eq_append]at hn hs ⊢
    obtain⟨h1,h2⟩:=hs
    rw[List.length_append,List.length_singleton]at h2
    obtain⟨b,b1,b2,hE⟩:=jSq n o (by simpa using hn) ⟨fun q hq=>h1 q (by simp[hq]),by omega⟩
    rw[jVm]
    refine⟨⟨2,s,true⟩,rfl,rfl,hE.snoc (jXf (.inl rfl) (h1 s (by simp))) ?_ ?_⟩
    ·unfold jJJ
     rw[b1,b2]
     simp
    ·unfold jJF
     dsimp only
     rw[if_pos rfl,if_neg (by omega)]
theorem jLk {op op':List ByteArray}{x:Pc}(h:jJF op x=.ok op'):jAM op x=op':=by
 unfold jJF at h
 unfold jAM
 split at h
 ·rename_i h1
  rw[if_pos h1]
  split at h
  ·cases h
  ·exact Except.ok.inj h
 ·rename_i h1
  rw[if_neg h1]
  split at h
  ·rename_i h2
   rw[if_pos h2]
   split at h
   ·exact Except.ok.inj h
   ·cases h
  ·rename_i h2
   rw[if_neg h2]
   exact Except.ok.inj h
theorem jSC {op op':List ByteArray}{x:Pc}(h:jJF op x=.ok op')(hx:jA8 x=0)(hn:jHr op):jHr op':=by
 obtain⟨h1,h2⟩:=hn
 unfold jJF at h
 split at h
 ·rename_i hk
  split at h
  ·cases h
  ·rename_i hl
   obtain rfl:=Except.ok.inj h
   refine⟨fun s hs=>?_,by rw[List.length_append,List.length_singleton];omega⟩
   rcases List.mem_append.1 hs with hs | hs
   ·exact h1 s hs
   ·rw[List.mem_singleton.1 hs]
    unfold jA8 at hx
    split at hx
    ·cases hx
    ·split at hx
     ·cases hx
     ·split at hx
      ·omega
      ·split at hx
       ·rename_i hb;exact hb
       ·cases hx
 ·split at h
  ·split at h
   ·obtain rfl:=Except.ok.inj h
    exact⟨fun s hs=>h1 s (List.dropLast_subset _ hs),by rw[List.length_dropLast];omega⟩
   ·cases h
  ·obtain rfl:=Except.ok.inj h
   exact⟨h1,h2⟩
theorem qBL {a b x:Pc}(h:jJJ a x=false)(h1:coB a=true→coB b=true)(h2:ccB b=true→ccB a=true):jJJ b x=false:=by
 unfold jJJ at h ⊢
 cases hx:coB x <;> cases hy:ccB x <;> cases ha:coB a <;> cases hb:coB b <;> cases hc:ccB a <;> cases hd:ccB b <;> simp_all
theorem jPM:∀ (S:List Pc) (at':List Int) (u:Nat) (op:List ByteArray) (acc:List Pc) (a b:Pc),chk a op S→Ext acc b op→(coB a=true→coB b=true)→(ccB b=true→ccB a=true)→jHr op →
  ∀q ∈ jCG at' u op acc S,chk tag0 [] q
 | [],at',u,op,acc,a,b,hc,hE,_,_,_,q,hq=>by
   rw[jD0]at hq
   rw[List.mem_singleton.1 hq]
   rw[jUN]at hc
   subst hc
   have:=hE [] (by rw[jUN])
   rwa [List.append_nil]at this
 | x :: S,at',u,op,acc,a,b,hc,hE,h1,h2,hn,q,hq=>by
   rw[jDZ]at hc
   obtain⟨g1,g2,op',hf,hc'⟩:=hc
   have ho:=jLk hf
   have hn':=jSC hf g1 hn
   have next:=fun at'' u'=>jPM S at'' u' op' (acc++[x]) x x hc' (hE.snoc g1 (qBL g2 h1 h2) hf) id id hn'
   match at',hq with
   | [],hq =>
     rw[jCG,ho]at hq
     exact next _ _ q hq
   | p :: r,hq =>
     by_cases hh:(u:Int)=p∧x.k≠3
     ·rw[jBu hh,ho]at hq
      rcases List.mem_cons.1 hq with rfl | hq
      ·exact hE _ (jRv _ _ _ rfl hn.1)
      ·obtain⟨b0,c1,c2,hE0⟩:=jSq _ op rfl hn
       exact jPM S r _ op' _ x x hc' (hE0.snoc g1 (by unfold jJJ;rw[c1,c2];simp) hf) id id hn' q hq
     ·rw[jDJ hh,ho]at hq
      exact next _ _ q hq
/-! units -/
def uc (x:Pc):Nat:=if x.k=1∨x.k=5 then 1 else 0
def unS (S:List Pc):Nat:=(S.map uc).sum
theorem jH6 (u:Nat)(x:Pc):jBM u x=u+uc x:=by unfold jBM uc;split <;> rfl
theorem jIh (a b:List Pc):unS (a++b)=unS a+unS b:=by unfold unS;rw[List.map_append,List.sum_append]
theorem jEN (x:Pc)(b:List Pc):unS (x :: b)=uc x+unS b:=by unfold unS;rw[List.map_cons,List.sum_cons]
theorem qAI {S:List Pc}(h:∀x ∈ S,x.k=2∨x.k=3):unS S=0:=by
 induction S with
 | nil=>rfl
 | cons x S ih =>
   rw[jEN,ih fun y hy=>h y (List.mem_cons_of_mem _ hy)]
   unfold uc
   rw[if_neg (by rcases h x (List.mem_cons_self ..) with e | e <;> omega)]
theorem jKK (op:List ByteArray):unS (jAE op)=0:=qAI fun x hx=>.inr (jDf op x hx).1
theorem jSj (op:List ByteArray):unS (jAt op)=0:=qAI fun x hx=>.inl (jDD op x hx).1
theorem qCc (x:Pc):unS (unP x)=unN x:=by
 unfold unP unN
 by_cases h1:x.k=1
 ·rw[if_pos h1,if_neg (by omega),if_pos h1]
  have:∀rs:List Nat,unS (rs.map jFp)=rs.length:=by
   intro rs
   induction rs with
   | nil=>rfl
   | cons r rs ih =>
     rw[List.map_cons,jEN,ih,List.length_cons]
     unfold uc
     rw[if_pos (.inl (jFI r))]
     omega
  exact this _
 ·rw[if_neg h1,jEN]
  unfold uc
  by_cases h5:x.k=5
  ·rw[if_pos (.inr h5),if_pos h5];rfl
  ·rw[if_neg (by omega),if_neg h5,if_neg h1];rfl
theorem jG0 (l:List Pc):unS (jAh l)=jAW l:=by
 unfold jAh jAW
 induction l with
 | nil=>rfl
 | cons x l ih=>rw[List.flatMap_cons,jIh,qCc,ih,List.map_cons,List.sum_cons]
def jUy:Int→Int→List Int→Prop
 | _,_,[]=>True
 | u,n,p :: r=>u≤p∧p<n∧jUy (p+1) n r
theorem jFX:∀ {u u' n:Int} {r:List Int},u'≤u→jUy u n r→jUy u' n r
 | _,_,_,[],_,_=>trivial
 | _,_,_,p :: r,h,hp=>⟨by have:=hp.1;omega,hp.2⟩
theorem jWb:∀ {n last:Int} {l:List Int},jE6 n last l=true→jUy (last+1) n l
 | _,_,[],_=>trivial
 | n,last,p :: r,h=>by
   unfold jE6 at h
   split at h
   ·cases h
   ·rename_i hh
    exact⟨by omega,by omega,jWb h⟩
theorem jMu:∀ (S:List Pc) (at':List Int) (u:Nat) (op:List ByteArray) (acc:List Pc),jUy u (u+unS S:Nat) at' →
  (jCG at' u op acc S).length=at'.length+1∧∀i,i<at'.length→((u+(((jCG at' u op acc S).take (i+1)).map unS).sum:Nat):Int)=at'.getD i 0+unS acc
 | [],at',u,op,acc,h=>by
   rw[jD0]
   match at',h with
   | [],_=>exact⟨rfl,fun i hi=>by cases hi⟩
   | p :: r,h =>
     obtain⟨h1,h2,_⟩:=h
     simp[unS]at h2
     omega
 | x :: S,at',u,op,acc,h=>by
   have huc:uc x≤1:=by unfold uc;split <;> omega
   rw[jEN]at h
   match at',h with
   | [],_ =>
     rw[jD1]
     exact⟨rfl,fun i hi=>by cases hi⟩
   | p :: r,h =>
     obtain⟨h1,h2,h3⟩:=h
     by_cases hh:(u:Int)=p∧x.k≠3
     ·rw[jBu hh,jH6]
      obtain⟨i1,i2⟩:=jMu S r (u+uc x) (jAM op x) (jAt op++[x]) (by
       have:=jFX (u':=((u+uc x:Nat):Int)) (by omega) h3
       rwa [show u+(uc x+unS S)=u+uc x+unS S by omega]at this)
      refine⟨by rw[List.length_cons,i1,List.length_cons],fun i hi=>?_⟩
      rw[List.take_succ_cons,List.map_cons,List.sum_cons,jIh,jKK]
      match i,hi with
      | 0,_ =>
        simp only[List.take_zero,List.map_nil,List.sum_nil,List.getD_cons_zero]
        omega
      | i+1,hi =>
        have:=i2 i (by simpa using hi)
        rw[jIh,jSj,jEN]at this
        rw[List.getD_cons_succ]
        simp only[unS,List.map_nil,List.sum_nil]at this ⊢
        omega
     ·rw[jDJ hh,jH6]
      obtain⟨i1,i2⟩:=jMu S (p :: r) (u+uc x) (jAM op x) (acc++[x]) (by
       refine⟨?_,by omega,by rwa [show u+(uc x+unS S)=u+uc x+unS S by omega]at h3⟩
       by_cases h0:uc x=0
       ·omega
       ·have hk:x.k≠3:=by
         unfold uc at h0
         split at h0
         ·omega
         ·exact absurd rfl h0
        have:¬(u:Int)=p:=fun e=>hh ⟨e,hk⟩
        omega)
      refine⟨i1,fun i hi=>?_⟩
      have:=i2 i hi
      rw[jIh,jEN]at this
      simp only[unS,List.map_nil,List.sum_nil]at this ⊢
      omega
/-! text -/
end Go.Proofs.YtldapapdolkiaaaGreatDoor
namespace Go.Proofs.YtldapapdolkiaaaGreatDoor
open Go Go.RowKit Go.Lib
set_option maxRecDepth 100000
def jDP (n i:Nat)(S:List Pc):List Pc:=S.filter fun x=>!jDa n i x
def jH5 (n:Nat):Nat→List (List Pc)→List Pc
 | _,[]=>[]
 | i,r :: R=>jDP n i r++jH5 n (i+1) R
theorem qBj (n i r:Nat):jDa n i (jFp r)=false:=by
 obtain⟨h1,h2⟩:=jIC (jFI r)
 unfold jDa
 rw[h1,h2]
 rfl
theorem jVI (n i:Nat):∀ (l o:List Pc),l.foldl (jVC n i) o=(jDP n i l).foldl jJj o
 | [],o=>rfl
 | x :: l,o=>by
   rw[List.foldl_cons,jVI n i l]
   unfold jDP jVC
   rw[List.filter_cons]
   cases h:jDa n i x
   ·rfl
   ·rfl
theorem jPH (n i:Nat):∀L:List Pc,jAh (jDP n i L)=jDP n i (jAh L)
 | []=>rfl
 | x :: L=>by
   have ih:=jPH n i L
   have e1:jAh (x :: L)=unP x++jAh L:=rfl
   have e2:jDP n i (unP x++jAh L)=jDP n i (unP x)++jDP n i (jAh L):=by unfold jDP;rw[List.filter_append]
   rw[e1,e2,←ih]
   by_cases hk:x.k=1
   ·have hx:jDa n i x=false:=by
     obtain⟨h1,h2⟩:=jIC hk
     unfold jDa
     rw[h1,h2]
     rfl
    have e3:jDP n i (x :: L)=x :: jDP n i L:=by unfold jDP;rw[List.filter_cons,hx];rfl
    have e4:jDP n i (unP x)=unP x:=by
     unfold jDP
     rw[List.filter_eq_self]
     intro y hy
     unfold unP at hy
     rw[if_pos hk]at hy
     obtain⟨r,_,rfl⟩:=List.mem_map.1 hy
     rw[qBj]
     rfl
    rw[e3,e4]
    rfl
   ·have eu:unP x=[x]:=by unfold unP;rw[if_neg hk]
    rw[eu]
    cases h:jDa n i x
    ·have e3:jDP n i (x :: L)=x :: jDP n i L:=by unfold jDP;rw[List.filter_cons,h];rfl
     have e4:jDP n i [x]=[x]:=by unfold jDP;rw[List.filter_cons,h];rfl
     rw[e3,e4]
     show unP x++jAh (jDP n i L)=_
     rw[eu]
    ·have e3:jDP n i (x :: L)=jDP n i L:=by unfold jDP;rw[List.filter_cons,h];rfl
     have e4:jDP n i [x]=[]:=by unfold jDP;rw[List.filter_cons,h];rfl
     rw[e3,e4]
     rfl
theorem qBp (n i:Nat)(R o:List Pc)(hR:∀x ∈ R,jGd x):(jDP n i (jBs R)).foldl jJj o=(jDP n i R).foldl jJj o:=by
 have hj:=joined R hR
 have h1:=jLg (jDP n i (jBs R)) o fun x hx=>hj.txt x (List.mem_filter.1 hx).1
 rw[←h1,jPH,hj.one]
def jPl (R:List (List Pc)):Nat→List Pc
 | 0=>[]
 | k+1=>jPl R k++jDP R.length k (R.getD k [])
theorem jPw (R:List (List Pc))(k:Nat):(R.map jBs).getD k []=jBs (R.getD k []):=by
 rw[List.getD_eq_getElem?_getD,List.getD_eq_getElem?_getD,List.getElem?_map]
 cases R[k]? <;> rfl
theorem jXL {R:List (List Pc)}{k:Nat}(hk:k<R.length):R.getD k [] ∈ R:=by
 rw[List.getD_eq_getElem?_getD,List.getElem?_eq_getElem hk]
 exact List.getElem_mem hk
theorem jVe {R:List (List Pc)}(hR:∀r ∈ R,∀x ∈ r,jGd x):∀k,k≤R.length→gTo (R.map jBs) k=jBs (jPl R k)
 | 0,_=>rfl
 | k+1,hk=>by
   have ih:=jVe hR k (by omega)
   show jEn (R.map jBs).length k (gTo (R.map jBs) k) ((R.map jBs).getD k []) ((R.map jBs).getD k []).length=_
   rw[List.length_map,ih,jPw]
   unfold jEn
   rw[List.take_length,jVI,qBp _ _ _ _ (hR _ (jXL (by omega)))]
   show _=jBs (jPl R k++jDP R.length k (R.getD k []))
   rw[jMy]
theorem jPG (R:List (List Pc)):∀ (B A:List (List Pc)),R=A++B→jPl R R.length=jPl R A.length++jH5 R.length A.length B
 | [],A,h=>by
   rw[List.append_nil]at h
   subst h
   simp[jH5]
 | b :: B,A,h=>by
   have ih:=jPG R B (A++[b]) (by rw[h,List.append_assoc];rfl)
   have hg:R.getD A.length []=b:=by rw[h,List.getD_eq_getElem?_getD,List.getElem?_append_right (Nat.le_refl _),Nat.sub_self];rfl
   rw[ih,List.length_append,List.length_singleton]
   show jPl R A.length++jDP R.length A.length (R.getD A.length [])++_=_
   rw[hg,List.append_assoc]
   rfl
theorem qAM (R:List (List Pc)):jPl R R.length=jH5 R.length 0 R:=by
 have:=jPG R R [] rfl
 rw[this]
 rfl
theorem qBd:∀ (S:List Pc) (at':List Int) (u:Nat) (op:List ByteArray) (acc:List Pc),1≤(jCG at' u op acc S).length
 | [],at',u,op,acc=>by rw[jD0];exact Nat.le_refl _
 | x :: S,[],u,op,acc=>by rw[jD1];exact Nat.le_refl _
 | x :: S,p :: r,u,op,acc=>by
   by_cases hh:(u:Int)=p∧x.k≠3
   ·rw[jBu hh,List.length_cons];omega
   ·rw[jDJ hh];exact qBd S _ _ _ _
theorem qB3 {x:Pc}(h:x.k≠2):coB x=false:=by unfold coB;simp[h]
theorem jXs {x:Pc}(h:x.k≠3):ccB x=false:=by unfold ccB;simp[h]
theorem jZg {x:Pc}(h:uc x≠0):coB x=false:=by
 unfold uc at h
 split at h
 ·rename_i h1
  exact qB3 (by omega)
 ·exact absurd rfl h
theorem jIt {a x:Pc}(h:jJJ a x=false)(ha:coB a=false):coB x=false:=by
 unfold jJJ at h
 rw[ha]at h
 cases hx:coB x
 ·rfl
 ·rw[hx]at h;simp at h
theorem jOE {a x:Pc}(h:jJJ a x=false)(ha:ccB a=true):ccB x=true:=by
 unfold jJJ at h
 rw[ha]at h
 cases hx:ccB x
 ·rw[hx]at h;simp at h
 ·rfl
theorem jVj (n:Nat):∀ (S:List Pc) (at':List Int) (u i:Nat) (op:List ByteArray) (acc:List Pc) (a:Pc),chk a op S→(0<i→coB a=false)→(0<u→coB a=false)→(∀p ∈ at',1≤p)→(∀y ∈ acc,ccB y=true→ccB a=true) →
  i+(jCG at' u op acc S).length=n→jH5 n i (jCG at' u op acc S)=acc.filter (fun y=>!(coB y && decide (0<i)))++S
 | [],at',u,i,op,acc,a,_,_,_,_,_,hn=>by
   rw[jD0]at hn ⊢
   rw[List.length_singleton]at hn
   show jDP n i acc++[]=_
   rw[List.append_nil,List.append_nil]
   unfold jDP
   congr 1
   funext y
   unfold jDa
   rw[show decide (i+1<n)=false by simp;omega]
   simp
 | x :: S,at',u,i,op,acc,a,hc,h1,h2,h3,h4,hn=>by
   rw[jDZ]at hc
   obtain⟨g1,g2,op',hf,hc'⟩:=hc
   have ho:=jLk hf
   have k2:0<u+uc x→coB x=false:=fun h=>by
    by_cases h0:uc x=0
    ·exact jIt g2 (h2 (by omega))
    ·exact jZg h0
   have stay:∀at'',(∀p ∈ at'',1≤p)→i+(jCG at'' (u+uc x) op' (acc++[x]) S).length=n→jH5 n i (jCG at'' (u+uc x) op' (acc++[x]) S)=acc.filter (fun y=>!(coB y && decide (0<i)))++(x :: S):=fun at'' hat hn'=>by
    have ih:=jVj n S at'' (u+uc x) i op' (acc++[x]) x hc' (fun h=>jIt g2 (h1 h)) k2 hat (fun y hy hcc=>by
     rcases List.mem_append.1 hy with hy | hy
     ·exact jOE g2 (h4 y hy hcc)
     ·rw[List.mem_singleton.1 hy]at hcc;exact hcc) hn'
    rw[ih,List.filter_append,List.append_assoc]
    congr 1
    rw[List.filter_cons]
    have:(!(coB x && decide (0<i)))=true:=by
     by_cases hi:0<i
     ·rw[jIt g2 (h1 hi)];rfl
     ·simp[hi]
    rw[if_pos this]
    rfl
   match at',h3,hn with
   | [],h3,hn =>
     rw[jCG,ho,jH6]at hn ⊢
     exact stay [] h3 hn
   | p :: r,h3,hn =>
     by_cases hh:(u:Int)=p∧x.k≠3
     ·rw[jBu hh,ho,jH6]at hn ⊢
      have hp1:=h3 p (List.mem_cons_self ..)
      have hu:0<u:=by omega
      have hcx:coB x=false:=jIt g2 (h2 hu)
      have hca:ccB a=false:=by
       cases hq:ccB a
       ·rfl
       ·have:=jOE g2 hq
        rw[jXs hh.2]at this
        cases this
      have qCw:=qBd S r (u+uc x) op' (jAt op++[x])
      rw[List.length_cons]at hn
      have ih:=jVj n S r (u+uc x) (i+1) op' (jAt op++[x]) x hc' (fun _=>hcx) (fun _=>hcx) (fun q hq=>h3 q (List.mem_cons_of_mem _ hq)) (fun y hy hcc=>by
       rcases List.mem_append.1 hy with hy | hy
       ·have:=jDD op y hy
        rw[jXs (by rw[this.1];decide)]at hcc
        cases hcc
       ·rw[List.mem_singleton.1 hy,jXs hh.2]at hcc;cases hcc) (by omega)
      show jDP n i (acc++jAE op)++jH5 n (i+1) _=_
      rw[ih]
      have e1:jDP n i (acc++jAE op)=acc.filter (fun y=>!(coB y && decide (0<i))):=by
       unfold jDP
       rw[List.filter_append]
       have e2:(jAE op).filter (fun x=>!jDa n i x)=[]:=by
        rw[List.filter_eq_nil_iff]
        intro y hy
        obtain⟨c1,c2⟩:=jDf op y hy
        unfold jDa ccB
        rw[c1,c2,show decide (i+1<n)=true by simp;omega]
        simp
       rw[e2,List.append_nil]
       refine List.filter_congr fun y hy=>?_
       have hy2:ccB y=false:=by
        cases hq:ccB y
        ·rfl
        ·have:=h4 y hy hq
         rw[hca]at this
         cases this
       unfold jDa
       rw[hy2]
       simp
      rw[e1]
      congr 1
      rw[List.filter_append]
      have e3:(jAt op).filter (fun y=>!(coB y && decide (0<i+1)))=[]:=by
       rw[List.filter_eq_nil_iff]
       intro y hy
       obtain⟨c1,c2⟩:=jDD op y hy
       unfold coB
       rw[c1,c2]
       simp
      rw[e3,List.nil_append,List.filter_cons,hcx]
      rfl
     ·rw[jDJ hh,ho,jH6]at hn ⊢
      exact stay (p :: r) h3 hn
/-! neighbours fit -/
theorem jHl (a b:List Pc):jA0 (a++b)=jA0 a++jA0 b:=by unfold jA0;rw[List.filter_append,List.map_append]
theorem jGM (a b:List Pc):jBf (a++b)=jBf a++jBf b:=by unfold jBf;rw[List.filter_append,List.map_append]
theorem jSr {x:Pc}(h:x.k=1):jA0 [x]=[]∧jBf [x]=[]:=by
 obtain⟨h1,h2⟩:=jIC h
 unfold jA0 jBf
 simp[h1,h2]
theorem qBK (L:List Pc)(x:Pc):jA0 (jJj L x)=jA0 L++jA0 [x]∧jBf (jJj L x)=jBf L++jBf [x]:=by
 rcases List.eq_nil_or_concat L with rfl | ⟨L0,y,rfl⟩
 ·exact⟨rfl,rfl⟩
 ·rw[List.concat_eq_append]
  by_cases hk:x.k=1∧y.k=1
  ·rw[jMt hk.1 hk.2,jHl,jGM,jHl,jGM]
   obtain⟨a1,a2⟩:=jSr hk.1
   obtain⟨b1,b2⟩:=jSr hk.2
   obtain⟨c1,c2⟩:=jSr (x:=⟨y.k,y.s++x.s,y.c⟩) hk.2
   rw[a1,a2,b1,b2,c1,c2]
   simp
  ·rw[jGq hk,jHl,jGM]
   exact⟨rfl,rfl⟩
theorem jM1 (S:List Pc):jA0 (jBs S)=jA0 S∧jBf (jBs S)=jBf S:=by
 have key:∀ (S L:List Pc),jA0 (S.foldl jJj L)=jA0 L++jA0 S∧jBf (S.foldl jJj L)=jBf L++jBf S:=by
  intro S
  induction S with
  | nil=>intro L;simp[jA0,jBf]
  | cons x S ih =>
    intro L
    obtain⟨h1,h2⟩:=qBK L x
    rw[List.foldl_cons,(ih _).1,(ih _).2,h1,h2,List.append_assoc,List.append_assoc,←jHl,←jGM]
    exact⟨rfl,rfl⟩
 have:=key S []
 exact this
theorem jTk (op:List ByteArray):jA0 (jAE op)=op.reverse:=by
 unfold jA0
 rw[List.filter_eq_self.2 fun y hy=>by obtain⟨c1,c2⟩:=jDf op y hy;unfold ccB;rw[c1,c2];rfl]
 unfold jAE
 rw[List.map_map]
 show List.map id _=_
 rw[List.map_id]
theorem jU2 (op:List ByteArray):jBf (jAt op)=op:=by
 unfold jBf
 rw[List.filter_eq_self.2 fun y hy=>by obtain⟨c1,c2⟩:=jDD op y hy;unfold coB;rw[c1,c2];rfl]
 unfold jAt
 rw[List.map_map]
 show List.map id _=_
 rw[List.map_id]
theorem jNV {S:List Pc}(h:∀x ∈ S,coB x=false):jBf S=[]:=by
 unfold jBf
 rw[List.filter_eq_nil_iff.2 fun y hy=>by rw[h y hy];decide]
 rfl
theorem jYc {S:List Pc}(h:∀x ∈ S,ccB x=false):jA0 S=[]:=by
 unfold jA0
 rw[List.filter_eq_nil_iff.2 fun y hy=>by rw[h y hy];decide]
 rfl
theorem jU5:∀ (S:List Pc) (at':List Int) (u:Nat) (op:List ByteArray) (acc:List Pc) (a:Pc),chk a op S→coB a=false→jBf ((jCG at' u op acc S).getD 0 [])=jBf acc
 | [],at',u,op,acc,a,_,_=>by rw[jD0];rfl
 | x :: S,at',u,op,acc,a,hc,ha=>by
   rw[jDZ]at hc
   obtain⟨g1,g2,op',hf,hc'⟩:=hc
   have ho:=jLk hf
   have hx:=jIt g2 ha
   have e:jBf (acc++[x])=jBf acc:=by
    rw[jGM,jNV (S:=[x]) fun y hy=>by rw[List.mem_singleton.1 hy];exact hx,List.append_nil]
   match at' with
   | [] =>
     rw[jCG,ho,jU5 S _ _ _ _ x hc' hx,e]
   | p :: r =>
     by_cases hh:(u:Int)=p∧x.k≠3
     ·rw[jBu hh]
      show jBf (acc++jAE op)=_
      rw[jGM,jNV (S:=jAE op) fun y hy=>qB3 (by rw[(jDf op y hy).1];decide),List.append_nil]
     ·rw[jDJ hh,ho,jU5 S _ _ _ _ x hc' hx,e]
theorem jP8:∀ (S:List Pc) (at':List Int) (u:Nat) (op:List ByteArray) (acc:List Pc) (a:Pc),chk a op S→(0<u→coB a=false)→(∀p ∈ at',1≤p)→(∀y ∈ acc,ccB y=true→ccB a=true) →
  ∀k,k+1<(jCG at' u op acc S).length→jA0 ((jCG at' u op acc S).getD k [])=(jBf ((jCG at' u op acc S).getD (k+1) [])).reverse
 | [],at',u,op,acc,a,_,_,_,_,k,hk=>by
   rw[jD0,List.length_singleton]at hk
   omega
 | x :: S,at',u,op,acc,a,hc,h2,h3,h4,k,hk=>by
   rw[jDZ]at hc
   obtain⟨g1,g2,op',hf,hc'⟩:=hc
   have ho:=jLk hf
   have k2:0<u+uc x→coB x=false:=fun h=>by
    by_cases h0:uc x=0
    ·exact jIt g2 (h2 (by omega))
    ·exact jZg h0
   have k4:∀y ∈ acc++[x],ccB y=true→ccB x=true:=fun y hy hcc=>by
    rcases List.mem_append.1 hy with hy | hy
    ·exact jOE g2 (h4 y hy hcc)
    ·rw[List.mem_singleton.1 hy]at hcc;exact hcc
   match at',h3,hk with
   | [],h3,hk =>
     rw[jCG,ho,jH6]at hk ⊢
     exact jP8 S [] _ _ _ x hc' k2 h3 k4 k hk
   | p :: r,h3,hk =>
     by_cases hh:(u:Int)=p∧x.k≠3
     ·rw[jBu hh,ho,jH6]at hk ⊢
      have hp1:=h3 p (List.mem_cons_self ..)
      have hu:0<u:=by omega
      have hcx:coB x=false:=jIt g2 (h2 hu)
      have hca:ccB a=false:=by
       cases hq:ccB a
       ·rfl
       ·have:=jOE g2 hq
        rw[jXs hh.2]at this
        cases this
      match k,hk with
      | 0,_ =>
        show jA0 (acc++jAE op)=(jBf ((jCG r (u+uc x) op' (jAt op++[x]) S).getD 0 [])).reverse
        rw[jU5 S r _ _ _ x hc' hcx,jHl,jTk,jGM,jU2,jNV (S:=[x]) fun y hy=>by rw[List.mem_singleton.1 hy];exact hcx,jYc (S:=acc) fun y hy=>by
         cases hq:ccB y
         ·rfl
         ·have:=h4 y hy hq
          rw[hca]at this
          cases this]
        simp
      | k+1,hk =>
        exact jP8 S r _ _ _ x hc' (fun _=>hcx) (fun q hq=>h3 q (List.mem_cons_of_mem _ hq)) (fun y hy hcc=>by
         rcases List.mem_append.1 hy with hy | hy
         ·rw[jXs (by rw[(jDD op y hy).1];decide)]at hcc
          cases hcc
         ·rw[List.mem_singleton.1 hy,jXs hh.2]at hcc;cases hcc) k (by simpa using hk)
     ·rw[jDJ hh,ho,jH6]at hk ⊢
      exact jP8 S (p :: r) _ _ _ x hc' k2 h3 k4 k hk
end Go.Proofs.YtldapapdolkiaaaGreatDoor
namespace Go.Proofs.YtldapapdolkiaaaGreatDoor
open Go Go.RowKit Go.Lib
set_option maxRecDepth 100000
def sp (p:Int):Nat→List Pc→List Pc→Prop
 | u,[],S=>(u:Int)=p∧∃x S',S=x :: S'∧x.k≠3
 | u,y :: T,S=>¬((u:Int)=p∧y.k≠3)∧sp p (jBM u y) T S
theorem jYu:∀ (S:List Pc) (u:Nat) (p:Int),(u:Int)≤p→p<(u+unS S:Nat)→∃T S1,S=T++S1∧sp p u T S1
 | [],u,p,h1,h2=>by simp[unS]at h2;omega
 | x :: S,u,p,h1,h2=>by
   by_cases hh:(u:Int)=p∧x.k≠3
   ·exact⟨[],x :: S,rfl,hh.1,x,S,rfl,hh.2⟩
   ·rw[jEN]at h2
    have huc:uc x≤1:=by unfold uc;split <;> omega
    obtain⟨T,S1,e,hs⟩:=jYu S (u+uc x) p (by
     by_cases h0:uc x=0
     ·omega
     ·have hk:x.k≠3:=by
       unfold uc at h0
       split at h0
       ·omega
       ·exact absurd rfl h0
      have:¬(u:Int)=p:=fun e=>hh ⟨e,hk⟩
      omega) (by omega)
    refine⟨x :: T,S1,by rw[e];rfl,hh,?_⟩
    rw[jH6]
    exact hs
theorem jUL:∀ {A:List Int} {p u n:Int} {B:List Int},jUy u n (A++p :: B)→jUy u p A∧u≤p∧p<n∧jUy (p+1) n B
 | [],p,u,n,B,h=>⟨trivial,h.1,h.2.1,h.2.2⟩
 | a :: A,p,u,n,B,h=>by
   obtain⟨h1,h2,h3⟩:=h
   obtain⟨i1,i2,i3,i4⟩:=jUL h3
   exact⟨⟨h1,by omega,i1⟩,by omega,i3,i4⟩
theorem jN8:∀ {A:List Int} {u n:Int},jUy u n A→∀a ∈ A,u≤a
 | a :: A,u,n,h,b,hb=>by
   rcases List.mem_cons.1 hb with rfl | hb
   ·exact h.1
   ·have:=jN8 h.2.2 b hb
    have:=h.1
    omega
theorem jVu {r:List Int}{u:Nat}(h:∀p ∈ r,(u:Int)<p)(op:List ByteArray)(acc S:List Pc)(x:Pc):jCG r u op acc (x :: S)=jCG r (jBM u x) (jAM op x) (acc++[x]) S:=by
 cases r with
 | nil=>rw[jCG]
 | cons p r=>rw[jDJ fun e=>by have:=h p (List.mem_cons_self ..);omega]
theorem jHj (p:Int)(B:List Int)(S1:List Pc):∀ (T:List Pc) (A:List Int) (u:Nat) (op:List ByteArray) (acc:List Pc),sp p u T S1→jUy u p A→(∀b ∈ B,p<b) →
  jCG (A++p :: B) u op acc (T++S1)=jCG A u op acc (T++jAE (T.foldl jAM op))++jCG B (T.foldl jBM u) (T.foldl jAM op) (jAt (T.foldl jAM op)) S1
 | [],A,u,op,acc,hs,hA,hB=>by
   obtain⟨hu,x,S',rfl,hx⟩:=hs
   have hA0:A=[]:=by
    cases A with
    | nil=>rfl
    | cons a A=>have h1:=hA.1;have h2:=hA.2.1;omega
   subst hA0
   show jCG (p :: B) u op acc (x :: S')=jCG [] u op acc (jAE op)++jCG B u op (jAt op) (x :: S')
   rw[jBu ⟨hu,hx⟩,jD1,jVu (r:=B) (u:=u) (fun b hb=>by have:=hB b hb;omega)]
   rfl
 | y :: T,A,u,op,acc,hs,hA,hB=>by
   obtain⟨h1,h2⟩:=hs
   have huc:uc y≤1:=by unfold uc;split <;> omega
   match A,hA with
   | [],_ =>
     have ih:=jHj p B S1 T [] (jBM u y) (jAM op y) (acc++[y]) h2 trivial hB
     show jCG (p :: B) u op acc (y :: (T++S1))=jCG [] u op acc (y :: (T++jAE (T.foldl jAM (jAM op y))))++_
     rw[jDJ h1,jCG]
     exact ih
   | a :: A,hA =>
     obtain⟨a1,a2,a3⟩:=hA
     show jCG (a :: (A++p :: B)) u op acc (y :: (T++S1))=jCG (a :: A) u op acc (y :: (T++jAE (T.foldl jAM (jAM op y))))++_
     by_cases hh:(u:Int)=a∧y.k≠3
     ·have ih:=jHj p B S1 T A (jBM u y) (jAM op y) (jAt op++[y]) h2 (jFX (by rw[jH6];omega) a3) hB
      rw[jBu hh,jBu hh,ih]
      rfl
     ·have ih:=jHj p B S1 T (a :: A) (jBM u y) (jAM op y) (acc++[y]) h2 (by
       refine⟨?_,a2,a3⟩
       rw[jH6]
       by_cases h0:uc y=0
       ·omega
       ·have hk:y.k≠3:=by
         unfold uc at h0
         split at h0
         ·omega
         ·exact absurd rfl h0
        have:¬(u:Int)=a:=fun e=>hh ⟨e,hk⟩
        omega) hB
      rw[jDJ hh,jDJ hh]
      exact ih
theorem qBb (T:List Pc):∀u:Nat,T.foldl jBM u=u+unS T:=by
 induction T with
 | nil=>intro u;simp[unS]
 | cons x T ih=>intro u;rw[List.foldl_cons,ih,jH6,jEN];omega
theorem qBX {p:Int}{S:List Pc}:∀ {T:List Pc} {u:Nat},sp p u T S→((u+unS T:Nat):Int)=p
 | [],u,h=>by have:=h.1;simp[unS];exact this
 | y :: T,u,h=>by
   have:=qBX h.2
   rw[jH6]at this
   rw[jEN]
   omega
theorem jQC (d:Nat):∀ (S:List Pc) (r:List Int) (u:Nat) (op:List ByteArray) (acc:List Pc),jCG (r.map fun p=>p-d) u op acc S=jCG r (u+d) op acc S
 | [],r,u,op,acc=>by rw[jD0,jD0]
 | x :: S,[],u,op,acc=>by rw[List.map_nil,jD1,jD1]
 | x :: S,p :: r,u,op,acc=>by
   have e:jBM u x+d=jBM (u+d) x:=by rw[jH6,jH6];omega
   by_cases hh:(u:Int)=p-d∧x.k≠3
   ·rw[List.map_cons,jBu hh,jBu ⟨by omega,hh.2⟩,jQC d S r,e]
   ·have hh2:¬(((u+d:Nat):Int)=p∧x.k≠3):=fun h=>hh ⟨by have:=h.1;omega,h.2⟩
    rw[List.map_cons,jDJ hh,jDJ hh2,←List.map_cons (f:=fun p=>p-(d:Int)),jQC d S (p :: r),e]
theorem jRr {r:List Int}(h:∀p ∈ r,(1:Int)≤p)(S1:List Pc):∀ (o op:List ByteArray) (acc:List Pc),jCG r 0 op acc (jAt o++S1)=jCG r 0 (op++o) (acc++jAt o) S1
 | [],op,acc=>by simp[jAt]
 | s :: o,op,acc=>by
   have e1:jAt (s :: o)=⟨2,s,true⟩ :: jAt o:=rfl
   rw[e1,List.cons_append,jVu fun p hp=>by have:=h p hp;omega]
   have e2:jBM 0 ⟨2,s,true⟩=0:=rfl
   have e3:jAM op ⟨2,s,true⟩=op++[s]:=rfl
   rw[e2,e3,jRr h S1 o,List.append_assoc,List.append_assoc]
   rfl
end Go.Proofs.YtldapapdolkiaaaGreatDoor
namespace Go.Proofs.YtldapapdolkiaaaGreatDoor
open Go Go.RowKit Go.Lib
set_option maxRecDepth 100000
theorem jWg:∀ {n last:Int} {l:List Int},jUy (last+1) n l→jE6 n last l=true
 | _,_,[],_=>rfl
 | n,last,p :: r,h=>by
   obtain⟨h1,h2,h3⟩:=h
   unfold jE6
   rw[if_neg (by omega)]
   exact jWg h3
structure jED (l:List Pc)(at':List Int):Prop where
 ok:jAu l=0
 pl:jUy 1 (jAW l) at'
 lg:∀q ∈ jCG at' 0 [] [] (jAh l),(jBs q).length≤512
theorem ct_ok {l:List Pc}{at':List Int}(h:ctE l at'=0):jED l at':=by
 unfold ctE at h
 split at h
 ·contradiction
 ·rename_i h1
  split at h
  ·cases h
  ·rename_i h2
   split at h
   ·cases h
   ·rename_i h3
    refine⟨by simpa using h1,jWb (last:=0) (by simpa using h2),fun q hq=>?_⟩
    have h4:jCg (jK2 at' (jAh l))=false:=by simpa using h3
    rw[jQ0]at h4
    unfold jCg at h4
    rw[List.any_eq_false]at h4
    have:=h4 (jBs q) (List.mem_map.2 ⟨q,hq,rfl⟩)
    simpa using this
theorem ok_ct {l:List Pc}{at':List Int}(h:jED l at'):ctE l at'=0∧ctR l at'=(jCG at' 0 [] [] (jAh l)).map jBs:=by
 have h3:jCg (jK2 at' (jAh l))=false:=by
  rw[jQ0]
  unfold jCg
  rw[List.any_eq_false]
  intro q hq
  obtain⟨r,hr,rfl⟩:=List.mem_map.1 hq
  have:=h.lg r hr
  simpa using this
 have hz:ctE l at'=0:=by
  unfold ctE
  rw[if_neg (by simp[h.ok]),if_neg (by rw[jWg (last:=0) h.pl];simp),if_neg (by rw[h3];simp)]
 refine⟨hz,?_⟩
 unfold ctR
 rw[if_pos hz,jQ0]
theorem jTz {S:List Pc}(h:∀x ∈ S,x.k≠1):∀x ∈ S,jGd x:=fun x hx h1=>absurd h1 (h x hx)
theorem jUO (op:List ByteArray):∀x ∈ jAE op,jGd x:=jTz fun x hx=>by rw[(jDf op x hx).1];decide
theorem jUF (op:List ByteArray):∀x ∈ jAt op,jGd x:=jTz fun x hx=>by rw[(jDD op x hx).1];decide
theorem jMK {A B:List Pc}(ha:∀x ∈ A,jGd x)(hb:∀x ∈ B,jGd x):∀x ∈ A++B,jGd x:=fun x hx=>(List.mem_append.1 hx).elim (ha x) (hb x)
theorem jMj:∀ (S:List Pc) (at':List Int) (u:Nat) (op:List ByteArray) (acc:List Pc),(∀x ∈ S,jGd x)→(∀x ∈ acc,jGd x)→∀q ∈ jCG at' u op acc S,∀x ∈ q,jGd x
 | [],at',u,op,acc,_,ha,q,hq=>by
   rw[jD0]at hq
   rw[List.mem_singleton.1 hq]
   exact ha
 | x :: S,at',u,op,acc,hS,ha,q,hq=>by
   have hx1:∀y ∈ [x],jGd y:=fun y hy=>by rw[List.mem_singleton.1 hy];exact hS x (List.mem_cons_self ..)
   have hS':∀y ∈ S,jGd y:=fun y hy=>hS y (List.mem_cons_of_mem _ hy)
   match at',hq with
   | [],hq=>rw[jCG]at hq;exact jMj S _ _ _ _ hS' (jMK ha hx1) q hq
   | p :: r,hq =>
     by_cases hh:(u:Int)=p∧x.k≠3
     ·rw[jBu hh]at hq
      rcases List.mem_cons.1 hq with rfl | hq
      ·exact jMK ha (jUO op)
      ·exact jMj S _ _ _ _ hS' (jMK (jUF op) hx1) q hq
     ·rw[jDJ hh]at hq;exact jMj S _ _ _ _ hS' (jMK ha hx1) q hq
theorem jED.atoms {l:List Pc}{at':List Int}(h:jED l at'):∀q ∈ jCG at' 0 [] [] (jAh l),∀x ∈ q,jGd x :=
 jMj _ _ _ _ _ (jZj (jE3 h.ok)) (fun x hx=>by cases hx)
theorem jRk:jHr []:=⟨(fun s hs=>by cases hs),Nat.zero_le _⟩
theorem jED.valid {l:List Pc}{at':List Int}(h:jED l at'):∀q ∈ jCG at' 0 [] [] (jAh l),jAu (jBs q)=0:=fun q hq =>
 qAJ (h.atoms q hq) (jPM _ _ _ _ _ tag0 tag0 (jEY h.ok) Ext.nil id id jRk q hq) (h.lg q hq)
theorem jTv {q:List Pc}(h:∀x ∈ q,jGd x):jAW (jBs q)=unS q:=by rw[←jG0,(joined q h).one]
theorem jYa {n:Int}{at':List Int}(h:jUy 1 n at'):∀p ∈ at',1≤p:=jN8 h
theorem jED.pl0 {l:List Pc}{at':List Int}(h:jED l at'):jUy (0:Nat) (0+unS (jAh l):Nat) at':=by
 rw[jG0,Nat.zero_add]
 exact jFX (by omega) h.pl
theorem jED.count {l:List Pc}{at':List Int}(h:jED l at'):(jCG at' 0 [] [] (jAh l)).length=at'.length+1:=(jMu _ _ 0 [] [] h.pl0).1
theorem jED.glued {l:List Pc}{at':List Int}(h:jED l at'):jCA ((jCG at' 0 [] [] (jAh l)).map jBs)=0∧jCb ((jCG at' 0 [] [] (jAh l)).map jBs)=l:=by
 have hk:=jVj (jCG at' 0 [] [] (jAh l)).length (jAh l) at' 0 0 [] [] tag0 (jEY h.ok) (fun h=>absurd h (by omega)) (fun h=>absurd h (by omega)) (jYa h.pl) (fun y hy=>by cases hy) (by omega)
 have hf:=jP8 (jAh l) at' 0 [] [] tag0 (jEY h.ok) (fun h=>absurd h (by omega)) (jYa h.pl) (fun y hy=>by cases hy)
 have hg:=jVe h.atoms (jCG at' 0 [] [] (jAh l)).length (Nat.le_refl _)
 have hv:=h.valid
 have hc:=h.count
 rw[qAM,hk]at hg
 have hg2:gTo ((jCG at' 0 [] [] (jAh l)).map jBs) (jCG at' 0 [] [] (jAh l)).length=l:=by
  rw[hg]
  show jBs ([]++jAh l)=l
  rw[List.nil_append,jKt h.ok]
 generalize jCG at' 0 [] [] (jAh l)=R at *
 have qCj:∀n,n≤R.length→jBA (R.map jBs) n=0:=by
  intro n
  induction n with
  | zero=>intro _;rfl
  | succ n ih =>
    intro hn
    unfold jBA
    rw[ih (by omega),if_neg (by simp),jPw]
    exact hv _ (jXL (by omega))
 have jYL:∀n,n≤R.length-1→jEI (R.map jBs) n=true:=by
  intro n
  induction n with
  | zero=>intro _;rfl
  | succ n ih =>
    intro hn
    unfold jEI
    rw[ih (by omega),jPw,jPw]
    unfold jUH
    rw[(jM1 _).1,(jM1 _).2]
    simpa using hf n (by omega)
 have hl:=(qAo h.ok).1
 have hE:jCA (R.map jBs)=0:=by
  unfold jCA
  rw[List.length_map,if_neg (by omega),if_neg (by rw[qCj _ (Nat.le_refl _)];simp),if_neg (by rw[jYL _ (Nat.le_refl _)];simp),if_neg (by rw[hg2];omega)]
 refine⟨hE,?_⟩
 unfold jCb
 rw[if_pos hE,List.length_map,hg2]
/-! sizes -/
def szL (l:List Pc):Nat:=(l.map fun x=>x.s.size).sum
theorem jZN (l:List Pc):bulk l=l.length+szL l:=rfl
theorem jGY (a b:List Pc):szL (a++b)=szL a+szL b:=by unfold szL;rw[List.map_append,List.sum_append]
theorem jEQ (x:Pc)(b:List Pc):szL (x :: b)=x.s.size+szL b:=by unfold szL;rw[List.map_cons,List.sum_cons]
theorem qCe (L:List Pc)(x:Pc):szL (jJj L x)=szL L+x.s.size:=by
 rcases List.eq_nil_or_concat L with rfl | ⟨L0,y,rfl⟩
 ·rw[jVq];simp[szL]
 ·rw[List.concat_eq_append]
  by_cases hk:x.k=1∧y.k=1
  ·rw[jMt hk.1 hk.2,jGY,jGY,jEQ,jEQ]
   simp[szL];omega
  ·rw[jGq hk,jGY,jEQ]
   simp[szL]
theorem qBo:∀ (S L:List Pc),szL (S.foldl jJj L)=szL L+szL S
 | [],L=>by simp[szL]
 | x :: S,L=>by rw[List.foldl_cons,qBo S,qCe,jEQ];omega
theorem jZo (S:List Pc):szL (jBs S)=szL S:=by
 unfold jBs
 rw[qBo]
 simp[szL]
theorem jQW {l:List Pc}(h:jAu l=0):szL (jAh l)=szL l:=by rw[←jZo (jAh l),jKt h]
theorem qBu {s:ByteArray}(h:jDi s=true):s.size≤16:=by
 unfold jDi at h
 simp only[Bool.and_eq_true,decide_eq_true_eq]at h
 exact h.1.1.2
theorem jUX:∀ (op:List ByteArray),(∀s ∈ op,jDi s=true)→(op.map fun s=>s.size).sum≤16*op.length
 | [],_=>by simp
 | s :: op,h=>by
   have h1:=qBu (h s (List.mem_cons_self ..))
   have h2:=jUX op fun q hq=>h q (List.mem_cons_of_mem _ hq)
   rw[List.map_cons,List.sum_cons,List.length_cons]
   omega
theorem jT5 {op:List ByteArray}(h:jHr op):szL (jAt op)≤256:=by
 have h1:=jUX op h.1
 have h2:=h.2
 have e:szL (jAt op)=(op.map fun s=>s.size).sum:=by unfold szL jAt;rw[List.map_map];rfl
 rw[e];omega
theorem jUz {op:List ByteArray}(h:jHr op):szL (jAE op)≤256:=by
 have h1:=jUX op.reverse fun s hs=>h.1 s (List.mem_reverse.1 hs)
 have h2:=h.2
 rw[List.length_reverse]at h1
 have e:szL (jAE op)=(op.reverse.map fun s=>s.size).sum:=by unfold szL jAE;rw[List.map_map];rfl
 rw[e];omega
theorem qBc:∀ (S:List Pc) (at':List Int) (u:Nat) (op:List ByteArray) (acc:List Pc) (a:Pc),chk a op S→jHr op→((jCG at' u op acc S).map szL).sum≤szL acc+szL S+512*at'.length
 | [],at',u,op,acc,a,_,_=>by rw[jD0];simp[szL]
 | x :: S,at',u,op,acc,a,hc,hn=>by
   rw[jDZ]at hc
   obtain⟨g1,g2,op',hf,hc'⟩:=hc
   have ho:=jLk hf
   have hn':=jSC hf g1 hn
   match at' with
   | [] =>
     rw[jD1]
     simp[jGY]
   | p :: r =>
     by_cases hh:(u:Int)=p∧x.k≠3
     ·rw[jBu hh,ho,List.map_cons,List.sum_cons]
      have ih:=qBc S r (jBM u x) op' (jAt op++[x]) x hc' hn'
      have h1:=jT5 hn
      have h2:=jUz hn
      rw[jGY,jEQ]at ih
      rw[jGY,jEQ,List.length_cons]
      have e:szL []=0:=rfl
      omega
     ·rw[jDJ hh,ho]
      have ih:=qBc S (p :: r) (jBM u x) op' (acc++[x]) x hc' hn'
      rw[jGY,jEQ]at ih
      rw[jEQ]
      have e:szL []=0:=rfl
      omega
theorem jED.size {l:List Pc}{at':List Int}(h:jED l at'):((jCG at' 0 [] [] (jAh l)).map szL).sum≤szL l+512*at'.length:=by
 have:=qBc (jAh l) at' 0 [] [] tag0 (jEY h.ok) jRk
 rw[jQW h.ok]at this
 have e:szL []=0:=rfl
 omega
theorem jVp (n:Nat):∀R:List (List Pc),(∀q ∈ R,(jBs q).length≤n)→jCT (R.map jBs)≤n*R.length+(R.map szL).sum
 | [],_=>by simp[jCT]
 | q :: R,h=>by
   have ih:=jVp n R fun r hr=>h r (List.mem_cons_of_mem _ hr)
   have h1:=h q (List.mem_cons_self ..)
   unfold jCT at ih ⊢
   rw[List.map_cons,List.map_cons,List.sum_cons,List.map_cons,List.sum_cons,jZN,jZo,List.length_cons,Nat.mul_succ]
   omega
theorem jZ3 (N:Nat):∀ (S:List Pc) (at':List Int) (u:Nat) (op:List ByteArray) (acc:List Pc) (a:Pc),chk a op S→jHr op→szL acc+szL S≤N→256+szL S≤N→∀q ∈ jCG at' u op acc S,szL q≤N+256
 | [],at',u,op,acc,a,_,_,h1,_,q,hq=>by
   rw[jD0]at hq
   rw[List.mem_singleton.1 hq]
   omega
 | x :: S,at',u,op,acc,a,hc,hn,h1,h2,q,hq=>by
   rw[jDZ]at hc
   obtain⟨g1,g2,op',hf,hc'⟩:=hc
   have ho:=jLk hf
   have hn':=jSC hf g1 hn
   have e:szL []=0:=rfl
   rw[jEQ]at h1 h2
   have stay:∀at'' u',q ∈ jCG at'' u' op' (acc++[x]) S→szL q≤N+256:=fun at'' u' hq' =>
    jZ3 N S at'' u' op' (acc++[x]) x hc' hn' (by rw[jGY,jEQ];omega) (by omega) q hq'
   match at',hq with
   | [],hq =>
     rw[jCG,ho]at hq
     exact stay _ _ hq
   | p :: r,hq =>
     by_cases hh:(u:Int)=p∧x.k≠3
     ·rw[jBu hh,ho]at hq
      rcases List.mem_cons.1 hq with rfl | hq
      ·have h3:=jUz hn
       rw[jGY]
       omega
      ·have h3:=jT5 hn
       exact jZ3 N S r _ op' (jAt op++[x]) x hc' hn' (by rw[jGY,jEQ];omega) (by omega) q hq
     ·rw[jDJ hh,ho]at hq
      exact stay _ _ hq
theorem jED.bulks {l:List Pc}{at':List Int}(h:jED l at'):jCT ((jCG at' 0 [] [] (jAh l)).map jBs)≤bulk l+1024*at'.length+512∧∀q ∈ jCG at' 0 [] [] (jAh l),bulk (jBs q)≤bulk l+1024:=by
 have h1:=jVp 512 _ h.lg
 have h2:=h.size
 have h3:=h.count
 have h4:=jZN l
 refine⟨by rw[h3]at h1;omega,fun q hq=>?_⟩
 have h5:=h.lg q hq
 have h6:=jZ3 (szL l+256) (jAh l) at' 0 [] [] tag0 (jEY h.ok) jRk (by rw[jQW h.ok];simp[szL]) (by rw[jQW h.ok];omega) q hq
 rw[jZN,jZo]
 omega
/-! cut in two steps -/
theorem jUn (d:Int):∀ {r:List Int} {u n:Int},jUy u n r→jUy (u-d) (n-d) (r.map fun p=>p-d)
 | [],_,_,_=>trivial
 | p :: r,u,n,h=>by
   obtain⟨h1,h2,h3⟩:=h
   have ih:=jUn d h3
   refine⟨by show u-d≤p-d;omega,by show p-d<n-d;omega,?_⟩
   rwa [show p+1-d=p-d+1 by omega]at ih
theorem jED.two {l:List Pc}{A B:List Int}{p:Int}(h:jED l (A++p :: B))(h2:jED l [p]) :
 ∃q0 q1,jCG [p] 0 [] [] (jAh l)=[q0,q1]∧jED (jBs q0) A∧jED (jBs q1) (B.map fun b=>b-p) ∧
  (jCG A 0 [] [] (jAh (jBs q0))).map jBs++(jCG (B.map fun b=>b-p) 0 [] [] (jAh (jBs q1))).map jBs=(jCG (A++p :: B) 0 [] [] (jAh l)).map jBs:=by
 obtain⟨o1,o2,o3,o4⟩:=jUL h.pl
 obtain⟨T,S1,e,hs⟩:=jYu (jAh l) 0 p (by omega) (by rw[jG0];omega)
 have hun:=qBX hs
 rw[Nat.zero_add]at hun
 have hfo:=qBb T 0
 rw[Nat.zero_add]at hfo
 have sA:=jHj p B S1 T A 0 [] [] hs (jFX (by omega) o1) (fun b hb=>by have:=jN8 o4 b hb;omega)
 have s2:=jHj p [] S1 T [] 0 [] [] hs trivial (fun b hb=>by cases hb)
 rw[←e,hfo]at sA s2
 rw[List.nil_append,jD1,jD1]at s2
 rw[List.nil_append]at s2
 have hv:=h2.valid
 have ha:=h2.atoms
 have hlg:=h.lg
 rw[s2]at hv ha
 have hm0:T++jAE (T.foldl jAM []) ∈ [T++jAE (T.foldl jAM [])]++[jAt (T.foldl jAM [])++S1]:=by simp
 have hm1:jAt (T.foldl jAM [])++S1 ∈ [T++jAE (T.foldl jAM [])]++[jAt (T.foldl jAM [])++S1]:=by simp
 have a0:=ha _ hm0
 have a1:=ha _ hm1
 have v0:=hv _ hm0
 have v1:=hv _ hm1
 have j0:=(joined _ a0).one
 have j1:=(joined _ a1).one
 have n0:=jTv a0
 have n1:=jTv a1
 have htot:jAW l=unS T+unS S1:=by rw[←jG0,e,jIh]
 rw[jIh,jKK]at n0
 rw[jIh,jSj]at n1
 have hB1:∀q ∈ B.map fun b=>b-p,(1:Int)≤q:=fun q hq=>by
  obtain⟨b,hb,rfl⟩:=List.mem_map.1 hq
  have:=jN8 o4 b hb
  omega
 have hsh:=jQC (unS T) S1 B 0 (T.foldl jAM []) (jAt (T.foldl jAM []))
 rw[Nat.zero_add,hun]at hsh
 have hop:=jRr hB1 S1 (T.foldl jAM []) [] []
 rw[List.nil_append,List.nil_append,hsh]at hop
 refine⟨T++jAE (T.foldl jAM []),jAt (T.foldl jAM [])++S1,s2,⟨v0,?_,fun q hq=>?_⟩,⟨v1,?_,fun q hq=>?_⟩,?_⟩
 ·rw[n0]
  rwa [show ((unS T+0:Nat):Int)=p by omega]
 ·rw[j0]at hq
  exact hlg q (by rw[sA];exact List.mem_append_left _ hq)
 ·rw[n1]
  have:=jUn p o4
  rwa [show p+1-p=1 by omega,show (jAW l:Int)-p=((0+unS S1:Nat):Int) by rw[htot];omega]at this
 ·rw[j1,hop]at hq
  exact hlg q (by rw[sA];exact List.mem_append_right _ hq)
 ·rw[j0,j1,hop,sA,List.map_append]
end Go.Proofs.YtldapapdolkiaaaGreatDoor
namespace Go.Proofs.YtldapapdolkiaaaGreatDoor
open Go Go.RowKit Go.Lib
set_option maxRecDepth 100000
def tgs (S:List Pc):Nat:=(S.map fun x=>if x.k=1 then 0 else 1).sum
theorem jNQ (a b:List Pc):tgs (a++b)=tgs a+tgs b:=by unfold tgs;rw[List.map_append,List.sum_append]
theorem jGU (x:Pc)(b:List Pc):tgs (x :: b)=(if x.k=1 then 0 else 1)+tgs b:=by unfold tgs;rw[List.map_cons,List.sum_cons]
theorem qBZ (L:List Pc)(x:Pc):L.length≤(jJj L x).length∧(x.k≠1→(jJj L x).length=L.length+1)∧(jJj L x).length≤L.length+1:=by
 rcases List.eq_nil_or_concat L with rfl | ⟨L0,y,rfl⟩
 ·rw[jVq];simp
 ·rw[List.concat_eq_append]
  by_cases hk:x.k=1∧y.k=1
  ·rw[jMt hk.1 hk.2]
   refine⟨by simp,fun h=>absurd hk.1 h,by simp⟩
  ·rw[jGq hk]
   simp
theorem qBk:∀ (T L:List Pc),L.length+tgs T≤(T.foldl jJj L).length
 | [],L=>by simp[tgs]
 | x :: T,L=>by
   have ih:=qBk T (jJj L x)
   obtain⟨h1,h2,_⟩:=qBZ L x
   rw[List.foldl_cons,jGU]
   by_cases hk:x.k=1
   ·rw[if_pos hk];omega
   ·rw[if_neg hk];have:=h2 hk;omega
def jJO (L:List Pc):Bool:=match L.getLast? with
 | some y=>decide (y.k=1)
 | none=>false
theorem jHe (L:List Pc)(y:Pc):jJO (L++[y])=decide (y.k=1):=by unfold jJO;rw[List.getLast?_concat]
theorem jVU (L:List Pc)(x:Pc):jJO (jJj L x)=decide (x.k=1):=by
 rcases List.eq_nil_or_concat L with rfl | ⟨L0,y,rfl⟩
 ·rw[jVq];exact jHe [] x
 ·rw[List.concat_eq_append]
  by_cases hk:x.k=1∧y.k=1
  ·rw[jMt hk.1 hk.2,jHe]
   simp[hk.1,hk.2]
  ·rw[jGq hk,jHe]
theorem jT1 (L:List Pc)(x:Pc):(jJj L x).length=L.length+(if x.k=1∧jJO L=true then 0 else 1):=by
 rcases List.eq_nil_or_concat L with rfl | ⟨L0,y,rfl⟩
 ·rw[jVq];simp[jJO]
 ·rw[List.concat_eq_append,jHe]
  by_cases hk:x.k=1∧y.k=1
  ·rw[jMt hk.1 hk.2]
   simp[hk.1,hk.2]
  ·rw[jGq hk]
   rw[if_neg (by simpa using hk)]
   simp
theorem qAp (L:List Pc):tgs L+(if jJO L=true then 1 else 0)≤L.length:=by
 have h0:∀L:List Pc,tgs L≤L.length:=by
  intro L
  induction L with
  | nil=>simp[tgs]
  | cons x L ih=>rw[jGU,List.length_cons];split <;> omega
 rcases List.eq_nil_or_concat L with rfl | ⟨L0,y,rfl⟩
 ·simp[tgs,jJO]
 ·rw[List.concat_eq_append,jHe,jNQ,List.length_append,List.length_singleton,jGU]
  have:=h0 L0
  by_cases hk:y.k=1
  ·simp[hk,tgs];exact this
  ·simp[hk,tgs];exact this
theorem jVR (L:List Pc):∀T:List Pc,tgs L+(jBs T).length≤(T.foldl jJj L).length∧(T.foldl jJj L).length≤L.length+(jBs T).length∧(T≠[]→jJO (T.foldl jJj L)=jJO (jBs T)):=by
 have key:∀ (n:Nat) (T:List Pc),T.length=n→tgs L+(jBs T).length≤(T.foldl jJj L).length∧(T.foldl jJj L).length≤L.length+(jBs T).length∧(T≠[]→jJO (T.foldl jJj L)=jJO (jBs T)):=by
  intro n
  induction n with
  | zero =>
   intro T hT
   obtain rfl:T=[]:=List.eq_nil_of_length_eq_zero hT
   exact⟨by have:=qAp L;show tgs L+0≤_;simp;omega,Nat.le_refl _,fun h=>absurd rfl h⟩
  | succ n ih =>
   intro T' hT'
   obtain⟨T,x,rfl⟩:∃T x,T'=T++[x]:=by
    rcases List.eq_nil_or_concat T' with rfl | ⟨T,x,rfl⟩
    ·cases hT'
    ·exact⟨T,x,List.concat_eq_append⟩
   obtain⟨h1,h2,h3⟩:=ih T (by simpa using hT')
   rw[List.foldl_append,jTA]
   show tgs L+_≤(jJj (T.foldl jJj L) x).length∧(jJj (T.foldl jJj L) x).length≤_∧(_→jJO (jJj (T.foldl jJj L) x)=_)
   rw[jT1,jT1,jVU,jVU]
   by_cases hT:T=[]
   ·subst hT
    have h4:=qAp L
    have e0:jBs []=[]:=rfl
    rw[e0]
    have e1:jJO []=false:=rfl
    rw[e1]
    simp only[List.foldl_nil,List.length_nil]
    have hb:jJO L=true∨jJO L=false:=by cases jJO L <;> simp
    rcases hb with he | he <;> by_cases hk:x.k=1 <;> simp[hk,he]at h4 ⊢ <;> omega
   ·rw[h3 hT]
    refine⟨?_,?_,fun _=>rfl⟩
    ·split <;> omega
    ·split <;> omega
 exact fun T=>key T.length T rfl
theorem qBP (S:List Pc):tgs (jBs S)=tgs S:=by
 have key:∀ (S L:List Pc),tgs (S.foldl jJj L)=tgs L+tgs S:=by
  intro S
  induction S with
  | nil=>intro L;simp[tgs]
  | cons x S ih =>
    intro L
    have e:tgs (jJj L x)=tgs L+tgs [x]:=by
     rcases List.eq_nil_or_concat L with rfl | ⟨L0,y,rfl⟩
     ·rw[jVq];simp[tgs]
     ·rw[List.concat_eq_append]
      by_cases hk:x.k=1∧y.k=1
      ·rw[jMt hk.1 hk.2,jNQ,jNQ]
       simp[tgs,hk.1,hk.2]
      ·rw[jGq hk,jNQ]
    rw[List.foldl_cons,ih,e,jGU x S]
    simp[tgs]
    omega
 rw[jBs,key]
 simp[tgs]
theorem qBQ {S:List Pc}(h:∀x ∈ S,x.k≠1):tgs S=S.length:=by
 induction S with
 | nil=>rfl
 | cons x S ih=>rw[jGU,if_neg (h x (List.mem_cons_self ..)),ih fun y hy=>h y (List.mem_cons_of_mem _ hy),List.length_cons];omega
theorem jOK (op:List ByteArray):(jAt op).length=op.length:=by unfold jAt;simp
theorem jXn (op:List ByteArray):(jAE op).length=op.length:=by unfold jAE;simp
theorem jWI {op op':List ByteArray}{x:Pc}(h:jJF op x=.ok op'):op.length≤op'.length+(if x.k=1 then 0 else 1)∧op'.length≤op.length+(if x.k=1 then 0 else 1):=by
 unfold jJF at h
 split at h
 ·rename_i hk
  split at h
  ·cases h
  ·obtain rfl:=Except.ok.inj h
   rw[if_neg (by omega)]
   simp
   omega
 ·split at h
  ·rename_i hk
   split at h
   ·obtain rfl:=Except.ok.inj h
    rw[if_neg (by omega)]
    simp
    omega
   ·cases h
  ·obtain rfl:=Except.ok.inj h
   split <;> omega
theorem jXu:∀ (S:List Pc) (a:Pc) (op:List ByteArray),chk a op S→op.length≤tgs S
 | [],a,op,h=>by rw[jUN]at h;subst h;simp
 | x :: S,a,op,h=>by
   rw[jDZ]at h
   obtain⟨_,_,op',hf,hc⟩:=h
   have:=jXu S x op' hc
   have:=(jWI hf).1
   rw[jGU]
   omega
theorem jZ4 (N:Nat):∀ (S:List Pc) (at':List Int) (u:Nat) (op:List ByteArray) (acc:List Pc) (a:Pc),chk a op S→op.length≤tgs acc→(jBs (acc++S)).length≤N→∀q ∈ jCG at' u op acc S,(jBs q).length≤N
 | [],at',u,op,acc,a,_,_,hN,q,hq=>by
   rw[jD0]at hq
   rw[List.mem_singleton.1 hq]
   rwa [List.append_nil]at hN
 | x :: S,at',u,op,acc,a,hc,hd,hN,q,hq=>by
   have hdep:=jXu _ _ _ hc
   rw[jDZ]at hc
   obtain⟨g1,g2,op',hf,hc'⟩:=hc
   have ho:=jLk hf
   have hfd:=(jWI hf).2
   have stay:∀at'' u',q ∈ jCG at'' u' op' (acc++[x]) S→(jBs q).length≤N:=fun at'' u' hq' =>
    jZ4 N S at'' u' op' (acc++[x]) x hc' (by rw[jNQ,jGU];omega) (by rw[List.append_assoc];exact hN) q hq'
   match at',hq with
   | [],hq =>
     rw[jCG,ho]at hq
     exact stay _ _ hq
   | p :: r,hq =>
     by_cases hh:(u:Int)=p∧x.k≠3
     ·rw[jBu hh,ho]at hq
      rcases List.mem_cons.1 hq with rfl | hq
      ·rw[jOW,List.length_append,jXn]
       have h1:=qBk (x :: S) (jBs acc)
       rw[←jMy]at h1
       omega
      ·refine jZ4 N S r _ op' (jAt op++[x]) x hc' ?_ ?_ q hq
       ·rw[jNQ,jGU,qBQ fun y hy=>by rw[(jDD op y hy).1];decide,jOK]
        omega
       ·rw[List.append_assoc,jMy]
        show ((x :: S).foldl jJj (jBs (jAt op))).length≤N
        have h1:=(jVR (jBs (jAt op)) (x :: S)).2.1
        have h2:=(jVR (jBs acc) (x :: S)).1
        rw[←jMy acc (x :: S),qBP]at h2
        rw[jIn,jOK]at h1
        rw[jIn]
        omega
     ·rw[jDJ hh,ho]at hq
      exact stay _ _ hq
theorem qCd {l:List Pc}{at':List Int}(h:jAu l=0)(hp:jUy 1 (jAW l) at'):jED l at' :=
 ⟨h,hp,fun q hq=>Nat.le_trans (jZ4 l.length (jAh l) at' 0 [] [] tag0 (jEY h) (by simp[tgs]) (by rw[List.nil_append,jKt h];exact Nat.le_refl _) q hq) (qAo h).1⟩
/-! two parts side by side -/
theorem qBv:∀ (S:List Pc) (B:List Int) (u:Nat) (op:List ByteArray),∃f Y,(∀y ∈ f,y ∈ S∨y.k=3)∧∀acc,jCG B u op acc S=(acc++f) :: Y
 | [],B,u,op=>⟨[],[],(fun y hy=>by cases hy),fun acc=>by rw[jD0,List.append_nil]⟩
 | x :: S,[],u,op=>⟨x :: S,[],fun y hy=>.inl hy,fun acc=>jD1 u op acc (x :: S)⟩
 | x :: S,p :: r,u,op=>by
   by_cases hh:(u:Int)=p∧x.k≠3
   ·exact⟨jAE op,jCG r (jBM u x) (jAM op x) (jAt op++[x]) S,fun y hy=>.inr (jDf op y hy).1,fun acc=>jBu hh⟩
   ·obtain⟨f,Y,h0,h⟩:=qBv S (p :: r) (jBM u x) (jAM op x)
    refine⟨x :: f,Y,fun y hy=>?_,fun acc=>by rw[jDJ hh,h,List.append_assoc];rfl⟩
    rcases List.mem_cons.1 hy with rfl | hy
    ·exact .inl (List.mem_cons_self ..)
    ·exact (h0 y hy).imp (List.mem_cons_of_mem _) id
theorem jZR {last acc T:List Pc}{y:Pc}(h:∀z ∈ last,z ∈ acc++[y]∨z ∈ T∨z.k=2):∀z ∈ last,z ∈ acc∨z ∈ y :: T∨z.k=2:=by
 intro z hz
 rcases h z hz with h1 | h1 | h1
 ·rcases List.mem_append.1 h1 with h2 | h2
  ·exact .inl h2
  ·rw[List.mem_singleton.1 h2];exact .inr (.inl (List.mem_cons_self ..))
 ·exact .inr (.inl (List.mem_cons_of_mem _ h1))
 ·exact .inr (.inr h1)
theorem qBV:∀ (T:List Pc) (a:Pc) (op:List ByteArray) (x:Pc) (S:List Pc),chk a op (T++x :: S)→(ccB a=true→ccB x=true)∧∀y ∈ T,ccB y=true→ccB x=true
 | [],a,op,x,S,h=>by
   rw[List.nil_append,jDZ]at h
   exact⟨fun ha=>jOE h.2.1 ha,fun y hy=>by cases hy⟩
 | t :: T,a,op,x,S,h=>by
   rw[List.cons_append,jDZ]at h
   obtain⟨_,g2,op',_,hc⟩:=h
   obtain⟨i1,i2⟩:=qBV T t op' x S hc
   refine⟨fun ha=>i1 (jOE g2 ha),fun y hy hcc=>?_⟩
   rcases List.mem_cons.1 hy with rfl | hy
   ·exact i1 hcc
   ·exact i2 y hy hcc
theorem qBT:∀ (S:List Pc) (a:Pc) (op:List ByteArray),chk a op S→coB a=false→∀y ∈ S,coB y=false
 | x :: S,a,op,h,ha,y,hy=>by
   rw[jDZ]at h
   obtain⟨_,g2,op',_,hc⟩:=h
   have hx:=jIt g2 ha
   rcases List.mem_cons.1 hy with rfl | hy
   ·exact hx
   ·exact qBT S x op' hc hx y hy
theorem qAA:∀ (T:List Pc) (a:Pc) (op:List ByteArray) (S:List Pc),chk a op (T++S)→0<unS T→∀y ∈ S,coB y=false
 | [],a,op,S,h,hu=>by simp[unS]at hu
 | t :: T,a,op,S,h,hu=>by
   rw[List.cons_append,jDZ]at h
   obtain⟨_,_,op',_,hc⟩:=h
   rw[jEN]at hu
   by_cases h0:uc t=0
   ·exact qAA T t op' S hc (by omega)
   ·intro y hy
    exact qBT (T++S) t op' hc (jZg h0) y (List.mem_append_right _ hy)
theorem jI8 (p:Int)(B:List Int)(S1:List Pc):∀ (T:List Pc) (A:List Int) (u:Nat) (op:List ByteArray) (acc:List Pc),((u+unS T:Nat):Int)=p→jUy u p A→(∀b ∈ B,p≤b)→sp p u T S1 →
  ∃X last,(∀y ∈ last,y ∈ acc∨y ∈ T∨y.k=2)∧(∀Z,(∀z ∈ Z,z.k=3)→jCG A u op acc (T++Z)=X++[last++Z])∧jCG (A++B) u op acc (T++S1)=X++jCG B (u+unS T) (T.foldl jAM op) last S1
 | [],A,u,op,acc,hu,hA,hB,hs=>by
   have hA0:A=[]:=by
    cases A with
    | nil=>rfl
    | cons a A=>have h1:=hA.1;have h2:=hA.2.1;simp[unS]at hu;omega
   subst hA0
   exact⟨[],acc,fun y hy=>.inl hy,fun Z _=>by rw[List.nil_append,jD1];rfl,by simp[unS]⟩
 | y :: T,A,u,op,acc,hu,hA,hB,hs=>by
   obtain⟨h1,h2⟩:=hs
   have huc:uc y≤1:=by unfold uc;split <;> omega
   rw[jEN]at hu
   have hu':((jBM u y+unS T:Nat):Int)=p:=by rw[jH6];omega
   have eu:u+unS (y :: T)=jBM u y+unS T:=by rw[jEN,jH6];omega
   rw[eu]
   match A,hA with
   | [],_ =>
     obtain⟨X,last,i0,i1,i2⟩:=jI8 p B S1 T [] (jBM u y) (jAM op y) (acc++[y]) hu' trivial hB h2
     refine⟨X,last,jZR i0,fun Z hZ=>?_,?_⟩
     ·rw[List.cons_append,jCG];exact i1 Z hZ
     ·show jCG B u op acc (y :: (T++S1))=_
      rw[show jCG B u op acc (y :: (T++S1))=jCG B (jBM u y) (jAM op y) (acc++[y]) (T++S1) from ?_]
      ·exact i2
      ·cases B with
       | nil=>rw[jCG]
       | cons b B =>
         rw[jDJ]
         rintro ⟨e1,e2⟩
         have:=hB b (List.mem_cons_self ..)
         exact h1 ⟨by omega,e2⟩
   | a :: A,hA =>
     obtain⟨a1,a2,a3⟩:=hA
     by_cases hh:(u:Int)=a∧y.k≠3
     ·obtain⟨X,last,i0,i1,i2⟩:=jI8 p B S1 T A (jBM u y) (jAM op y) (jAt op++[y]) hu' (jFX (by rw[jH6];omega) a3) hB h2
      refine⟨(acc++jAE op) :: X,last,fun z hz=>?_,fun Z hZ=>?_,?_⟩
      ·rcases jZR i0 z hz with h | h | h
       ·exact .inr (.inr (jDD op z h).1)
       ·exact .inr (.inl h)
       ·exact .inr (.inr h)
      ·rw[List.cons_append,jBu hh,i1 Z hZ];rfl
      ·show jCG (a :: (A++B)) u op acc (y :: (T++S1))=_
       rw[jBu hh,i2];rfl
     ·obtain⟨X,last,i0,i1,i2⟩:=jI8 p B S1 T (a :: A) (jBM u y) (jAM op y) (acc++[y]) hu' (by
       refine⟨?_,a2,a3⟩
       rw[jH6]
       by_cases h0:uc y=0
       ·omega
       ·have hk:y.k≠3:=by
         unfold uc at h0
         split at h0
         ·omega
         ·exact absurd rfl h0
        have:¬(u:Int)=a:=fun e=>hh ⟨e,hk⟩
        omega) hB h2
      refine⟨X,last,jZR i0,fun Z hZ=>?_,?_⟩
      ·rw[List.cons_append,jDJ hh];exact i1 Z hZ
      ·show jCG (a :: (A++B)) u op acc (y :: (T++S1))=_
       rw[jDJ hh]
       exact i2
theorem qBR {p:Int}{S:List Pc}:∀ {T:List Pc} {u:Nat},sp p u T S→True∧∃x S',S=x :: S'∧x.k≠3
 | [],_,h=>⟨trivial,h.2⟩
 | _ :: _,_,h=>qBR h.2
theorem jED.merge {l:List Pc}{A B:List Int}{p:Int}(h:jED l (A++p :: B)) :
 ∃X last o f Y,jCG (A++p :: B) 0 [] [] (jAh l)=X++[last++jAE o,jAt o++f]++Y∧jCG (A++B) 0 [] [] (jAh l)=X++[last++f]++Y∧X.length=A.length∧(∀y ∈ last,ccB y=false)∧∀y ∈ f,coB y=false:=by
 obtain⟨o1,o2,o3,o4⟩:=jUL h.pl
 obtain⟨T,S1,e,hs⟩:=jYu (jAh l) 0 p (by omega) (by rw[jG0];omega)
 have hun:=qBX hs
 have hB1:∀b ∈ B,p≤b:=fun b hb=>by have:=jN8 o4 b hb;omega
 obtain⟨X,last,i0,i1,i2⟩:=jI8 p B S1 T A 0 [] [] hun (jFX (by omega) o1) hB1 hs
 have sA:=jHj p B S1 T A 0 [] [] hs (jFX (by omega) o1) (fun b hb=>by have:=jN8 o4 b hb;omega)
 obtain⟨f,Y,hf0,hf⟩:=qBv S1 B (0+unS T) (T.foldl jAM [])
 have hfo:=qBb T 0
 rw[i1 _ (fun z hz=>(jDf _ z hz).1),hfo,hf]at sA
 rw[hf]at i2
 rw[←e]at sA i2
 have hc:=h.count
 have hcA:=(jMu (T++jAE (T.foldl jAM [])) A 0 [] [] (by
  rw[jIh,jKK]
  rw[Nat.zero_add]at hun
  rw[show ((0+(unS T+0):Nat):Int)=p by omega]
  exact jFX (by omega) o1)).1
 rw[i1 _ (fun z hz=>(jDf _ z hz).1),List.length_append,List.length_singleton]at hcA
 refine⟨X,last,T.foldl jAM [],f,Y,by rw[sA];simp,by rw[i2];simp,by omega,fun y hy=>?_,fun y hy=>?_⟩
 ·have hch:=jEY h.ok
  rw[e]at hch
  obtain⟨_,x,S',rfl,hx⟩:=qBR hs
  rcases i0 y hy with h1 | h1 | h1
  ·cases h1
  ·cases hq:ccB y
   ·rfl
   ·have:=(qBV T tag0 [] x S' hch).2 y h1 hq
    rw[jXs hx]at this
    cases this
  ·exact jXs (by omega)
 ·have hch:=jEY h.ok
  rw[e]at hch
  rcases hf0 y hy with h1 | h1
  ·exact qAA T tag0 [] S1 hch (by omega) y h1
  ·exact qB3 (by omega)
theorem jX3:∀ {A:List Int} {p u n:Int} {B:List Int},jUy u n (A++p :: B)→jUy u n (A++B)
 | [],p,u,n,B,h=>jFX (by have:=h.1;omega) h.2.2
 | a :: A,p,u,n,B,h=>⟨h.1,h.2.1,jX3 h.2.2⟩
theorem jED.glue2 {l:List Pc}{A B:List Int}{p:Int}(h:jED l (A++p :: B)) :
 jED l (A++B)∧∃X q0 q1 q Y,jCG (A++p :: B) 0 [] [] (jAh l)=X++[q0,q1]++Y∧jCG (A++B) 0 [] [] (jAh l)=X++[q]++Y∧X.length=A.length ∧
  jCA [jBs q0,jBs q1]=0∧jCb [jBs q0,jBs q1]=jBs q:=by
 have h2:jED l (A++B):=qCd h.ok (jX3 h.pl)
 refine⟨h2,?_⟩
 obtain⟨X,last,o,f,Y,e1,e2,hX,hcc,hco⟩:=h.merge
 have hv:=h.valid
 have ha:=h.atoms
 have hf:=jP8 (jAh l) (A++p :: B) 0 [] [] tag0 (jEY h.ok) (fun h=>absurd h (by omega)) (jYa h.pl) (fun y hy=>by cases hy)
 rw[e1]at hv ha hf
 have m0:last++jAE o ∈ X++[last++jAE o,jAt o++f]++Y:=by simp
 have m1:jAt o++f ∈ X++[last++jAE o,jAt o++f]++Y:=by simp
 have hf2:=hf X.length (by simp)
 have g0:(X++[last++jAE o,jAt o++f]++Y).getD X.length []=last++jAE o:=by
  rw[List.append_assoc,List.getD_eq_getElem?_getD,List.getElem?_append_right (Nat.le_refl _),Nat.sub_self];rfl
 have g1:(X++[last++jAE o,jAt o++f]++Y).getD (X.length+1) []=jAt o++f:=by
  rw[List.append_assoc,List.getD_eq_getElem?_getD,List.getElem?_append_right (by omega),show X.length+1-X.length=1 by omega];rfl
 rw[g0,g1]at hf2
 have hlg:(jBs (last++f)).length≤512:=h2.lg _ (by rw[e2];simp)
 have hR:∀r ∈ [last++jAE o,jAt o++f],∀x ∈ r,jGd x:=fun r hr=>by
  rcases List.mem_cons.1 hr with rfl | hr
  ·exact ha _ m0
  ·rw[List.mem_singleton.1 hr];exact ha _ m1
 have hg:=jVe hR 2 (Nat.le_refl _)
 have k0:jDP 2 0 (last++jAE o)=last:=by
  unfold jDP
  rw[List.filter_append,List.filter_eq_self.2,List.filter_eq_nil_iff.2,List.append_nil]
  ·intro y hy
   obtain⟨c1,c2⟩:=jDf o y hy
   unfold jDa ccB
   rw[c1,c2]
   simp
  ·intro y hy
   unfold jDa
   rw[hcc y hy]
   simp
 have k1:jDP 2 1 (jAt o++f)=f:=by
  unfold jDP
  rw[List.filter_append,List.filter_eq_nil_iff.2,List.nil_append,List.filter_eq_self.2]
  ·intro y hy
   unfold jDa
   rw[hco y hy]
   simp
  ·intro y hy
   obtain⟨c1,c2⟩:=jDD o y hy
   unfold jDa coB
   rw[c1,c2]
   simp
 have hg2:gTo [jBs (last++jAE o),jBs (jAt o++f)] 2=jBs (last++f):=by
  have e:jPl [last++jAE o,jAt o++f] 2=last++f:=by
   show []++jDP 2 0 (last++jAE o)++jDP 2 1 (jAt o++f)=_
   rw[k0,k1]
   rfl
  rw[e]at hg
  exact hg
 have hE:jCA [jBs (last++jAE o),jBs (jAt o++f)]=0:=by
  have v0:=hv _ m0
  have v1:=hv _ m1
  have hc:jBA [jBs (last++jAE o),jBs (jAt o++f)] 2=0:=by
   show (if (if (0:Int)≠0 then 0 else jAu (jBs (last++jAE o)))≠0 then _ else jAu (jBs (jAt o++f)))=0
   have c1:(if (0:Int)≠0 then (0:Int) else jAu (jBs (last++jAE o)))=0:=by
    rw[if_neg (by simp)];exact v0
   rw[c1,if_neg (by simp)]
   exact v1
  have jYL:jEI [jBs (last++jAE o),jBs (jAt o++f)] 1=true:=by
   show (true && jUH (jBs (last++jAE o)) (jBs (jAt o++f)))=true
   unfold jUH
   rw[(jM1 _).1,(jM1 _).2]
   simpa using hf2
  unfold jCA
  rw[if_neg (by simp),if_neg (by show jBA _ 2≠0→False;rw[hc];simp),if_neg (by show jEI _ 1=false→False;rw[jYL];simp),if_neg (by show 512<(gTo _ 2).length→False;rw[hg2];omega)]
 refine⟨X,_,_,_,Y,e1,e2,hX,hE,?_⟩
 unfold jCb
 rw[if_pos hE]
 exact hg2
end Go.Proofs.YtldapapdolkiaaaGreatDoor
