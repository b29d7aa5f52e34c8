/- Written forms as data: the tokens of a text, the pieces that they make, and that reading and writing undo each other. No run of any program here. Written forms as data, second part: the pieces of a text, step by step, as a reader goes through it. No run of any program here. The joiner: texts and pieces put one behind the other, as the program does it. Drawn regions: what the loads read is asked only till the last operation that waits for them has come up (so that the region's own stores may write it). A joiner and a list to which pieces are added, on both sides (parts of the texts about words). -/
import Derived.Test.YtldapapdolkiaaaGreatDoorDpA
import Derived.Lib.TrimAscii
import Derived.Lib.Bytealg
import Derived.Test.YtldapapdolkiaaaGreatDoorDpB
import Derived.Laws.BytesString
import Derived.Deep.AppendLies
import Derived.Deep.RegionLaw
import Derived.Deep.RegionHeld3
import Derived.Test.YtldapapdolkiaaaGreatDoorDqA
import Derived.StillTailTactics
namespace Go.Proofs.YtldapapdolkiaaaGreatDoor
set_option maxHeartbeats 64000000
open Go Go.Lib
def jQN (l:List UInt8):Bool:=validD l && (jBy l.length l).all fun r=>!ctl r
theorem jGA (s:ByteArray):jBK s=jQN s.data.toList:=rfl
theorem jFE:∀ (n m:Nat) (l:List UInt8),l.length≤n→l.length≤m→jBy n l=jBy m l
 | 0,m,l,hn,_=>by
   have:l=[]:=List.eq_nil_of_length_eq_zero (by omega)
   subst this
   cases m <;> simp[jBy]
 | n+1,0,l,_,hm=>by
   have:l=[]:=List.eq_nil_of_length_eq_zero (by omega)
   subst this
   simp[jBy]
 | n+1,m+1,l,hn,hm=>by
   unfold jBy
   by_cases hne:l=[]
   ·simp[hne]
   ·have hw:=decodeL_width l
    have hl:0<l.length:=List.length_pos_iff.2 hne
    rw[if_neg hne,if_neg hne,jFE n m (l.drop (decodeL l).2) (by rw[List.length_drop];omega) (by rw[List.length_drop];omega)]
theorem qBn:jQN []=true:=rfl
theorem jKj (l:List UInt8)(hne:l≠[]):jQN l=(!(decide ((decodeL l).1=65533∧(decodeL l).2=1)) && !ctl (decodeL l).1 && jQN (l.drop (decodeL l).2)):=by
 have hl:0<l.length:=List.length_pos_iff.2 hne
 have hw:=decodeL_width l
 obtain⟨n,hn⟩:∃n,l.length=n+1:=⟨l.length-1,by omega⟩
 unfold jQN
 rw[validD_step l hne,hn]
 simp only[jBy,if_neg hne,List.all_cons]
 rw[jFE n (l.drop (decodeL l).2).length _ (by rw[List.length_drop];omega) (Nat.le_refl _)]
 by_cases h:(decodeL l).1=65533∧(decodeL l).2=1
 ·simp[h]
 ·rw[if_neg h]
  simp only[h,decide_false,Bool.not_false,Bool.true_and]
  cases validD (List.drop (decodeL l).2 l) <;> cases ctl (decodeL l).1 <;> simp
theorem jRh (n b0 b1 b2 b3:Nat)(hn:1≤n):(decodeN n b0 b1 b2 b3).2≤n:=by
 unfold decodeN
 repeat' split
 all_goals (simp only[];omega)
theorem jGJ (l:List UInt8)(hne:l≠[]):(decodeL l).2≤l.length:=by
 rw[decodeL_N]
 exact jRh _ _ _ _ _ (List.length_pos_iff.2 hne)
def jE1 (c:UInt8):Prop:=c.toNat<128∧ctl c.toNat=false
/-! ### marks -/
theorem jJr {s:ByteArray}(h:jDi s=true):(∃a n,s.data.toList=a :: n∧isL (a.toNat:Int)=true)∧(∀b ∈ s.data.toList,isT (b.toNat:Int)=true)∧1≤s.size∧s.size≤16:=by
 unfold jDi at h
 simp only[Bool.and_eq_true,decide_eq_true_eq]at h
 obtain⟨⟨⟨h1,h2⟩,h3⟩,h4⟩:=h
 unfold jYz at h4
 rw[List.all_eq_true]at h4
 refine⟨?_,h4,h1,h2⟩
 have e:s.data.toList.length=s.size:=rfl
 have hg:s.get! 0=s.data.toList.getD 0 0:=by
  show s.data[0]! = _
  rw[getElem!_pos s.data 0 (by show 0<s.size;omega),List.getD_eq_getElem?_getD,List.getElem?_eq_getElem (by omega)]
  simp
 rw[hg]at h3
 cases hl:s.data.toList with
 | nil=>rw[hl]at e;simp at e;omega
 | cons a n=>rw[hl]at h3;exact⟨a,n,rfl,by simpa using h3⟩
def Mk (x:Pc)(s:List UInt8):Prop:=x.k≠1∧jA8 x=0∧s=wB x
theorem Mk.kinds {x:Pc}{s:List UInt8}(h:Mk x s):jDi x.s=true∧s=jHV x.k x.c++x.s.data.toList++jIi x.k ∧
 ((x.k=2∧jHV x.k x.c=(if x.c then [60,43] else [60])∧jIi x.k=[62])∨(x.k=3∧jHV x.k x.c=(if x.c then [60,47,43] else [60,47])∧jIi x.k=[62])∨(x.k=4∧x.c=false∧jHV x.k x.c=[60]∧jIi x.k=[47,62])∨(x.k=5∧x.c=false∧jHV x.k x.c=[123]∧jIi x.k=[125])):=by
 obtain⟨h1,h2,h3⟩:=h
 unfold wB at h3
 rw[if_neg h1]at h3
 unfold jA8 at h2
 split at h2
 ·omega
 ·rename_i hk
  split at h2
  ·omega
  ·rename_i hc
   split at h2
   ·rename_i hn
    refine⟨hn,h3,?_⟩
    have hk4:x.k=2∨x.k=3∨x.k=4∨x.k=5:=by omega
    rcases hk4 with e | e | e | e
    ·left;refine⟨e,?_,?_⟩ <;> (try unfold jHV) <;> (try unfold jIi) <;> rw[e] <;> cases x.c <;> simp
    ·right;left;refine⟨e,?_,?_⟩ <;> (try unfold jHV) <;> (try unfold jIi) <;> rw[e] <;> cases x.c <;> simp
    ·have:x.c=false:=by
      cases hx:x.c
      ·rfl
      ·exact absurd ⟨hx,by omega,by omega⟩ hc
     right;right;left;refine⟨e,this,?_,?_⟩ <;> (try unfold jHV) <;> (try unfold jIi) <;> rw[e] <;> (try rw[this]) <;> simp
    ·have:x.c=false:=by
      cases hx:x.c
      ·rfl
      ·exact absurd ⟨hx,by omega,by omega⟩ hc
     right;right;right;refine⟨e,this,?_,?_⟩ <;> (try unfold jHV) <;> (try unfold jIi) <;> rw[e] <;> (try rw[this]) <;> simp
   ·omega
def jJd (s:List UInt8):Pc :=
 if s.getD 0 0=123 then ⟨5,bytes (s.drop 1).dropLast,false⟩
 else if s.getD 1 0=47 then (if s.getD 2 0=43 then ⟨3,bytes (s.drop 3).dropLast,true⟩ else ⟨3,bytes (s.drop 2).dropLast,false⟩)
 else if s.getD 1 0=43 then ⟨2,bytes (s.drop 2).dropLast,true⟩
 else if (s.drop 1).dropLast.getLast? = some 47 then ⟨4,bytes (s.drop 1).dropLast.dropLast,false⟩ else ⟨2,bytes (s.drop 1).dropLast,false⟩
theorem u8ne {a:UInt8}{n:Nat}(hn:n<256)(h:isT (a.toNat:Int)=true)(hx:isT (n:Int)=false):a≠UInt8.ofNat n:=by
 rintro rfl
 rw[UInt8.toNat_ofNat_of_lt' (by omega)]at h
 rw[h]at hx;cases hx
theorem jTI {c:Int}(h:isL c=true):isT c=true:=by unfold isT;rw[h];rfl
theorem jNa {x:Pc}{s:List UInt8}(h:Mk x s):jJd s=x:=by
 obtain⟨hn,hs,hk⟩:=h.kinds
 obtain⟨⟨a,n,ha,hl⟩,jDY,_,_⟩:=jJr hn
 have a47:a≠47:=u8ne (n:=47) (by decide) (jTI hl) (by decide)
 have a43:a≠43:=u8ne (n:=43) (by decide) (jTI hl) (by decide)
 obtain⟨k,nm,c⟩:=x
 simp only at hk hs ha jDY ⊢
 have hb:bytes (a :: n)=nm:=by rw[←ha];rfl
 have last:(a :: n).getLast?≠some 47:=by
  intro e
  have:=List.mem_of_getLast? e
  rw[←ha]at this
  have:=jDY _ this
  revert this;decide
 rw[ha]at hs
 have d1:∀ (p:UInt8) (l:List UInt8),(p :: l).drop 1=l:=fun _ _=>rfl
 have d2:∀ (p q:UInt8) (l:List UInt8),(p :: q :: l).drop 2=l:=fun _ _ _=>rfl
 have d3:∀ (p q r:UInt8) (l:List UInt8),(p :: q :: r :: l).drop 3=l:=fun _ _ _ _=>rfl
 have g0:∀z,((a :: n)++[z]).getD 0 0=a:=fun _=>rfl
 have n1:(60:UInt8)≠123:=by decide
 have n2:(43:UInt8)≠47:=by decide
 rcases hk with ⟨rfl,h1,h2⟩ | ⟨rfl,h1,h2⟩ | ⟨rfl,rfl,h1,h2⟩ | ⟨rfl,rfl,h1,h2⟩
 ·rw[h1,h2]at hs
  cases c
  ·have e:s=60 :: ((a :: n)++[62]):=hs
   subst e
   unfold jJd
   simp only[d1,List.getD_cons_zero,List.getD_cons_succ,g0,n1,a47,a43,if_false,List.dropLast_concat,last,hb]
  ·have e:s=60 :: 43 :: ((a :: n)++[62]):=hs
   subst e
   unfold jJd
   simp only[d2,List.getD_cons_zero,List.getD_cons_succ,n1,n2,if_false,if_true,List.dropLast_concat,hb]
 ·rw[h1,h2]at hs
  cases c
  ·have e:s=60 :: 47 :: ((a :: n)++[62]):=hs
   subst e
   unfold jJd
   simp only[d2,List.getD_cons_zero,List.getD_cons_succ,g0,n1,a43,if_false,if_true,List.dropLast_concat,hb]
  ·have e:s=60 :: 47 :: 43 :: ((a :: n)++[62]):=hs
   subst e
   unfold jJd
   simp only[d3,List.getD_cons_zero,List.getD_cons_succ,n1,if_false,if_true,List.dropLast_concat,hb]
 ·rw[h1,h2]at hs
  have e:s=60 :: (((a :: n)++[47])++[62]):=by rw[hs];simp
  have g1:(((a :: n)++[47])++[62]).getD 0 0=a:=rfl
  subst e
  unfold jJd
  simp only[d1,List.getD_cons_zero,List.getD_cons_succ,g1,n1,a47,a43,if_false,List.dropLast_concat,List.getLast?_concat,if_true,hb]
 ·rw[h1,h2]at hs
  have e:s=123 :: ((a :: n)++[125]):=hs
  subst e
  unfold jJd
  simp only[d1,List.getD_cons_zero,if_true,List.dropLast_concat,hb]
theorem Mk.uniq {x y:Pc}{s:List UInt8}(h:Mk x s)(h':Mk y s):x=y:=(jNa h).symm.trans (jNa h')
open Classical in
noncomputable def jKk (s:List UInt8):Option Pc:=if h:∃x,Mk x s then some h.choose else none
theorem jTQ {x:Pc}{s:List UInt8}(h:Mk x s):jKk s=some x:=by
 unfold jKk
 have he:∃x,Mk x s:=⟨x,h⟩
 rw[dif_pos he]
 exact congrArg some (he.choose_spec.uniq h)
end Go.Proofs.YtldapapdolkiaaaGreatDoor
namespace Go.Proofs.YtldapapdolkiaaaGreatDoor
set_option maxHeartbeats 64000000
open Go Go.Lib
abbrev Tok:=UInt8 ⊕ Pc
def jI1 (c:UInt8):UInt8:=if c=60 then 62 else 125
theorem jD5 {l:List UInt8}{j:Nat}(c:UInt8):((c :: l).drop (j+1)).length≤l.length:=by simp
noncomputable def jFr:Nat→List UInt8→Option (List Tok)
 | _,[]=>some []
 | 0,_ :: _=>none
 | n+1,c :: r =>
   if c=92 then (if special (r.getD 0 0) then (jFr n (r.drop 1)).map (.inl (r.getD 0 0) :: ·) else none)
   else if c=60∨c=123 then
    (if indexByte (c :: r) (jI1 c)=-1 then none else
      match jKk ((c :: r).take ((indexByte (c :: r) (jI1 c)).toNat+1)) with
      | none=>none
      | some x=>(jFr n ((c :: r).drop ((indexByte (c :: r) (jI1 c)).toNat+1))).map (.inr x :: ·))
   else (jFr n r).map (.inl c :: ·)
theorem jFj:∀ (n m:Nat) (l:List UInt8),l.length≤n→l.length≤m→jFr n l=jFr m l
 | 0,m,[],_,_=>by cases m <;> rfl
 | n+1,0,[],_,_=>rfl
 | n+1,m+1,[],_,_=>rfl
 | n+1,m+1,c :: r,hn,hm=>by
   simp only[List.length_cons]at hn hm
   unfold jFr
   rw[jFj n m (r.drop 1) (by rw[List.length_drop];omega) (by rw[List.length_drop];omega),jFj n m r (by omega) (by omega)]
   have h:∀j,jFr n ((c :: r).drop (j+1))=jFr m ((c :: r).drop (j+1)):=fun j=>jFj n m _ (by have:=jD5 (l:=r) (j:=j) c;omega) (by have:=jD5 (l:=r) (j:=j) c;omega)
   rw[h]
noncomputable def toks (l:List UInt8):Option (List Tok):=jFr l.length l
theorem jOR:toks []=some []:=rfl
theorem jTC {n:Nat}{l:List UInt8}(h:l.length≤n):jFr n l=toks l:=jFj _ _ _ h (Nat.le_refl _)
theorem jNG {c:UInt8}(h:special c=false):c≠92∧c≠60∧c≠123:=by
 refine⟨?_,?_,?_⟩ <;> rintro rfl <;> revert h <;> decide
theorem jQs {c:UInt8}(r:List UInt8)(h:special c=false):toks (c :: r)=(toks r).map (.inl c :: ·):=by
 obtain⟨h1,h2,h3⟩:=jNG h
 unfold toks
 simp only[List.length_cons,jFr]
 rw[if_neg h1,if_neg (by rintro (h | h) <;> contradiction)]
theorem jVL {d:UInt8}(r:List UInt8)(h:special d=true):toks (92 :: d :: r)=(toks r).map (.inl d :: ·):=by
 show jFr (r.length+1+1) (92 :: d :: r)=_
 rw[jFr,if_pos rfl]
 simp only[List.getD_cons_zero,h,if_true,List.drop_succ_cons,List.drop_zero]
 rw[jTC (by omega)]
theorem jM5 {c:UInt8}{r:List UInt8}{j:Nat}{x:Pc}(hc:c=60∨c=123)(hj:indexByte (c :: r) (jI1 c)=(j:Int))(hx:jKk ((c :: r).take (j+1))=some x):toks (c :: r)=(toks ((c :: r).drop (j+1))).map (.inr x :: ·):=by
 unfold toks
 simp only[List.length_cons,jFr]
 rw[if_neg (by rcases hc with rfl | rfl <;> decide),if_pos hc,if_neg (by rw[hj];omega),hj]
 simp only[Int.toNat_natCast,hx]
 rw[jTC (jD5 c)]
 rfl
theorem jLs {c:UInt8}{r:List UInt8}{j:Nat}(hc:c=60∨c=123)(hj:indexByte (c :: r) (jI1 c)=(j:Int))(hx:jKk ((c :: r).take (j+1))=none):toks (c :: r)=none:=by
 unfold toks
 simp only[List.length_cons,jFr]
 rw[if_neg (by rcases hc with rfl | rfl <;> decide),if_pos hc,if_neg (by rw[hj];omega),hj]
 simp only[Int.toNat_natCast,hx]
theorem jKQ {c:UInt8}{r:List UInt8}(hc:c=60∨c=123)(hj:indexByte (c :: r) (jI1 c)=-1):toks (c :: r)=none:=by
 unfold toks
 simp only[List.length_cons,jFr]
 rw[if_neg (by rcases hc with rfl | rfl <;> decide),if_pos hc,if_pos hj]
/-! ### what tokens make -/
def flush (t:List UInt8):List Pc:=if t=[] then [] else [⟨1,bytes t,false⟩]
def jOB:List UInt8→List Tok→List Pc
 | t,[]=>flush t
 | t,.inl b :: ts=>jOB (t++[b]) ts
 | t,.inr x :: ts=>flush t++x :: jOB [] ts
noncomputable def jTi (text:List UInt8):Option (List Pc):=(toks text).map (jOB [])
def St (text:List UInt8)(o:List Pc)(t rest:List UInt8):Prop:=jTi text=(toks rest).map fun ts=>o++jOB t ts
theorem St.byte {text:List UInt8}{o:List Pc}{t r:List UInt8}{c:UInt8}(h:St text o t (c :: r))(hc:special c=false):St text o (t++[c]) r:=by
 unfold St at *
 rw[h,jQs r hc,Option.map_map]
 rfl
theorem St.plain {text:List UInt8}{o:List Pc}:∀ {p t r:List UInt8},St text o t (p++r)→(∀c ∈ p,special c=false)→St text o (t++p) r
 | [],t,r,h,_=>by rw[List.append_nil];exact h
 | c :: p,t,r,h,hp=>by
   have:=St.plain (p:=p) (t:=t++[c]) (r:=r) (St.byte h (hp c (by simp))) (fun d hd=>hp d (by simp[hd]))
   rwa [List.append_assoc]at this
theorem St.esc {text:List UInt8}{o:List Pc}{t r:List UInt8}{d:UInt8}(h:St text o t (92 :: d :: r))(hd:special d=true):St text o (t++[d]) r:=by
 unfold St at *
 rw[h,jVL r hd,Option.map_map]
 rfl
theorem St.mark {text:List UInt8}{o:List Pc}{t r:List UInt8}{c:UInt8}{j:Nat}{x:Pc}(h:St text o t (c :: r))(hc:c=60∨c=123)(hj:indexByte (c :: r) (jI1 c)=(j:Int))(hx:Mk x ((c :: r).take (j+1))) :
 St text (o++flush t++[x]) [] ((c :: r).drop (j+1)):=by
 unfold St at *
 rw[h,jM5 hc hj (jTQ hx),Option.map_map]
 congr 1
 funext ts
 simp[jOB]
theorem St.done {text:List UInt8}{o:List Pc}{t:List UInt8}(h:St text o t []):jTi text=some (o++flush t):=by
 unfold St at h
 rw[h,jOR];rfl
theorem St.flush {text:List UInt8}{o:List Pc}{t rest:List UInt8}(h:St text o t rest)(hr:rest=[]∨∃c r,rest=c :: r∧(c=60∨c=123)):St text (o++flush t) [] rest:=by
 unfold St at *
 rw[h]
 rcases hr with rfl | ⟨c,r,rfl,hc⟩
 ·rw[jOR]
  simp[jOB,Go.Proofs.YtldapapdolkiaaaGreatDoor.flush]
 ·by_cases hj:indexByte (c :: r) (jI1 c)=-1
  ·rw[jKQ hc hj];rfl
  ·obtain⟨j,hj⟩:∃j:Nat,indexByte (c :: r) (jI1 c)=(j:Int):=⟨(indexByte (c :: r) (jI1 c)).toNat,by have:=indexByte_ge (c :: r) (jI1 c);omega⟩
   cases hx:jKk ((c :: r).take (j+1)) with
   | none=>rw[jLs hc hj hx];rfl
   | some x =>
     rw[jM5 hc hj hx,Option.map_map,Option.map_map]
     congr 1
     funext ts
     simp[jOB,Go.Proofs.YtldapapdolkiaaaGreatDoor.flush]
/-! ### text -/
theorem jSe {b:UInt8}(h:isT (b.toNat:Int)=true):jE1 b:=by
 unfold isT isL at h
 simp only[Bool.or_eq_true,Bool.and_eq_true,decide_eq_true_eq]at h
 unfold jE1 ctl
 simp only[Bool.or_eq_false_iff,decide_eq_false_iff_not]
 omega
theorem Mk.plain {x:Pc}{s:List UInt8}(h:Mk x s):(∀c ∈ s,jE1 c)∧s≠[]:=by
 obtain⟨hn,hs,hk⟩:=h.kinds
 obtain⟨_,jDY,_,_⟩:=jJr hn
 have p60:jE1 60:=⟨by decide,by decide⟩
 have p47:jE1 47:=⟨by decide,by decide⟩
 have p43:jE1 43:=⟨by decide,by decide⟩
 have p62:jE1 62:=⟨by decide,by decide⟩
 have p123:jE1 123:=⟨by decide,by decide⟩
 have p125:jE1 125:=⟨by decide,by decide⟩
 have key:(∀c ∈ jHV x.k x.c,jE1 c)∧(∀c ∈ jIi x.k,jE1 c)∧jHV x.k x.c≠[]:=by
  rcases hk with ⟨_,h1,h2⟩ | ⟨_,h1,h2⟩ | ⟨_,_,h1,h2⟩ | ⟨_,_,h1,h2⟩ <;> rw[h1,h2]
  ·cases x.c <;> simp[p60,p43,p62]
  ·cases x.c <;> simp[p60,p43,p62,p47]
  ·simp[p60,p62,p47]
  ·simp[p123,p125]
 refine⟨?_,?_⟩
 ·intro c hc
  rw[hs]at hc
  simp only[List.mem_append]at hc
  rcases hc with (hc | hc) | hc
  ·exact key.1 c hc
  ·exact jSe (jDY c hc)
  ·exact key.2.1 c hc
 ·rw[hs]
  intro e
  have:=congrArg List.length e
  simp only[List.length_append,List.length_nil]at this
  exact key.2.2 (List.eq_nil_of_length_eq_zero (by omega))
def okT (x:Pc):Bool:=decide (x.k≠1) || jBK x.s
/-! ### what Read returns -/
noncomputable def jZn (s:ByteArray):Option (List Pc):=if jBK s=true then jTi s.data.toList else none
noncomputable def jZb (s:ByteArray):Int:=if 65536<s.size then 3 else match jZn s with
 | none=>4
 | some l=>jAu l
noncomputable def jYi (s:ByteArray):List Pc:=if 65536<s.size then [] else match jZn s with
 | none=>[]
 | some l=>if jAu l=0 then l else []
end Go.Proofs.YtldapapdolkiaaaGreatDoor
namespace Go.Proofs.YtldapapdolkiaaaGreatDoor
set_option maxHeartbeats 64000000
open Go Go.RowKit
set_option maxRecDepth 100000
theorem jEs:(Tryz.prog.info? 76).map (fun i=>(i.zero,i.size,i.bytes))=some (some (.agg #[.int .u8 0,.string ⟨#[]⟩,.bool false]),3,32):=by kernel_rfl
structure jAw (B b:Nat)(w w':World):Prop where
 os:w'.os=w.os
 tape:w'.tape=w.tape
 output:w'.output=w.output
 size:w.heap.size≤w'.heap.size
 block:∀k,k<B→k≠b→w'.heap[k]? = w.heap[k]?
theorem jAw.refl (B b:Nat)(w:World):jAw B b w w:=⟨rfl,rfl,rfl,Nat.le_refl _,fun _ _ _=>rfl⟩
theorem jAw.trans {B b:Nat}{x y z:World}(h:jAw B b x y)(k:jAw B b y z):jAw B b x z :=
 ⟨k.os.trans h.os,k.tape.trans h.tape,k.output.trans h.output,Nat.le_trans h.size k.size,fun i hi hb=>(k.block i hi hb).trans (h.block i hi hb)⟩
theorem jAw.of {B b:Nat}{w w':World}(h:Below B w w'):jAw B b w w':=⟨h.os,h.tape,h.output,h.size,fun k hk _=>h.block k hk⟩
theorem jAw.below {B b C:Nat}{w w':World}(h:jAw B b w w')(h1:C≤B)(h2:C≤b):Below C w w':=⟨h.os,h.tape,h.output,h.size,fun k hk=>h.block k (by omega) (by omega)⟩
theorem jAw.alloc {B b:Nat}{a w:World}(h:jAw B b a w)(hB:B≤w.heap.size)(o:Obj):jAw B b a (w.alloc o) :=
 h.trans (jAw.of ((Below.refl B w).alloc hB o))
theorem jAw.grown {B b:Nat}{a w w':World}{row:Option Nat}(h:jAw B b a w)(hg:w.grownBy w' row)(hB:B≤w.heap.size)(hr:∀k,row=some k→B≤k):jAw B b a w' :=
 h.trans (jAw.of ((Below.refl B w).grown hg hB hr))
theorem jAw.setCell {B b:Nat}{a w:World}(h:jAw B b a w)(j:Nat)(u:Value):jAw B b a (w.setCell ⟨b,j,none⟩ u) :=
 h.trans ⟨rfl,rfl,rfl,by simp[World.setCell],fun k _ hk=>Below.heap_setCell _ _ _ _ hk⟩
def cells3 (l:List Pc):List Value:=l.flatMap fun x=>[.int .u8 x.k,.string x.s,.bool x.c]
def jA7 (B:Nat)(v:Value)(l:List Pc)(w:World):Prop:=w.ownsRow B 76 3 v l.length (cells3 l)
theorem jA7.step {B:Nat}{v:Value}{l:List Pc}{w w':World}(hb:Below w.heap.size w w')(h:jA7 B v l w):jA7 B v l w':=jAZ hb h
theorem jA7.form {B:Nat}{v:Value}{l:List Pc}{w:World}(h:jA7 B v l w):∃ao cap,v=.slice ao l.length cap:=by
 rcases h.2 with ⟨hv,h0⟩ | ⟨g,cap,cur,hv,_⟩
 ·exact⟨none,0,by rw[hv,h0]⟩
 ·exact⟨_,_,hv⟩
theorem jA7.low {B:Nat}{v:Value}{l:List Pc}{w:World}(h:jA7 B v l w):jA7 0 v l w :=
 ⟨h.1,h.2.imp id fun ⟨g,cap,cur,e,_,r⟩=>⟨g,cap,cur,e,Nat.zero_le _,r⟩⟩
theorem jA7.nil (B:Nat)(w:World):jA7 B (.slice none 0 0) [] w:=World.ownsRow_nil _ _ _ _
theorem jGI (l m:List Pc):cells3 (l++m)=cells3 l++cells3 m:=by unfold cells3;simp
theorem jA7.more {B:Nat}{v:Value}{l:List Pc}{x:Pc}{w:World}(h:w.ownsRow B 76 3 v (l.length+1) (cells3 l++[.int .u8 x.k,.string x.s,.bool x.c])):jA7 B v (l++[x]) w:=by
 unfold jA7
 rw[jGI,List.length_append]
 exact h
theorem jGP:∀ (l:List Pc) (i j:Nat),i<l.length→j<3→(cells3 l)[i*3+j]? = some (pcF l i j)
 | x :: l,0,j,_,hj=>by
   unfold cells3 pcF
   match j,hj with
   | 0,_=>rfl
   | 1,_=>rfl
   | 2,_=>rfl
 | x :: l,i+1,j,hi,hj=>by
   have:=jGP l i j (by simpa using hi) hj
   have e:(cells3 (x :: l))[(i+1)*3+j]? = (cells3 l)[i*3+j]?:=by
    rw[show (i+1)*3+j=(i*3+j)+1+1+1 by omega]
    rfl
   rw[e,this]
   unfold pcF
   simp
theorem jA7.at {B:Nat}{v:Value}{l:List Pc}{w:World}(h:jA7 B v l w):jBe w v l:=by
 have hc:=h
 rcases h.2 with ⟨rfl,h0⟩ | ⟨g,cap,cur,rfl,hg,hh,hn,hm,_⟩
 ·exact⟨none,0,by rw[h0],by omega,by unfold maxLen;omega,fun h=>by omega⟩
 ·refine⟨some ⟨g,0,none⟩,cap,rfl,hn,hm,fun _=>⟨_,rfl,lt_of_block hh,fun i j hi hj=>?_⟩⟩
  exact World.ownsRow.cells hc (g:=g) rfl _ _ (jGP l i j hi hj)
theorem jAI {w:World}{B b sz:Nat}{e t:TypeId}{v:Value}{n:Nat}{xs:List Value}{cs:Array Value}(jAN:w.ownsRow B e sz v n xs)(hb:w.heap[b]? = some (.cells cs t (0,0)))(hne:e≠t):v.ownBlock≠some b:=by
 rcases jAN.2 with ⟨rfl,_⟩ | ⟨g,cap,cur,rfl,_,hg,_⟩
 ·simp[Value.ownBlock]
 ·intro e'
  simp only[Value.ownBlock,Option.some.injEq]at e'
  subst e'
  rw[hg]at hb
  injection hb with hb
  injection hb with _ ht _
  exact hne ht
theorem jBX {w:World}{B sz sz':Nat}{e e':TypeId}{v v':Value}{n n':Nat}{xs xs':List Value}(h:w.ownsRow B e sz v n xs)(h':w.ownsRow B e' sz' v' n' xs')(hne:e≠e'):v.ownBlock=none∨v.ownBlock≠v'.ownBlock:=by
 rcases h'.2 with ⟨rfl,_⟩ | ⟨g,cap,cur,rfl,_,hg,_⟩
 ·cases hv:v.ownBlock
  ·exact .inl rfl
  ·right;simp[Value.ownBlock]
 ·right
  exact jAI h hg hne
def jBa (B b:Nat)(o:List Pc)(t:List UInt8)(w:World):Prop:=0≤b∧∃vo vt,w.heap[b]? = some (.cells #[vo,vt] 92 (0,0))∧jA7 B vo o w∧jGw B vt t w
theorem jBa.step {B b:Nat}{o:List Pc}{t:List UInt8}{w w':World}(hb:Below w.heap.size w w')(h:jBa B b o t w):jBa B b o t w':=by
 obtain⟨h0,vo,vt,h1,h2,h3⟩:=h
 exact⟨h0,vo,vt,by rw[hb.block b (lt_of_block h1)];exact h1,h2.step hb,h3.step hb⟩
theorem jBa.lt {B b:Nat}{o:List Pc}{t:List UInt8}{w:World}(h:jBa B b o t w):b<w.heap.size:=by obtain⟨_,vo,vt,hb,_⟩:=h;exact lt_of_block hb
theorem jBa.put {B b:Nat}{o:List Pc}{t:List UInt8}{w w':World}{vo vt:Value}(hB:0≤b)(hw:w'.heap[b]? = some (.cells #[vo,vt] 92 (0,0)))(hg:w.grownBy w' (some b))(hb:∃cs,w.heap[b]? = some (.cells cs 92 (0,0)))
 (ho:jA7 B vo o w) (ht:jGw B vt t w):jBa B b o t w':=by
 obtain⟨cs,hb⟩:=hb
 exact⟨hB,vo,vt,hw,ho.kept hg (.inr (jAI ho hb (by decide))),ht.kept hg (.inr (jAI ht hb (by decide)))⟩
theorem jBr (w:World)(b k:Nat)(v:Value):w.grownBy (w.setCell ⟨b,k,none⟩ v) (some b) :=
 ⟨rfl,rfl,rfl,by simp[World.setCell],fun k' _ hk=>Below.heap_setCell _ _ _ _ (fun e=>hk (by simp[e]))⟩
theorem jBa.putO {B b:Nat}{o:List Pc}{t:List UInt8}{w:World}{vo vo' vt:Value}(hB:0≤b)(hb:w.heap[b]? = some (.cells #[vo,vt] 92 (0,0)))(ho:jA7 B vo' o w)(ht:jGw B vt t w):jBa B b o t (w.setCell ⟨b,0,none⟩ vo') :=
 jBa.put hB (by simp[World.setCell,Array.getElem?_modify,hb]) (jBr _ _ _ _) ⟨_,hb⟩ ho ht
theorem jBa.putT {B b:Nat}{o:List Pc}{t:List UInt8}{w:World}{vo vt vt':Value}(hB:0≤b)(hb:w.heap[b]? = some (.cells #[vo,vt] 92 (0,0)))(ho:jA7 B vo o w)(ht:jGw B vt' t w):jBa B b o t (w.setCell ⟨b,1,none⟩ vt') :=
 jBa.put hB (by simp[World.setCell,Array.getElem?_modify,hb]) (jBr _ _ _ _) ⟨_,hb⟩ ho ht
theorem jN7 (B b:Nat)(o:List Pc)(t:List UInt8)(s:ByteArray)(w:World)(h:jBa B b o t w)(jBi:t.length+s.size≤100000000)(hBw:B≤w.heap.size) :
 Calls Tryz.prog 101 #[.pointer (some ⟨b,0,none⟩),.string s] w fun e w'=>e=.returned (.tuple #[])∧jBa B b o (t++s.data.toList) w'∧jAw B b w w':=by
 obtain⟨i0,hi,hz0,hz1,hz2⟩:=info_parts jMi
 obtain⟨hB,vo,vt,hbk,ho,ht⟩:=h
 have c1:w.cell? ⟨b,1,none⟩=some vt:=by rw[Lib.cell_of_heap hbk];rfl
 have jAN:=ht
 unfold jGw at jAN
 have HO:=Lib.hid ho
 have HT:=Lib.hid ht
 have HBK:=Lib.hid hbk
 clear ho ht
 go_enter Tryz.func101,Tryz.ntmps101
 go_wp2_with (at_builtin;refine Lib.wpList_append_own_string _ rfl _ _ 90 9 rfl B 5 i0 Tryz.underlying90 Tryz.underlying9 hi hz0 hz1 hz2 _ _ _ rfl jAN s rfl ?c3 ?c4 ?c5 ?_)
 case c3=>unfold maxLen;omega
 case c4=>omega
 case c5=>omega
 intro v' w2 hown' jC1 _
 have hb2:w2.heap[b]? = some (.cells #[vo,vt] 92 (0,0)):=by
  rw[jC1.block b (lt_of_block HBK.out) (fun e=>jAI HT.out HBK.out (by decide) e.symm)]
  exact HBK.out
 have d1:w2.cell? ⟨b,1,none⟩=some vt:=by rw[Lib.cell_of_heap hb2];rfl
 have f1:w2.frozen? ⟨b,1,none⟩=false:=Lib.frozen_of_heap hb2 1
 have ho2:jA7 B vo o w2:=HO.out.kept jC1 (jBX HO.out HT.out (by decide))
 have hT2:=jGw.more (m:=s.data.toList) hown'
 have HW:=Lib.hid (jBa.putT hB hb2 ho2 hT2)
 obtain⟨ao,cap,rfl⟩:=hT2.form
 have HB:=Lib.hid (((jAw.refl B b w).grown jC1 hBw (fun k hk=>(jAN.lt k hk).1)).setCell 1 (.slice ao (t++s.data.toList).length cap))
 rw[show (t++s.data.toList).length=t.length+s.size by simp]at HW HB
 clear jAN hown' jC1 ho2 hT2
 go_wp2
 go_end0
 exact⟨rfl,HW.out,HB.out⟩
theorem jRK {w:World}{B sz g n cap:Nat}{e:TypeId}{xs:List Value}(h:w.ownsRow B e sz (.slice (some ⟨g,0,none⟩) n cap) n xs):w.ownsRow B e sz (.slice (some ⟨g,0,none⟩) 0 cap) 0 []:=by
 refine⟨by simp,?_⟩
 rcases h.2 with ⟨hv,_⟩ | ⟨g',cap',cur,hv,h1,h2,h3,h4,h5,h6⟩
 ·cases hv
 ·injection hv with hv1 hv2 hv3
  injection hv1 with hv1
  injection hv1 with hv1
  subst hv1 hv3
  exact .inr ⟨_,_,cur,rfl,h1,h2,by omega,h4,h5,by simp⟩
def Others (b:Nat)(w w':World):Prop:=w.heap.size≤w'.heap.size∧∀vo,w.cell? ⟨b,0,none⟩=some vo→∀k,k<w.heap.size→k≠b→vo.ownBlock≠some k→w'.heap[k]? = w.heap[k]?
theorem Others.refl (b:Nat)(w:World):Others b w w:=⟨Nat.le_refl _,fun _ _ _ _ _ _=>rfl⟩
theorem jJn (B b:Nat)(o:List Pc)(t:List UInt8)(w:World)(h:jBa B b o t w)(jBi:t.length≤100000000)(jHf:o.length≤100000000)(hBw:B≤w.heap.size) :
 Calls Tryz.prog 102 #[.pointer (some ⟨b,0,none⟩)] w fun e w'=>e=.returned (.tuple #[])∧jBa B b (o++flush t) [] w'∧jAw B b w w'∧Others b w w':=by
 obtain⟨i0,hi,hz0,hz1,hz2⟩:=info_parts jEs
 have h0:=Lib.hid h
 obtain⟨hB,vo,vt,hbk,ho,ht⟩:=h
 have c0:w.cell? ⟨b,0,none⟩=some vo:=by rw[Lib.cell_of_heap hbk];rfl
 have c1:w.cell? ⟨b,1,none⟩=some vt:=by rw[Lib.cell_of_heap hbk];rfl
 have hlt:=lt_of_block hbk
 by_cases hne:t=[]
 ·subst hne
  obtain⟨ao,cap,rfl⟩:=ht.form
  clear ho ht hbk
  go_enter Tryz.func102,Tryz.ntmps102
  go_wp2
  go_end0
  exact⟨rfl,by have:=h0.out;simpa [flush] using this,jAw.refl _ _ _,Others.refl _ _⟩
 ·have hl:=List.length_pos_iff.2 hne
  rcases ht.2 with ⟨_,hn0⟩ | ⟨g,cap,cur,rfl,_,_,hncap,hcapm,_,_⟩
  ·omega
  have hcv:=jEv ht
  have hcv1:=jEv (w:=w.drew) ht
  have hI:(0:Int)<(t.length:Int):=by omega
  have hF:flush t=[⟨1,bytes t,false⟩]:=by unfold flush;rw[if_neg hne]
  have HF:=Lib.hid hF
  clear hF
  have HO:=Lib.hid ho
  have HT:=Lib.hid ht
  have HBK:=Lib.hid hbk
  have jAN:=ho
  unfold jA7 at jAN
  clear ho ht hbk hne
  unfold maxLen at hcapm
  have q0:=Lib.hid (show 0<3 by decide)
  have q1:=Lib.hid (show o.length+1≤maxLen by unfold maxLen;omega)
  have q2:=Lib.hid (show (o.length+1)*32≤140737488355328 by omega)
  have q3:=Lib.hid (show B≤(w.alloc (.cells #[.int .u8 1,.string (bytes t),.bool false] 76)).heap.size by simp;omega)
  have q4:=Lib.hid (World.news_of_block (w:=w.alloc (.cells #[.int .u8 1,.string (bytes t),.bool false] 76)) (B:=w.heap.size) (cs:=#[.int .u8 1,.string (bytes t),.bool false]) (t:=76) (fr:=(0,0)) (by show (w.heap.push _)[_]? = _;simp))
  have q5:=Lib.hid (jAN.alloc (.cells #[.int .u8 1,.string (bytes t),.bool false] 76))
  have q6:=Lib.hid (show ∀u ∈ ([.int .u8 1,.string (bytes t),.bool false]:List Value),u.oneCell'=true by intro u hu;simp at hu;rcases hu with rfl | rfl | rfl <;> rfl)
  have q7:=Lib.hid (show 0<1 by decide)
  clear jAN
  go_enter Tryz.func102,Tryz.ntmps102
  go_wp2
  have mid:Hid (∀g2 cap2 w2,World.ownsRow w2 B 76 3 (.slice (some ⟨g2,0,none⟩) (o.length+1) cap2) (o.length+1) (cells3 o++[.int .u8 1,.string (bytes t),.bool false])→World.grownBy (w.alloc (.cells #[.int .u8 1,.string (bytes t),.bool false] 76)).drew w2 vo.ownBlock →
   w2.cell? ⟨b,0,none⟩=some vo∧w2.cell? ⟨b,1,none⟩=some (.slice (some ⟨g,0,none⟩) t.length cap)∧w2.frozen? ⟨b,0,none⟩=false∧w2.frozen? ⟨b,1,none⟩=false ∧
   Hid (jBa B b (o++[⟨1,bytes t,false⟩]) [] ((w2.setCell ⟨b,0,none⟩ (.slice (some ⟨g2,0,none⟩) (o.length+1) cap2)).setCell ⟨b,1,none⟩ (.slice (some ⟨g,0,none⟩) 0 cap)))∧Hid (jAw B b w ((w2.setCell ⟨b,0,none⟩ (.slice (some ⟨g2,0,none⟩) (o.length+1) cap2)).setCell ⟨b,1,none⟩ (.slice (some ⟨g,0,none⟩) 0 cap)))∧Hid (Others b w ((w2.setCell ⟨b,0,none⟩ (.slice (some ⟨g2,0,none⟩) (o.length+1) cap2)).setCell ⟨b,1,none⟩ (.slice (some ⟨g,0,none⟩) 0 cap)))):=by
   intro g2 cap2 w2 jBU jAJ
   have hb2:w2.heap[b]? = some (.cells #[vo,.slice (some ⟨g,0,none⟩) t.length cap] 92 (0,0)):=by
    rw[jAJ.block b (by show b<(w.alloc _).heap.size;simp;omega) (fun e=>jAI HO.out HBK.out (by decide) e.symm)]
    show (w.alloc _).heap[b]? = _
    rw[Below.heap_alloc _ _ _ hlt]
    exact HBK.out
   have d0:w2.cell? ⟨b,0,none⟩=some vo:=by rw[Lib.cell_of_heap hb2];rfl
   have d1:w2.cell? ⟨b,1,none⟩=some (.slice (some ⟨g,0,none⟩) t.length cap):=by rw[Lib.cell_of_heap hb2];rfl
   have f0:w2.frozen? ⟨b,0,none⟩=false:=Lib.frozen_of_heap hb2 0
   have f1:w2.frozen? ⟨b,1,none⟩=false:=Lib.frozen_of_heap hb2 1
   have ht2:jGw B (.slice (some ⟨g,0,none⟩) t.length cap) t w2:=World.ownsRow.kept (w:=w.alloc (.cells #[.int .u8 1,.string (bytes t),.bool false] 76)) (HT.out.alloc _) ⟨jAJ.os,jAJ.tape,jAJ.output,jAJ.size,jAJ.block⟩ (jBX HT.out HO.out (by decide))
   have HJ:=Lib.hid (jBa.putO (o:=o++[⟨1,bytes t,false⟩]) hB hb2 (jA7.more (x:=⟨1,bytes t,false⟩) jBU) ht2)
   have jRs:=Lib.hid ((((jAw.refl B b w).alloc hBw (.cells #[.int .u8 1,.string (bytes t),.bool false] 76)).grown (w:=w.alloc (.cells #[.int .u8 1,.string (bytes t),.bool false] 76)) (w':=w2) (row:=vo.ownBlock) ⟨jAJ.os,jAJ.tape,jAJ.output,jAJ.size,jAJ.block⟩ q3.out (fun k hk=>(q5.out.lt k hk).1)))
   refine⟨d0,d1,f0,f1,?_,(jRs.out.setCell 0 _).setCell 1 _,?_⟩
   rotate_left
   ·refine⟨?_,fun vo' hvo' k hk hkb hkv=>?_⟩
    ·have:=jAJ.size
     have h0:(w.alloc (.cells #[.int .u8 1,.string (bytes t),.bool false] 76)).drew.heap.size=w.heap.size+1:=by show (w.alloc _).heap.size=_;simp
     rw[h0]at this
     simp[World.setCell];omega
    ·have hv:vo'=vo:=by rw[c0]at hvo';exact (Option.some.inj hvo').symm
     subst hv
     rw[Below.heap_setCell _ _ _ _ (by exact hkb),Below.heap_setCell _ _ _ _ (by exact hkb),jAJ.block k (by show k<(w.alloc _).heap.size;simp;omega) (fun e=>hkv e.symm)]
     show (w.alloc _).heap[k]? = _
     rw[Below.heap_alloc _ _ _ hk]
   obtain⟨_,vo',vt',k1,k2,k3⟩:=HJ.out
   have e1:(w2.setCell ⟨b,0,none⟩ (.slice (some ⟨g2,0,none⟩) (o.length+1) cap2)).heap[b]? = some (.cells #[.slice (some ⟨g2,0,none⟩) (o.length+1) cap2,.slice (some ⟨g,0,none⟩) t.length cap] 92 (0,0)):=by simp[World.setCell,Array.getElem?_modify,hb2]
   rw[e1]at k1
   injection k1 with k1
   injection k1 with k1 _ _
   have k4:vo'=.slice (some ⟨g2,0,none⟩) (o.length+1) cap2∧vt'=.slice (some ⟨g,0,none⟩) t.length cap:=by simpa using k1.symm
   obtain⟨rfl,rfl⟩:=k4
   exact jBa.putT hB e1 k2 (jRK k3)
  go_region_law (refine step_append_lies _ rfl (.tmp 12) (.tmp 19) 39 rfl B 76 i0 (.agg #[.int .u8 0,.string ⟨#[]⟩,.bool false]) 3 32 Tryz.underlying39 hi hz0 hz1 hz2 rfl q0.out vo o.length (cells3 o) (by simp[Act.eval]) q5.out ⟨w.heap.size,0,none⟩ 1 1 [.int .u8 1,.string (bytes t),.bool false] (by simp[Act.eval]) rfl q4.out q6.out q7.out q1.out q2.out q3.out _ rfl ?_;intro g2 cap2 w2 jBU jAJ qAE jKI;obtain⟨d0,d1,f0,f1,HJ,jRs,HOT⟩:=mid.out g2 cap2 w2 jBU jAJ;clear jBU jAJ qAE jKI)
  all_goals
   go_wp2
   go_end0
   exact⟨rfl,by rw[HF.out];exact HJ.out,jRs.out,HOT.out⟩
theorem jTZ (B b:Nat)(o:List Pc)(x:Pc)(w:World)(h:jBa B b o [] w)(hBw:B≤w.heap.size) :
 Hid (B≤(w.alloc (.cells #[.int .u8 x.k,.string x.s,.bool x.c] 76)).heap.size) ∧
 Hid (∀j u,(#[.int .u8 x.k,.string x.s,.bool x.c]:Array Value).toList[j]? = some u→(w.alloc (.cells #[.int .u8 x.k,.string x.s,.bool x.c] 76)).cell? ((⟨w.heap.size,0,none⟩:Addr).add j)=some u) ∧
 ∃vo,Hid ((w.alloc (.cells #[.int .u8 x.k,.string x.s,.bool x.c] 76)).ownsRow B 76 3 vo o.length (cells3 o))∧w.cell? ⟨b,0,none⟩=some vo ∧
  Hid (∀g2 cap2 w2,World.ownsRow w2 B 76 3 (.slice (some ⟨g2,0,none⟩) (o.length+1) cap2) (o.length+1) (cells3 o++[.int .u8 x.k,.string x.s,.bool x.c])→World.grownBy (w.alloc (.cells #[.int .u8 x.k,.string x.s,.bool x.c] 76)).drew w2 vo.ownBlock →
   w2.cell? ⟨b,0,none⟩=some vo∧w2.frozen? ⟨b,0,none⟩=false∧Hid (jBa B b (o++[x]) [] (w2.setCell ⟨b,0,none⟩ (.slice (some ⟨g2,0,none⟩) (o.length+1) cap2)))∧Hid (jAw B b w (w2.setCell ⟨b,0,none⟩ (.slice (some ⟨g2,0,none⟩) (o.length+1) cap2)))):=by
 obtain⟨hB,vo,vt,hbk,ho,ht⟩:=h
 have hlt:=lt_of_block hbk
 have q3:B≤(w.alloc (.cells #[.int .u8 x.k,.string x.s,.bool x.c] 76)).heap.size:=by simp;omega
 have q5:=World.ownsRow.alloc ho (.cells #[.int .u8 x.k,.string x.s,.bool x.c] 76)
 refine⟨q3,World.news_of_block (w:=w.alloc (.cells #[.int .u8 x.k,.string x.s,.bool x.c] 76)) (B:=w.heap.size) (cs:=#[.int .u8 x.k,.string x.s,.bool x.c]) (t:=76) (fr:=(0,0)) (by show (w.heap.push _)[_]? = _;simp),vo,q5,by rw[Lib.cell_of_heap hbk];rfl,?_⟩
 intro g2 cap2 w2 jBU jAJ
 have hb2:w2.heap[b]? = some (.cells #[vo,vt] 92 (0,0)):=by
  rw[jAJ.block b (by show b<(w.alloc _).heap.size;simp;omega) (fun e=>jAI ho hbk (by decide) e.symm)]
  show (w.alloc _).heap[b]? = _
  rw[Below.heap_alloc _ _ _ hlt]
  exact hbk
 have ht2:jGw B vt [] w2:=World.ownsRow.kept (w:=w.alloc (.cells #[.int .u8 x.k,.string x.s,.bool x.c] 76)) (World.ownsRow.alloc ht _) ⟨jAJ.os,jAJ.tape,jAJ.output,jAJ.size,jAJ.block⟩ (jBX ht ho (by decide))
 exact⟨by rw[Lib.cell_of_heap hb2];rfl,Lib.frozen_of_heap hb2 0,jBa.putO (o:=o++[x]) hB hb2 (jA7.more jBU) ht2,
  (((jAw.refl B b w).alloc hBw (.cells #[.int .u8 x.k,.string x.s,.bool x.c] 76)).grown (w:=w.alloc (.cells #[.int .u8 x.k,.string x.s,.bool x.c] 76)) (w':=w2) (row:=vo.ownBlock) ⟨jAJ.os,jAJ.tape,jAJ.output,jAJ.size,jAJ.block⟩ q3 (fun k hk=>(q5.lt k hk).1)).setCell 0 _⟩
theorem jXe (B b:Nat)(o:List Pc)(t:List UInt8)(x:Pc)(w:World)(h:jBa B b o t w)(hk:x.k≠1)(jBi:t.length≤100000000)(jHf:o.length≤100000000)(hBw:B≤w.heap.size) :
 Calls Tryz.prog 53 #[.pointer (some ⟨b,0,none⟩),pcV x] w fun e w'=>e=.returned (.tuple #[])∧jBa B b (o++flush t++[x]) [] w'∧jAw B b w w':=by
 obtain⟨i0,hi,hz0,hz1,hz2⟩:=info_parts jEs
 have ag:=Tryz.isAgg76
 have zg:=Tryz.sizeOf76
 have hbx:=jAb (w:=w) (pcC x)
 have qAt:=h.lt
 have hj:=h.step hbx
 have hB1:B≤(w.alloc (pcC x)).heap.size:=Nat.le_trans hBw hbx.size
 have cE:=jJn B b o t _ hj jBi jHf hB1
 have hX:=Boxed.new w x
 have hfl:(o++flush t).length≤100000001:=by unfold flush;split <;> simp <;> omega
 obtain⟨hB,vo,vt,hbk,ho,ht⟩:=h
 have hvo:=ho.lt
 have hkb:(x.k == 1)=false:=beq_eq_false_iff_ne.2 hk
 have keep:Hid (∀w2,Others b (w.alloc (pcC x)) w2→Boxed w.heap.size x w2):=by
  intro w2 h2
  have e:w2.heap[w.heap.size]? = (w.alloc (pcC x)).heap[w.heap.size]?:=h2.2 vo (by rw[Lib.cell_of_heap (show (w.alloc (pcC x)).heap[b]? = some (.cells #[vo,vt] 92 (0,0)) by rw[Below.heap_alloc _ _ _ qAt];exact hbk)];rfl) _ (by simp) (by omega) (fun e=>by have:=(hvo _ e).2;omega)
  obtain⟨x0,x1,x2,x3⟩:=hX
  exact⟨(World.cell?_of_block (a:=⟨w.heap.size,0,none⟩) e).trans x0,(World.cell?_of_block (a:=⟨w.heap.size,1,none⟩) e).trans x1,(World.cell?_of_block (a:=⟨w.heap.size,2,none⟩) e).trans x2,Nat.lt_of_lt_of_le (by simp) h2.1⟩
 have hBX:=Lib.hid ((jAw.refl B b w).alloc hBw (pcC x))
 clear ho ht hvo hX hbx
 obtain⟨k,s,c⟩:=x
 unfold pcV
 unfold pcC at cE keep hBX
 simp only at hkb
 have q0:=Lib.hid (show 0<3 by decide)
 have q1:=Lib.hid (show (o++flush t).length+1≤maxLen by unfold maxLen;omega)
 have q2:=Lib.hid (show ((o++flush t).length+1)*32≤140737488355328 by omega)
 have q6:=Lib.hid (show ∀u ∈ ([.int .u8 k,.string s,.bool c]:List Value),u.oneCell'=true by intro u hu;simp at hu;rcases hu with rfl | rfl | rfl <;> rfl)
 have q7:=Lib.hid (show 0<1 by decide)
 have mid:=Lib.hid (fun w2 hj2 hs2=>jTZ B b (o++flush t) ⟨k,s,c⟩ w2 hj2 (Nat.le_trans hB1 hs2))
 clear hj hbk
 go_enter Tryz.func53,Tryz.ntmps53
 go_wp2_with (go_at_call 102;(with_reducible refine cE.mono ?_);rintro e w2 ⟨rfl,hj2,hb2,ho2⟩;obtain⟨x0,x1,x2,x3⟩:=keep.out w2 ho2;have jUv:=hj2.lt;have hm2:=mid.out w2 hj2 hb2.size;obtain⟨q3,q4,vo2,q5,c02,M⟩:=hm2;have HB2:=Lib.hid (hBX.out.trans hb2);clear hj2 hb2 ho2)
 go_region_law (refine step_append_lies _ rfl (.tmp 17) (.tmp 19) 39 rfl B 76 i0 (.agg #[.int .u8 0,.string ⟨#[]⟩,.bool false]) 3 32 Tryz.underlying39 hi hz0 hz1 hz2 rfl q0.out vo2 (o++flush t).length (cells3 (o++flush t)) (by simp[Act.eval]) q5.out ⟨w2.heap.size,0,none⟩ 1 1 [.int .u8 k,.string s,.bool c] (by simp[Act.eval]) rfl q4.out q6.out q7.out q1.out q2.out q3.out _ rfl ?_;intro g3 cap3 w3 jAP jAl qAF jYC;obtain⟨e0,f0,HJ,jRs⟩:=M.out g3 cap3 w3 jAP jAl;clear jAP jAl qAF jYC)
 all_goals
  go_wp2
  go_end0
  rw[List.length_append]at HJ jRs
  exact⟨rfl,HJ.out,HB2.out.trans jRs.out⟩
theorem jPm (B b:Nat)(o:List Pc)(t:List UInt8)(w:World)(h:jBa B b o t w)(jBi:t.length≤100000000)(jHf:o.length≤100000000)(hBw:B≤w.heap.size) :
 Calls Tryz.prog 54 #[.pointer (some ⟨b,0,none⟩)] w fun e w'=>∃v,e=.returned v∧jA7 B v (o++flush t) w'∧jAw B b w w':=by
 have cE:=jJn B b o t _ h jBi jHf hBw
 have open2:Hid (∀w2,jBa B b (o++flush t) [] w2→∃vo,w2.cell? ⟨b,0,none⟩=some vo∧jA7 B vo (o++flush t) w2):=by
  rintro w2 ⟨_,vo,vt,hbk,ho,_⟩
  exact⟨vo,by rw[Lib.cell_of_heap hbk];rfl,ho⟩
 clear h
 go_enter Tryz.func54,Tryz.ntmps54
 go_wp2_with (go_at_call 102;(with_reducible refine cE.mono ?_);rintro e w2 ⟨rfl,hj2,hb2,ho2⟩;obtain⟨vo,c0,hp⟩:=open2.out w2 hj2;have HP:=Lib.hid hp;obtain⟨ao,cap,rfl⟩:=HP.out.form;have HB:=Lib.hid hb2;clear hj2 hb2 ho2 hp)
 go_ret
 exact⟨.slice ao (o.length+(flush t).length) cap,rfl,by have h:=HP.out;rw[List.length_append]at h;exact h,HB.out⟩
end Go.Proofs.YtldapapdolkiaaaGreatDoor
namespace Go.Proofs.YtldapapdolkiaaaGreatDoor
set_option maxHeartbeats 64000000
open Go
variable {P:Program} {ops:Array Oper} {Q:Exit→Act→World→Prop} {md:Region.Mode} {S:World→Prop} {T:Array Bool→Bool}
def jDq (P:Program)(md:Region.Mode)(ops:Array Oper)(Q:Exit→Act→World→Prop)(S:World→Prop)(T:Array Bool→Bool):Nat→Array Bool→Act→World→Prop
 | 0,listed,a,w=>Region.ready md ops listed=[]∧Q .normal a w
 | fuel+1,listed,a,w =>
   (Region.ready md ops listed=[]→Q .normal a w) ∧
   ∀i ∈ Region.ready md ops listed,wpOp P ops Q i (fun b x=>(T (listed.setIfInBounds i true)=true→S x)∧jDq P md ops Q S T fuel (listed.setIfInBounds i true) b x) a w
theorem jGt:∀ (fuel:Nat) (listed:Array Bool) (a:Act) (w:World),jDq P md ops Q S T fuel listed a w→wpAny P md ops Q fuel listed a w
 | 0,_,_,_,h=>h
 | fuel+1,_,_,_,h=>⟨h.1,fun i hi=>wpOp_mono (fun b x h2=>jGt fuel _ b x h2.2) (h.2 i hi)⟩
def jST (md:Region.Mode)(ops:Array Oper)(listed:Array Bool):Bool :=
 (List.range ops.size).all fun j=>!listed.getD j false || (match ops[j]? with | some o=>o.after.all fun e=>!Region.binds md e || listed.getD e.on false | none=>true)
def Closed (md:Region.Mode)(ops:Array Oper)(listed:Array Bool):Prop:=∀j o,ops[j]? = some o→listed.getD j false=true→∀e ∈ o.after,Region.binds md e=true→listed.getD e.on false=true
theorem Closed.of {listed:Array Bool}(h:jST md ops listed=true):Closed md ops listed:=by
 intro j o ho hl e he hb
 have hj:j<ops.size:=(Array.getElem?_eq_some_iff.1 ho).1
 have h1:=List.all_eq_true.1 h j (List.mem_range.2 hj)
 rw[hl,ho]at h1
 simp only[Bool.not_true,Bool.false_or,Array.all_eq_true_iff_forall_mem]at h1
 have h2:=h1 e he
 rw[hb]at h2
 simpa using h2
theorem Closed.set {listed:Array Bool}{i:Nat}(h:Closed md ops listed)(hi:i ∈ Region.ready md ops listed):Closed md ops (listed.setIfInBounds i true):=by
 obtain⟨_,oi,hoi,jDY⟩:=mem_ready.1 hi
 intro j o ho hl e he hb
 by_cases hij:i=j
 ·subst hij
  obtain rfl:oi=o:=Option.some.inj (hoi.symm.trans ho)
  exact getD_set_true (jDY e he hb)
 ·rw[getD_set_ne false hij]at hl
  exact getD_set_true (h j o ho hl e he hb)
theorem jMG {i m:Nat}{oi om:Oper}{v:Value}(hi:ops[i]? = some oi)(jYD:∀ (j:Nat) (o:Oper) cs b,ops[j]? = some o→o.op≠.select cs b)
 (hQ:∀c a w,Q (.panic c) (a.put oi.dst v) w→Q (.panic c) a w) (hm:ops[m]? = some om) (hmi:m≠i) (jZW:∃e ∈ om.after,Region.binds md e=true∧e.on=i)
 (hT:∀l:Array Bool,l.getD m true=false→T l=true) :
 ∀ (fuel:Nat) (listed:Array Bool) (a:Act) (w:World),listed.size=ops.size→Closed md ops listed →
  (∀j oj,ops[j]? = some oj→j≠i→listed.getD j true=false→(∀e ∈ oj.after,Region.binds md e=true→e.on≠i)→oi.apart ops oj=true) →
  i ∈ Region.ready md ops listed→YieldsIf P ops S oi v a→S w →
  jDq P md ops Q S T fuel (listed.setIfInBounds i true) (a.put oi.dst v) w→jDq P md ops Q S T (fuel+1) listed a w:=by
 have gone:∀ {l:Array Bool} {k:Nat},l.getD k true=false→l.getD k false=false:=by
  intro l k h
  rcases Nat.lt_or_ge k l.size with h2 | h2
  ·simp[h2]at h ⊢;exact h
  ·simp[Array.getElem?_eq_none h2]at h
 intro fuel
 induction fuel with
 | zero =>
   intro listed a w _ _ _ hr hy hS H
   refine⟨fun h=>(by rw[h]at hr;cases hr),fun j hj=>?_⟩
   by_cases hji:j=i
   ·subst hji;exact hy.wpOp hi hS ⟨fun _=>hS,H⟩
   ·have:=ready_mono hj hji
    rw[H.1]at this
    cases this
 | succ fuel ih =>
   intro listed a w hz hc jCL hr hy hS H
   refine⟨fun h=>(by rw[h]at hr;cases hr),fun j hj=>?_⟩
   by_cases hji:j=i
   ·subst hji;exact hy.wpOp hi hS ⟨fun _=>hS,H⟩
   ·have h1:=H.2 j (ready_mono hj hji)
    obtain⟨jRt,oj,hoj,jDY⟩:=mem_ready.1 hj
    have hi0:=gone (mem_ready.1 hr).1
    have jY2:∀e ∈ oj.after,Region.binds md e=true→e.on≠i:=fun e he hb heq=>by
     have h2:=jDY e he hb
     rw[heq,hi0]at h2
     cases h2
    have hjm:j≠m:=by
     rintro rfl
     obtain⟨e,he,hb,heq⟩:=jZW
     obtain rfl:oj=om:=Option.some.inj (hoj.symm.trans hm)
     exact jY2 e he hb heq
    have hml:listed.getD m true=false:=by
     cases hl:listed.getD m false with
     | true =>
       obtain⟨e,he,hb,heq⟩:=jZW
       have h2:=hc m om hm hl e he hb
       rw[heq,hi0]at h2
       cases h2
     | false =>
       have hms:m<listed.size:=by rw[hz];exact (Array.getElem?_eq_some_iff.1 hm).1
       simp[hms]at hl ⊢
       exact hl
    have hTa:T ((listed.setIfInBounds i true).setIfInBounds j true)=true:=hT _ (by rw[getD_set_ne true hjm,getD_set_ne true (Ne.symm hmi)];exact hml)
    have h2:=wpOp_putIf hoj (jCL j oj hoj hji jRt jY2) (fun cs b=>jYD i oi cs b hi) (fun cs b=>jYD j oj cs b hoj) hQ hy h1
    have jUb:∀k ok,ops[k]? = some ok→k≠i→(listed.setIfInBounds j true).getD k true=false →
     (∀e ∈ ok.after,Region.binds md e=true→e.on≠i)→oi.apart ops ok=true:=fun k ok hk hki hun hno=>by
     refine jCL k ok hk hki ?_ hno
     by_cases hjk:j=k
     ·subst hjk;exact jRt
     ·rw[getD_set_ne true hjk]at hun;exact hun
    refine wpOp_mono (fun b x h3=>⟨fun _=>h3.2.1 hTa,ih (listed.setIfInBounds j true) b x (by rw[Array.size_setIfInBounds];exact hz) (hc.set hj) jUb (ready_mono hr (Ne.symm hji)) h3.1 (h3.2.1 hTa) ?_⟩) h2
    rw[Array.setIfInBounds_comm _ _ hji]
    exact h3.2.2
theorem jG2 {i:Nat}{oi:Oper}{v:Value}(hi:ops[i]? = some oi)(jYD:∀ (j:Nat) (o:Oper) cs b,ops[j]? = some o→o.op≠.select cs b)
 (hQ:∀c a w,Q (.panic c) (a.put oi.dst v) w→Q (.panic c) a w) (hT:∀l:Array Bool,T (l.setIfInBounds i true)=T l) :
 ∀ (fuel:Nat) (listed:Array Bool) (a:Act) (w:World),
  (∀j oj,ops[j]? = some oj→j≠i→listed.getD j true=false→(∀e ∈ oj.after,Region.binds md e=true→e.on≠i)→oi.apart ops oj=true) →
  i ∈ Region.ready md ops listed→YieldsIf P ops (fun _=>True) oi v a→(T listed=true→S w) →
  jDq P md ops Q S T fuel (listed.setIfInBounds i true) (a.put oi.dst v) w→jDq P md ops Q S T (fuel+1) listed a w:=by
 intro fuel
 induction fuel with
 | zero =>
   intro listed a w _ hr hy hS H
   refine⟨fun h=>(by rw[h]at hr;cases hr),fun j hj=>?_⟩
   by_cases hji:j=i
   ·subst hji;exact hy.wpOp hi trivial ⟨fun h=>hS (by rwa [hT]at h),H⟩
   ·have:=ready_mono hj hji
    rw[H.1]at this
    cases this
 | succ fuel ih =>
   intro listed a w jCL hr hy hS H
   refine⟨fun h=>(by rw[h]at hr;cases hr),fun j hj=>?_⟩
   by_cases hji:j=i
   ·subst hji;exact hy.wpOp hi trivial ⟨fun h=>hS (by rwa [hT]at h),H⟩
   ·have h1:=H.2 j (ready_mono hj hji)
    obtain⟨jRt,oj,hoj,jDY⟩:=mem_ready.1 hj
    have jY2:∀e ∈ oj.after,Region.binds md e=true→e.on≠i:=fun e he hb heq=>by
     have h1:=jDY e he hb
     have h0:=(mem_ready.1 hr).1
     rw[heq]at h1
     rcases Nat.lt_or_ge i listed.size with h2 | h2
     ·simp[h2]at h0 h1;rw[h0]at h1;cases h1
     ·simp[Array.getElem?_eq_none h2]at h1
    have h2:=wpOp_putIf hoj (jCL j oj hoj hji jRt jY2) (fun cs b=>jYD i oi cs b hi) (fun cs b=>jYD j oj cs b hoj) hQ hy h1
    have jUb:∀k ok,ops[k]? = some ok→k≠i→(listed.setIfInBounds j true).getD k true=false →
     (∀e ∈ ok.after,Region.binds md e=true→e.on≠i)→oi.apart ops ok=true:=fun k ok hk hki hun hno=>by
     refine jCL k ok hk hki ?_ hno
     by_cases hjk:j=k
     ·subst hjk;exact jRt
     ·rw[getD_set_ne true hjk]at hun;exact hun
    have comm:=Array.setIfInBounds_comm (xs:=listed) true true hji
    have hS2:∀ {x:World},(T ((listed.setIfInBounds i true).setIfInBounds j true)=true→S x)→T (listed.setIfInBounds j true)=true→S x:=fun h k=>h (by rw[←comm,hT];exact k)
    refine wpOp_mono (fun b x h3=>⟨hS2 h3.2.1,ih (listed.setIfInBounds j true) b x jUb (ready_mono hr (Ne.symm hji)) h3.1 (hS2 h3.2.1) ?_⟩) h2
    rw[comm]
    exact h3.2.2
def jWA (md:Region.Mode)(ops:Array Oper)(m i:Nat):Bool:=match ops[m]? with | some o=>m != i && o.after.any fun e=>Region.binds md e && e.on == i | none=>false
def jFQ (ms:List Nat)(l:Array Bool):Bool:=ms.any fun m=>!l.getD m true
theorem jBn {ms:List Nat}{i:Nat}(m:Nat){oi:Oper}{v:Value}{fuel:Nat}{listed:Array Bool}{a:Act}{w:World}(hi:ops[i]? = some oi)
 (hs:Region.noSelect ops=true) (hf:Region.free md ops listed i=true) (hr:(Region.ready md ops listed).contains i=true)
 (hw:(jWA md ops m i && ms.contains m && jST md ops listed && listed.size == ops.size)=true)
 (hQ:∀c a w,Q (.panic c) (a.put oi.dst v) w→Q (.panic c) a w) (hy:YieldsIf P ops S oi v a) (hS:S w)
 (h:jDq P md ops Q S (jFQ ms) fuel (listed.setIfInBounds i true) (a.put oi.dst v) w):jDq P md ops Q S (jFQ ms) (fuel+1) listed a w:=by
 simp only[Bool.and_eq_true,beq_iff_eq,List.contains_iff_mem]at hw
 obtain⟨⟨⟨h1,h2⟩,h3⟩,h4⟩:=hw
 unfold jWA at h1
 cases hm:ops[m]? with
 | none=>rw[hm]at h1;cases h1
 | some om =>
   rw[hm]at h1
   simp only[Bool.and_eq_true,bne_iff_ne,ne_eq,Array.any_eq_true']at h1
   obtain⟨hmi,e,he,hb,heq⟩:=h1
   exact jMG hi (Region.noSelect_spec hs) hQ hm hmi ⟨e,he,hb,beq_iff_eq.1 heq⟩ (fun l hl=>List.any_eq_true.2 ⟨m,h2,by rw[hl];rfl⟩) fuel listed a w h4 (Closed.of h3) (Region.free_spec hi hf) (by simpa using hr) hy hS h
theorem jAK {ms:List Nat}{i:Nat}{oi:Oper}{v:Value}{fuel:Nat}{listed:Array Bool}{a:Act}{w:World}(hi:ops[i]? = some oi)
 (hs:Region.noSelect ops=true) (hf:Region.free md ops listed i=true) (hr:(Region.ready md ops listed).contains i=true) (hm:ms.contains i=false)
 (hQ:∀c a w,Q (.panic c) (a.put oi.dst v) w→Q (.panic c) a w) (hy:YieldsIf P ops (fun _=>True) oi v a) (hS:jFQ ms listed=true→S w)
 (h:jDq P md ops Q S (jFQ ms) fuel (listed.setIfInBounds i true) (a.put oi.dst v) w):jDq P md ops Q S (jFQ ms) (fuel+1) listed a w:=by
 refine jG2 hi (Region.noSelect_spec hs) hQ (fun l=>?_) fuel listed a w (Region.free_spec hi hf) (by simpa using hr) hy hS h
 unfold jFQ
 have hne:∀m ∈ ms,i≠m:=fun m h1 e=>by
  subst e
  rw[List.contains_iff_mem.2 h1]at hm
  cases hm
 clear hm hS h
 induction ms with
 | nil=>rfl
 | cons m ms ih =>
   simp only[List.any_cons]
   rw[getD_set_ne true (hne m (by simp)),ih (fun x h1=>hne x (by simp[h1]))]
def jAF (P:Program)(md:Region.Mode)(ops:Array Oper)(Q:Exit→Act→World→Prop)(S:World→Prop)(T:Array Bool→Bool)(fuel:Nat)(listed:Array Bool)(a:Act)(w:World)(rs:List Nat):Prop :=
 ∀i ∈ rs,wpOp P ops Q i (fun b x=>(T (listed.setIfInBounds i true)=true→S x)∧jDq P md ops Q S T fuel (listed.setIfInBounds i true) b x) a w
theorem jAF.nil {fuel:Nat}{listed:Array Bool}{a:Act}{w:World}:jAF P md ops Q S T fuel listed a w []:=fun _ h=>by cases h
theorem jAF.cons {fuel:Nat}{listed:Array Bool}{a:Act}{w:World}{i:Nat}{o:Oper}{rs:List Nat}(ho:ops[i]? = some o)
 (h:∀K:Act→World→Prop,Shut (∀b x,(T (listed.setIfInBounds i true)=true→S x)→jDq P md ops Q S T fuel (listed.setIfInBounds i true) b x→K b x)→if Region.wanted o (yielded ops a.tmps)=true then Oper.wp P o a w K Q else K (a.put o.dst undef) w)
 (hs:jAF P md ops Q S T fuel listed a w rs):jAF P md ops Q S T fuel listed a w (i :: rs):=fun j hj=>by
 rcases List.mem_cons.1 hj with rfl | hj
 ·exact wpOp_step ho (fun K hK=>h K (fun b x h1 h2=>hK b x ⟨h1,h2⟩))
 ·exact hs j hj
theorem jAY {rs:List Nat}{fuel:Nat}{listed:Array Bool}{a:Act}{w:World}(hr:Region.ready md ops listed=rs)(hne:rs≠[])
 (h:jAF P md ops Q S T fuel listed a w rs):jDq P md ops Q S T (fuel+1) listed a w :=
 ⟨fun h0=>absurd (hr▸h0) hne,hr▸h⟩
theorem jEw {listed:Array Bool}{a:Act}{w:World}(hr:Region.ready md ops listed=[])(h:Q .normal a w):∀fuel,jDq P md ops Q S T fuel listed a w
 | 0=>⟨hr,h⟩
 | _+1=>⟨fun _=>h,by rw[hr];simp⟩
theorem jCM (S:World→Prop)(ms:List Nat){id:Nat}{a:Act}{w:World}(hm:P.follows .mixedOrders=true)(hS:S w.drew)
 (h:S w.drew→jDq P .any ops Q S (jFQ ms) ops.size (Array.replicate ops.size false) a w.drew):(Code.region id ops true).wp P Q a w :=
 wp_region_any hm (jGt _ _ _ _ (h hS))
end Go.Proofs.YtldapapdolkiaaaGreatDoor
namespace Go.Proofs.YtldapapdolkiaaaGreatDoor
set_option maxHeartbeats 64000000
open Go Go.RowKit Go.Lib
set_option maxRecDepth 100000
set_option maxRecDepth 1000000
set_option maxRecDepth 100000
theorem jDe {w:World}{g:Nat}{cur:Array Value}{t:TypeId}(h:w.heap[g]? = some (.cells cur t (0,0)))(j:Nat)(u:Value) :
 (w.setCell ⟨g,j,none⟩ u).heap[g]? = some (.cells (cur.setIfInBounds j u) t (0,0)):=by
 simp[World.setCell,Array.getElem?_modify,h]
theorem jNL {w:World}{base:Nat}{e:TypeId}{size n cap g:Nat}{xs:List Value}(h:w.ownsRow base e size (.slice (some ⟨g,0,none⟩) n cap) n xs)(j:Nat)(u:Value) :
 (w.setCell ⟨g,j,none⟩ u).ownsRow base e size (.slice (some ⟨g,0,none⟩) n cap) n (xs.set j u):=by
 obtain⟨h1,h2⟩:=h
 refine⟨by rw[List.length_set];exact h1,?_⟩
 rcases h2 with ⟨h2,_⟩ | ⟨g',cap',cur,hv,hg,hh,hn,hm,hs,ht⟩
 ·cases h2
 ·cases hv
  exact .inr ⟨g,cap,_,rfl,hg,jDe hh j u,hn,hm,by simpa using hs,by rw[←ht];simp[List.take_set]⟩
theorem jA7.put {B:Nat}{g cap:Nat}{o:List Pc}{y:Pc}{s:ByteArray}{w:World}(h:jA7 B (.slice (some ⟨g,0,none⟩) (o.length+1) cap) (o++[y]) w) :
 jA7 B (.slice (some ⟨g,0,none⟩) (o.length+1) cap) (o++[⟨y.k,s,y.c⟩]) (w.setCell ⟨g,o.length*3+1,none⟩ (.string s)):=by
 unfold jA7 at h ⊢
 rw[List.length_append]at h ⊢
 have:=jNL h (o.length*3+1) (.string s)
 have hc:(cells3 o).length=o.length*3:=by
  have h1:=h.1
  rw[jGI,List.length_append]at h1
  simp[cells3]at h1 ⊢
  omega
 rw[jGI]at this ⊢
 rw[List.set_append_right (h:=by omega)]at this
 rw[show o.length*3+1-(cells3 o).length=1 by omega]at this
 exact this
def jJj (l:List Pc)(x:Pc):List Pc:=match l.getLast? with
 | some y=>if x.k=1∧y.k=1 then l.dropLast++[⟨y.k,y.s++x.s,y.c⟩] else l++[x]
 | none=>l++[x]
theorem jVq (x:Pc):jJj [] x=[x]:=rfl
theorem jGq {o:List Pc}{y x:Pc}(h:¬(x.k=1∧y.k=1)):jJj (o++[y]) x=(o++[y])++[x]:=by unfold jJj;rw[List.getLast?_concat];simp[h]
theorem jMt {o:List Pc}{y x:Pc}(h:x.k=1)(h':y.k=1):jJj (o++[y]) x=o++[⟨y.k,y.s++x.s,y.c⟩]:=by unfold jJj;rw[List.getLast?_concat];simp[h,h']
theorem jA7.last {B:Nat}{o:List Pc}{y:Pc}{v:Value}{w:World}(h:jA7 B v (o++[y]) w):∃g cap,v=.slice (some ⟨g,0,none⟩) (o.length+1) cap∧o.length+1≤cap∧g<w.heap.size∧B≤g ∧
 w.cell? ⟨g,o.length*3,none⟩=some (.int .u8 y.k)∧w.cell? ⟨g,o.length*3+1,none⟩=some (.string y.s)∧w.cell? ⟨g,o.length*3+2,none⟩=some (.bool y.c)∧w.frozen? ⟨g,o.length*3+1,none⟩=false:=by
 have hp:=h.at
 obtain⟨p,cap',e,h1,h2,h3⟩:=hp
 rcases h.2 with ⟨rfl,h0⟩ | ⟨g,cap,cur,rfl,hg,hh,hn,hm,_⟩
 ·simp at h0
 ·cases e
  obtain⟨A,hA1,hA,jAj⟩:=h3 (by simp)
  cases hA1
  obtain⟨c0,c1,c2⟩:=jAU hA jAj (k:=o.length) (by simp) (Below.refl _ w)
  have hy:(o++[y]).getD o.length Go.Proofs.YtldapapdolkiaaaGreatDoor.nil=y:=by simp
  rw[hy,jHK]at c0 c1 c2
  refine⟨g,_,by rw[List.length_append,List.length_singleton],by simpa using hn,hA,hg,c0,c1,c2,Lib.frozen_of_heap hh _⟩
def jCU (w w':World)(v:Value):Prop:=∀b,b<w.heap.size→v.ownBlock≠some b→w'.heap[b]? = w.heap[b]?
theorem jCU.grown {w w':World}{v:Value}{o o':Obj}(h:((w.alloc o).alloc o').grownBy w' v.ownBlock):jCU w w' v:=fun b hb hv=>by
 have h1:b<(w.alloc o).heap.size:=by simp;omega
 have h2:b<((w.alloc o).alloc o').heap.size:=by simp;omega
 rw[h.block b h2 (fun e=>hv e.symm),Below.heap_alloc _ _ _ h1,Below.heap_alloc _ _ _ hb]
set_option maxRecDepth 100000
structure Js where
 o:List Pc
 t:List UInt8
 last:Pc
 due:Bool
def js3 (x:Pc)(st:Js):Js:=if x.k=1 then ⟨st.o,st.t++x.s.data.toList,st.last,st.due⟩ else ⟨st.o++flush st.t++[x],[],st.last,st.due⟩
theorem jSL (s:ByteArray):s.data.toList.length=s.size:=rfl
theorem jQV {o:List Pc}{t:List UInt8}{s:ByteArray}(ho:∀y,o.getLast? = some y→y.k≠1)(hs:0<s.size):jJj (o++flush t) ⟨1,s,false⟩=o++flush (t++s.data.toList):=by
 have hne:s.data.toList≠[]:=by intro h;rw[←jSL,h]at hs;simp at hs
 by_cases ht:t=[]
 ·subst ht
  have e1:flush []=[]:=rfl
  have e2:flush ([]++s.data.toList)=[⟨1,s,false⟩]:=by unfold flush;rw[List.nil_append,if_neg hne];rfl
  rw[e1,e2,List.append_nil]
  rcases List.eq_nil_or_concat o with rfl | ⟨o',y,rfl⟩
  ·rfl
  ·rw[List.concat_eq_append]at ho ⊢
   exact jGq (fun h=>ho y List.getLast?_concat h.2)
 ·have e1:flush t=[⟨1,bytes t,false⟩]:=by unfold flush;rw[if_neg ht]
  have e2:flush (t++s.data.toList)=[⟨1,bytes (t++s.data.toList),false⟩]:=by unfold flush;rw[if_neg (by simp[ht])]
  rw[e1,e2,jMt rfl rfl]
  apply congrArg (fun z=>o++[Pc.mk 1 z false])
  apply ByteArray.ext
  apply Array.ext'
  simp[bytes]
theorem jJa {o:List Pc}{t:List UInt8}{x:Pc}(hx:x.k≠1):jJj (o++flush t) x=o++flush t++[x]:=by
 rcases List.eq_nil_or_concat (o++flush t) with e | ⟨o',y,e⟩
 ·rw[e];rfl
 ·rw[e,List.concat_eq_append]
  exact jGq (fun h=>hx h.1)
theorem jSY {st:Js}{x:Pc}(ho:∀y,st.o.getLast? = some y→y.k≠1)(hx:x.k=1→x=⟨1,x.s,false⟩∧0<x.s.size) :
 jJj (st.o++flush st.t) x=(js3 x st).o++flush (js3 x st).t∧(∀y,(js3 x st).o.getLast? = some y→y.k≠1)∧(js3 x st).last=st.last∧(js3 x st).due=st.due:=by
 unfold js3
 by_cases h:x.k=1
 ·rw[if_pos h]
  obtain⟨e,hs⟩:=hx h
  refine⟨?_,ho,rfl,rfl⟩
  rw[e]
  exact jQV ho hs
 ·rw[if_neg h]
  refine⟨by rw[jJa h];exact (List.append_nil _).symm,fun y hy=>?_,rfl,rfl⟩
  rw[List.getLast?_concat]at hy
  cases hy
  exact h
theorem jM2 (B b:Nat)(o:List Pc)(t:List UInt8)(x:Pc)(w:World)(h:jBa B b o t w)(hk:x.k=1)(jBi:t.length+x.s.size≤100000000)(hBw:B≤w.heap.size) :
 Calls Tryz.prog 53 #[.pointer (some ⟨b,0,none⟩),pcV x] w fun e w'=>e=.returned (.tuple #[])∧jBa B b o (t++x.s.data.toList) w'∧jAw B b w w':=by
 have ag:=Tryz.isAgg76
 have zg:=Tryz.sizeOf76
 have hbx:=jAb (w:=w) (pcC x)
 have cT:=jN7 B b o t x.s _ (h.step hbx) jBi (Nat.le_trans hBw hbx.size)
 have HBX:=hid ((jAw.refl B b w).alloc hBw (pcC x))
 clear h hbx
 obtain⟨k,s,c⟩:=x
 dsimp only at hk jBi cT
 subst hk
 unfold pcV
 unfold pcC at cT HBX
 go_enter Tryz.func53,Tryz.ntmps53
 go_wp2_with (go_at_call 101;(with_reducible refine cT.mono ?_);rintro e w2 ⟨rfl,hj2,hk2⟩;have HJ:=hid hj2;have HK:=hid (HBX.out.trans hk2);clear hj2 hk2)
 refine bodyPost_ret (results_none rfl _ _ _) rfl ?_
 exact⟨rfl,HJ.out,HK.out⟩
theorem jMz (B b:Nat)(st:Js)(x:Pc)(w:World)(h:jBa B b st.o st.t w)(jBi:st.t.length+x.s.size≤100000000)(jHf:st.o.length≤100000000)(hBw:B≤w.heap.size) :
 Calls Tryz.prog 53 #[.pointer (some ⟨b,0,none⟩),pcV x] w fun e w'=>e=.returned (.tuple #[])∧jBa B b (js3 x st).o (js3 x st).t w'∧jAw B b w w':=by
 unfold js3
 by_cases hk:x.k=1
 ·rw[if_pos hk]
  exact jM2 B b st.o st.t x w h hk jBi hBw
 ·rw[if_neg hk]
  exact jXe B b st.o st.t x w h hk (by omega) jHf hBw
theorem jGF (l:List Pc)(v:Value)(w:World)(hv:∃ao ca,v=.slice ao l.length ca):Calls Tryz.prog 55 #[v] w fun e w'=>e=.returned (.bool (decide (512<l.length)))∧w'=w:=by
 obtain⟨ao,ca,rfl⟩:=hv
 by_cases h:(512:Int)<(l.length:Int)
 ·have HX:=hid (show decide (512<l.length)=true by simp;omega)
  go_enter Tryz.func55,Tryz.ntmps55
  go_wp2
  go_ret
  exact⟨jAc HX.out.symm,rfl⟩
 ·have HX:=hid (show decide (512<l.length)=false by simp;omega)
  go_enter Tryz.func55,Tryz.ntmps55
  go_wp2
  go_ret
  exact⟨jAc HX.out.symm,rfl⟩
end Go.Proofs.YtldapapdolkiaaaGreatDoor
