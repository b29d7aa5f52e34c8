/- Glue: what parts are glued together, as data. No run of any program here. Lists of lists of pieces in memory; rows of words that are turned round. Glue: what one part closes for now is what the next one opens once more, by the program. Glue: what one part closes for now is what the next one opens once more, by the program. Glue: what one part closes for now is what the next one opens once more, by the program: the whole. Glue, by the program. -/
import Derived.Test.YtldapapdolkiaaaGreatDoorRwA
namespace Go.Proofs.YtldapapdolkiaaaGreatDoor
set_option maxHeartbeats 64000000
open Go Go.RowKit Go.Lib
set_option maxRecDepth 100000
def jA0 (l:List Pc):List ByteArray:=(l.filter ccB).map Pc.s
def jBf (l:List Pc):List ByteArray:=(l.filter coB).map Pc.s
def jUH (a b:List Pc):Bool:=decide (jA0 a=(jBf b).reverse)
def jDa (n i:Nat)(x:Pc):Bool:=(coB x && decide (0<i)) || (ccB x && decide (i+1<n))
def jBA (ps:List (List Pc)):Nat→Int
 | 0=>0
 | k+1=>if jBA ps k≠0 then jBA ps k else jAu (ps.getD k [])
def jEI (ps:List (List Pc)):Nat→Bool
 | 0=>true
 | k+1=>jEI ps k && jUH (ps.getD k []) (ps.getD (k+1) [])
def jVC (n i:Nat)(o:List Pc)(x:Pc):List Pc:=if jDa n i x=true then o else jJj o x
def jWU (n i:Nat)(st:Js)(x:Pc):Js:=if jDa n i x=true then st else js3 x st
def jEn (n i:Nat)(o l:List Pc)(k:Nat):List Pc:=(l.take k).foldl (jVC n i) o
def jE4 (n i:Nat)(st:Js)(l:List Pc)(k:Nat):Js:=(l.take k).foldl (jWU n i) st
def gTo (ps:List (List Pc)):Nat→List Pc
 | 0=>[]
 | i+1=>jEn ps.length i (gTo ps i) (ps.getD i []) (ps.getD i []).length
def js0:Js:=⟨[],[],nil,false⟩
def jJE (ps:List (List Pc)):Nat→Js
 | 0=>js0
 | i+1=>jE4 ps.length i (jJE ps i) (ps.getD i []) (ps.getD i []).length
theorem jGB {n i:Nat}{o l:List Pc}{k:Nat}(h:k<l.length):jEn n i o l (k+1)=jVC n i (jEn n i o l k) (l.getD k nil):=by
 unfold jEn
 rw[jAS l k h,List.foldl_append];rfl
theorem jHd {n i:Nat}{st:Js}{l:List Pc}{k:Nat}(h:k<l.length):jE4 n i st l (k+1)=jWU n i (jE4 n i st l k) (l.getD k nil):=by
 unfold jE4
 rw[jAS l k h,List.foldl_append];rfl
def JG (o:List Pc)(st:Js):Prop:=o=st.o++flush st.t∧∀y,st.o.getLast? = some y→y.k≠1
def jLV (x:Pc):Prop:=x.k=1→x=⟨1,x.s,false⟩∧0<x.s.size
theorem jOI {x:Pc}(h:jA8 x=0):jLV x:=by
 intro hk
 obtain⟨k,s,c⟩:=x
 dsimp only at hk
 subst hk
 unfold jA8 at h
 cases c
 ·refine⟨rfl,?_⟩
  have hs:¬(s.size=0∨jBK s=false):=fun e=>by
   dsimp only at h
   rw[if_neg (by omega),if_neg (by simp),if_pos rfl,if_pos e]at h
   cases h
  show 0<s.size
  omega
 ·simp at h
theorem JG.add {n i:Nat}{o:List Pc}{st:Js}{x:Pc}(h:JG o st)(hx:jLV x):JG (jVC n i o x) (jWU n i st x):=by
 unfold jVC jWU
 by_cases hi:jDa n i x=true
 ·rw[if_pos hi,if_pos hi];exact h
 ·rw[if_neg hi,if_neg hi]
  have:=jSY h.2 hx
  exact⟨by rw[h.1,this.1],this.2.1⟩
theorem JG.part {n i:Nat}{l:List Pc}(hl:∀k,k<l.length→jLV (l.getD k nil)){o:List Pc}{st:Js}(h:JG o st):∀k,k≤l.length→JG (jEn n i o l k) (jE4 n i st l k)
 | 0,_=>h
 | k+1,hk=>by
   rw[jGB hk,jHd hk]
   exact (JG.part hl h k (by omega)).add (hl k hk)
theorem jE9 {ps:List (List Pc)}:∀ {n:Nat},jBA ps n=0→∀k,k<n→jAu (ps.getD k [])=0
 | n+1,h,k,hk=>by
   simp only[jBA]at h
   by_cases h0:jBA ps n=0
   ·rw[if_neg (by rw[h0];simp)]at h
    rcases Nat.lt_succ_iff_lt_or_eq.1 hk with hk | rfl
    ·exact jE9 h0 k hk
    ·exact h
   ·rw[if_pos h0]at h
    exact absurd h h0
theorem jEB {ps:List (List Pc)}{k:Nat}(h:jBA ps k≠0):∀d,jBA ps (k+d)=jBA ps k
 | 0=>rfl
 | d+1=>by
   have ih:=jEB h d
   show jBA ps (k+d+1)=_
   simp only[jBA]
   rw[if_pos (by rw[ih];exact h),ih]
theorem jFH {ps:List (List Pc)}{k:Nat}(h:jEI ps k=false):∀d,jEI ps (k+d)=false
 | 0=>h
 | d+1=>by
   show jEI ps (k+d+1)=_
   simp only[jEI]
   rw[jFH h d];rfl
theorem JG.all {ps:List (List Pc)}(hc:∀k,k<ps.length→jAu (ps.getD k [])=0):∀i,i≤ps.length→JG (gTo ps i) (jJE ps i)
 | 0,_=>⟨rfl,fun y h=>by cases h⟩
 | i+1,hi=>JG.part (fun k hk=>jOI (jCV (hc i hi) k hk)) (JG.all hc i (by omega)) _ (Nat.le_refl _)
def jCA (ps:List (List Pc)):Int :=
 if ps.length=0 then 1
 else if jBA ps ps.length≠0 then jBA ps ps.length
 else if jEI ps (ps.length-1)=false then 10
 else if 512<(gTo ps ps.length).length then 3 else 0
def jCb (ps:List (List Pc)):List Pc:=if jCA ps=0 then gTo ps ps.length else []
def jCT (ps:List (List Pc)):Nat:=(ps.map bulk).sum
theorem jC7 {ps:List (List Pc)}{k:Nat}(h:k<ps.length):jCT (ps.take (k+1))=jCT (ps.take k)+bulk (ps.getD k []):=by
 unfold jCT
 rw[List.take_add_one,List.getElem?_eq_getElem h,List.getD_eq_getElem?_getD,List.getElem?_eq_getElem h,List.map_append,List.sum_append]
 rfl
theorem jCP (ps:List (List Pc)):∀d k,k+d=ps.length→jCT (ps.take k)≤jCT ps
 | 0,k,h=>by rw[List.take_of_length_le (by omega)];exact Nat.le_refl _
 | d+1,k,h=>by
   have:=jCP ps d (k+1) (by omega)
   rw[jC7 (by omega)]at this
   omega
theorem jMc (n i:Nat)(o:List Pc)(x:Pc):bulk (jVC n i o x)≤bulk o+x.s.size+1:=by
 unfold jVC
 split
 ·omega
 ·unfold jJj
  cases hl:o.getLast? with
  | none=>rw[List.getLast?_eq_none_iff.1 hl];simp[bulk];omega
  | some y =>
    obtain⟨o',rfl⟩:∃o',o=o'++[y]:=by
     rcases List.eq_nil_or_concat o with rfl | ⟨o',z,rfl⟩
     ·cases hl
     ·rw[List.concat_eq_append]at hl ⊢
      rw[List.getLast?_concat]at hl
      cases hl
      exact⟨o',rfl⟩
    dsimp only
    split <;> simp[bulk] <;> omega
theorem jD8 (n i:Nat)(o l:List Pc):∀k,k≤l.length→bulk (jEn n i o l k)≤bulk o+bulk (l.take k)
 | 0,_=>by unfold jEn;simp
 | k+1,hk=>by
   have ih:=jD8 n i o l k (by omega)
   have h1:=jMc n i (jEn n i o l k) (l.getD k nil)
   rw[jGB hk,jAS l k hk]
   have e:bulk (l.take k++[l.getD k nil])=bulk (l.take k)+(l.getD k nil).s.size+1:=by
    unfold bulk
    simp
    omega
   omega
theorem jH9 (ps:List (List Pc)):∀i,i≤ps.length→bulk (gTo ps i)≤jCT (ps.take i)
 | 0,_=>by simp[gTo,jCT,bulk]
 | i+1,hi=>by
   have ih:=jH9 ps i (by omega)
   have h1:=jD8 ps.length i (gTo ps i) (ps.getD i []) _ (Nat.le_refl _)
   rw[List.take_length]at h1
   rw[jC7 hi]
   show bulk (jEn _ _ _ _ _)≤_
   omega
end Go.Proofs.YtldapapdolkiaaaGreatDoor
namespace Go.Proofs.YtldapapdolkiaaaGreatDoor
set_option maxHeartbeats 64000000
open Go Go.RowKit Go.Lib
set_option maxRecDepth 100000
def jDy:Value:=.slice none 0 0
def ptF (us:List Value)(i _j:Nat):Value:=us.getD i jDy
def jDA (w:World)(v:Value)(ps:List (List Pc)):Prop :=
 ∃us:List Value,us.length=ps.length∧jAO w.heap.size w v ps.length 1 (ptF us)∧∀i,i<ps.length→jBe w (us.getD i jDy) (ps.getD i [])
theorem jDA.step {w w':World}{v:Value}{ps:List (List Pc)}(hb:Below w.heap.size w w')(h:jDA w v ps):jDA w' v ps:=by
 obtain⟨us,h1,h2,h3⟩:=h
 exact⟨us,h1,(jAO.below hb h2).mono hb.size,fun i hi=>(h3 i hi).step hb⟩
theorem jDA.form {w:World}{v:Value}{ps:List (List Pc)}(h:jDA w v ps):∃p cap,v=.slice p ps.length cap∧ps.length≤cap∧cap≤maxLen:=by
 obtain⟨_,_,⟨p,cap,e,h1,h2,_⟩,_⟩:=h
 exact⟨p,cap,e,h1,h2⟩
theorem jXG (w:World):jDA w (.slice none 0 0) []:=⟨[],rfl,⟨none,0,rfl,by simp,by simp,fun h=>absurd h (by simp)⟩,fun i hi=>absurd hi (by simp)⟩
theorem jDA.part {w W:World}{p:Option Addr}{cap:Nat}{ps:List (List Pc)}(h:jDA w (.slice p ps.length cap) ps)(hb:Below w.heap.size w W){i:Nat}(hi:i<ps.length) :
 ∃A q c,p=some A∧W.cell? (A.add i)=some (.slice q (ps.getD i []).length c)∧jBe W (.slice q (ps.getD i []).length c) (ps.getD i []):=by
 obtain⟨us,h1,⟨p',cap',e,_,_,h2⟩,h3⟩:=h
 obtain⟨rfl,rfl⟩:p=p'∧cap=cap':=by simpa using e
 obtain⟨A,rfl,hA,hc⟩:=h2 (by omega)
 have hu:=h3 i hi
 have hu2:=hu
 obtain⟨q,c,e2,_⟩:=hu
 have jAj:=hc i 0 hi (by omega)
 rw[show i*1+0=i by omega]at jAj
 refine⟨A,q,c,rfl,?_,?_⟩
 ·rw[hb.cell (by rw[add_block];exact hA),jAj]
  unfold ptF
  rw[e2]
 ·rw[←e2]
  exact hu2.step hb
def jFT (w:World)(g n:Nat)(f:Nat→ByteArray):Prop:=∃cur:Array Value,w.heap[g]? = some (.cells cur 9 (0,0))∧n≤cur.size∧∀j,j<n→cur[j]? = some (.string (f j))
theorem jFT.own {w:World}{B g cap:Nat}{l:List ByteArray}(h:jB9 B (.slice (some ⟨g,0,none⟩) l.length cap) l w):jFT w g l.length (fun j=>l.getD j ByteArray.empty):=by
 rcases h.2 with ⟨h',_⟩ | ⟨g',cap',cur,h',_,hg,hnc,hcm,hcs,jYE⟩
 ·simp at h'
 ·simp only[Value.slice.injEq,Option.some.injEq,Addr.mk.injEq,and_true,true_and]at h'
  obtain⟨rfl,rfl⟩:=h'
  refine⟨cur,hg,by omega,fun j hj=>?_⟩
  rw[Nat.mul_one]at jYE
  rw[←Array.getElem?_toList]
  have e:(cur.toList.take l.length)[j]? = (l.map Value.string)[j]?:=by rw[jYE]
  rw[List.getElem?_take_of_lt hj]at e
  show _=some (Value.string (l.getD j ByteArray.empty))
  rw[e,List.getElem?_map,List.getD_eq_getElem?_getD,List.getElem?_eq_getElem hj]
  rfl
theorem jFT.cell {w:World}{g n:Nat}{f:Nat→ByteArray}(h:jFT w g n f){j:Nat}(hj:j<n):w.cell? ⟨g,j,none⟩=some (.string (f j)):=by
 obtain⟨cur,h1,_,h3⟩:=h
 simp[World.cell?,h1,h3 j hj]
theorem jFT.frozen {w:World}{g n:Nat}{f:Nat→ByteArray}(h:jFT w g n f)(j:Nat):w.frozen? ⟨g,j,none⟩=false:=by
 obtain⟨cur,h1,_⟩:=h
 exact Lib.frozen_of_heap h1 j
theorem jFT.lt {w:World}{g n:Nat}{f:Nat→ByteArray}(h:jFT w g n f):g<w.heap.size:=by
 obtain⟨cur,h1,_⟩:=h
 exact lt_of_block h1
theorem jFT.congr {w:World}{g n:Nat}{f f':Nat→ByteArray}(h:jFT w g n f)(e:∀j,j<n→f j=f' j):jFT w g n f':=by
 obtain⟨cur,h1,h2,h3⟩:=h
 exact⟨cur,h1,h2,fun j hj=>by rw[h3 j hj,e j hj]⟩
theorem jFT.set {w:World}{g n:Nat}{f:Nat→ByteArray}(h:jFT w g n f)(j:Nat)(s:ByteArray):jFT (w.setCell ⟨g,j,none⟩ (.string s)) g n (fun q=>if q=j then s else f q):=by
 obtain⟨cur,h1,h2,h3⟩:=h
 refine⟨cur.setIfInBounds j (.string s),jDe h1 j _,by simpa using h2,fun q hq=>?_⟩
 show _=some (Value.string (if q=j then s else f q))
 by_cases e:q=j
 ·subst e
  rw[if_pos rfl,Array.getElem?_setIfInBounds_self_of_lt (by omega)]
 ·rw[if_neg e,Array.getElem?_setIfInBounds_ne (Ne.symm e)]
  exact h3 q hq
theorem jFT.drew {w:World}{g n k:Nat}{f:Nat→ByteArray}(h:jFT w g n f):jFT (w.drewN k) g n f:=h
theorem jFT.step {w w':World}{g n:Nat}{f:Nat→ByteArray}(hb:Below w.heap.size w w')(h:jFT w g n f):jFT w' g n f:=by
 obtain⟨cur,h1,h2,h3⟩:=h
 exact⟨cur,(hb.block g (lt_of_block h1)).trans h1,h2,h3⟩
end Go.Proofs.YtldapapdolkiaaaGreatDoor
namespace Go.Proofs.YtldapapdolkiaaaGreatDoor
set_option maxHeartbeats 64000000
open Go Go.RowKit Go.Lib
set_option maxRecDepth 100000
theorem jAw.drew {B b:Nat}{a w:World}(h:jAw B b a w):jAw B b a w.drew:=⟨h.os,h.tape,h.output,h.size,h.block⟩
theorem jMo (w:World)(p:Option Addr)(cap:Nat):Calls Tryz.prog 99 #[.slice p 0 cap] w fun e w'=>e=.returned (.tuple #[])∧w'=w:=by
 go_enter Tryz.func99,Tryz.ntmps99
 go_wp2
 go_loopw [2,3] (fun i j wr=>i=.int .i64 0∧j=.int .i64 (-1)∧wr=w) (fun _ _ _=>0)
 case atStart=>exact⟨rfl,rfl,rfl⟩
 case round =>
  obtain⟨rfl,rfl,rfl⟩:=hrel
  go_wp2
  go_end0
  exact⟨rfl,rfl⟩
def turned (n k:Nat)(f:Nat→ByteArray)(q:Nat):ByteArray:=if q<k∨n-k≤q then f (n-1-q) else f q
theorem jRd {n k:Nat}{f:Nat→ByteArray}(h:¬k<n-1-k){q:Nat}(hq:q<n):turned n k f q=f (n-1-q):=by
 unfold turned
 split
 ·rfl
 ·rw[show n-1-q=q by omega]
theorem jNX {n k:Nat}{f:Nat→ByteArray}(h:k<n-1-k){q:Nat}(hq:q<n) :
 (if q=n-1-k then turned n k f k else if q=k then turned n k f (n-1-k) else turned n k f q)=turned n (k+1) f q:=by
 have e1:turned n k f k=f k:=by unfold turned;rw[if_neg (by omega)]
 have e2:turned n k f (n-1-k)=f (n-1-k):=by unfold turned;rw[if_neg (by omega)]
 rw[e1,e2]
 by_cases h1:q=n-1-k
 ·rw[if_pos h1]
  unfold turned
  rw[if_pos (by omega),show n-1-q=k by omega]
 ·rw[if_neg h1]
  by_cases h2:q=k
  ·rw[if_pos h2]
   unfold turned
   rw[if_pos (by omega),h2]
  ·rw[if_neg h2]
   unfold turned
   by_cases h3:q<k∨n-k≤q
   ·rw[if_pos h3,if_pos (by omega)]
   ·rw[if_neg h3,if_neg (by omega)]
theorem jOg (g n cap:Nat)(f:Nat→ByteArray)(w:World)(hR:jFT w g n f)(h1:1≤n)(hn:n≤3000) :
 Calls Tryz.prog 99 #[.slice (some ⟨g,0,none⟩) n cap] w fun e w'=>e=.returned (.tuple #[])∧jFT w' g n (fun q=>f (n-1-q))∧jAw w.heap.size g w w':=by
 have HR0:Hid (jFT w g n (turned n 0 f)):=hR.congr (fun q hq=>by unfold turned;rw[if_neg (by omega)])
 have hw1:IntKind.i64.wrap ((n:Int)-1)=((n-1:Nat):Int):=by rw[IntKind.wrap_i64] <;> omega
 clear hR
 go_enter Tryz.func99,Tryz.ntmps99
 go_wp2
 go_loopw [2,3] (fun i j wr=>∃k:Nat,2*k≤n∧i=.int .i64 k∧j=.int .i64 ((n-1-k:Nat):Int)∧Hid (jFT wr g n (turned n k f))∧Hid (jAw w.heap.size g w wr)) (fun i _ _=>n-(RowKit.intOf i).toNat)
 case atStart=>exact⟨0,by omega,rfl,(by first | rfl | (rw[Nat.sub_zero];go_num)),HR0.out,jAw.refl _ _ _⟩
 case round =>
  obtain⟨k,hk,rfl,rfl,HR,HK⟩:=hrel
  by_cases hlt:k<n-1-k
  ·have HN:=hid (fun q (hq:q<n)=>jNX (f:=f) hlt hq)
   have hm0:n-1-k<n:=by omega
   have hkk:2*(k+1)≤n:=by omega
   have hk0:k<n:=by omega
   have x0:=HR.out.cell hk0
   have x1:=HR.out.cell hm0
   have HM:Hid (n-1-(k+1)=n-1-k-1):=by show _=_;omega
   obtain⟨m,hm⟩:∃m,m=n-1-k:=⟨_,rfl⟩
   rw[←hm]at hlt hm0 x1 HN HM ⊢
   have hmi:(m:Int)<(n:Int):=by omega
   have hki:(k:Int)<(n:Int):=by omega
   have hkm:(k:Int)<(m:Int):=by omega
   have k0:(0:Int)≤(k:Int):=by omega
   have m0:(0:Int)≤(m:Int):=by omega
   generalize hsk:turned n k f k=sk at x0 HN
   generalize hsm:turned n k f m=sm at x1 HN
   clear hsk hsm hm
   go_wp2
   refine jCM (fun w'=>w'.cell? ⟨g,k,none⟩=some (.string sk)∧w'.cell? ⟨g,m,none⟩=some (.string sm)) [12] (by kernel_rfl) ⟨x0,x1⟩ (fun hHeld=>?_)
   refine jAK (i:=0) (v:=?va1x0) rfl (by kernel_rfl) (by kernel_rfl) (by kernel_rfl) (by kernel_rfl) (fun _ _ _ h=>h) (Or.inl ⟨by rfl,?hy1x0⟩) (fun _=>hHeld) ?re1x0
   case hy1x0=>(intro w9 _;go_simp;try with_reducible rfl)
   refine jAK (i:=1) (v:=?va2x1) rfl (by kernel_rfl) (by kernel_rfl) (by kernel_rfl) (by kernel_rfl) (fun _ _ _ h=>h) (Or.inl ⟨by rfl,?hy2x1⟩) (fun _=>hHeld) ?re2x1
   case hy2x1=>(intro w9 _;go_simp;try with_reducible rfl)
   refine jAK (i:=2) (v:=?va3x2) rfl (by kernel_rfl) (by kernel_rfl) (by kernel_rfl) (by kernel_rfl) (fun _ _ _ h=>h) (Or.inl ⟨by rfl,?hy3x2⟩) (fun _=>hHeld) ?re3x2
   case hy3x2=>(intro w9 _;go_simp;try with_reducible rfl)
   refine jAK (i:=3) (v:=?va4x3) rfl (by kernel_rfl) (by kernel_rfl) (by kernel_rfl) (by kernel_rfl) (fun _ _ _ h=>h) (Or.inl ⟨by rfl,?hy4x3⟩) (fun _=>hHeld) ?re4x3
   case hy4x3=>(intro w9 _;go_simp;try with_reducible rfl)
   refine jAK (i:=4) (v:=?va5x4) rfl (by kernel_rfl) (by kernel_rfl) (by kernel_rfl) (by kernel_rfl) (fun _ _ _ h=>h) (Or.inl ⟨by rfl,?hy5x4⟩) (fun _=>hHeld) ?re5x4
   case hy5x4=>(intro w9 _;go_simp;try with_reducible rfl)
   refine jAK (i:=5) (v:=?va6x5) rfl (by kernel_rfl) (by kernel_rfl) (by kernel_rfl) (by kernel_rfl) (fun _ _ _ h=>h) (Or.inl ⟨by rfl,?hy6x5⟩) (fun _=>hHeld) ?re6x5
   case hy6x5=>(intro w9 _;go_simp;try with_reducible rfl)
   refine jAK (i:=6) (v:=?va7x6) rfl (by kernel_rfl) (by kernel_rfl) (by kernel_rfl) (by kernel_rfl) (fun _ _ _ h=>h) (Or.inl ⟨by rfl,?hy7x6⟩) (fun _=>hHeld) ?re7x6
   case hy7x6=>(intro w9 _;go_simp;try with_reducible rfl)
   refine jBn (i:=7) 12 (v:=?va8x7) rfl (by kernel_rfl) (by kernel_rfl) (by kernel_rfl) (by kernel_rfl) (fun _ _ _ h=>h) (Or.inl ⟨by rfl,?hy8x7⟩) hHeld ?re8x7
   case hy8x7=>(intro w9 hSw;(try dsimp only at hSw);go_simp;try with_reducible rfl)
   refine jAK (i:=8) (v:=?va9x8) rfl (by kernel_rfl) (by kernel_rfl) (by kernel_rfl) (by kernel_rfl) (fun _ _ _ h=>h) (Or.inl ⟨by rfl,?hy9x8⟩) (fun _=>hHeld) ?re9x8
   case hy9x8=>(intro w9 _;go_simp;try with_reducible rfl)
   refine jAK (i:=9) (v:=?va10x9) rfl (by kernel_rfl) (by kernel_rfl) (by kernel_rfl) (by kernel_rfl) (fun _ _ _ h=>h) (Or.inl ⟨by rfl,?hy10x9⟩) (fun _=>hHeld) ?re10x9
   case hy10x9=>(intro w9 _;go_simp;try with_reducible rfl)
   refine jAK (i:=10) (v:=?va11x10) rfl (by kernel_rfl) (by kernel_rfl) (by kernel_rfl) (by kernel_rfl) (fun _ _ _ h=>h) (Or.inl ⟨by rfl,?hy11x10⟩) (fun _=>hHeld) ?re11x10
   case hy11x10=>(intro w9 _;go_simp;try with_reducible rfl)
   refine jBn (i:=11) 12 (v:=?va12x11) rfl (by kernel_rfl) (by kernel_rfl) (by kernel_rfl) (by kernel_rfl) (fun _ _ _ h=>h) (Or.inl ⟨by rfl,?hy12x11⟩) hHeld ?re12x11
   case hy12x11=>(intro w9 hSw;(try dsimp only at hSw);go_simp;try with_reducible rfl)
   refine jAY (rs:=[12]) (by kernel_rfl) (by simp) ?_
   refine jAF.cons rfl (fun K hK=>?_) jAF.nil
   go_simp
   refine hK.out _ _ (fun h=>Bool.noConfusion (h.symm.trans (by kernel_rfl:_=false))) ?_
   clear hK K
   have f0:wr.frozen? ⟨g,k,none⟩=false:=HR.out.frozen k
   refine jAY (rs:=[13]) (by kernel_rfl) (by simp) ?_
   refine jAF.cons rfl (fun K hK=>?_) jAF.nil
   go_simp
   refine hK.out _ _ (fun h=>Bool.noConfusion (h.symm.trans (by kernel_rfl:_=false))) ?_
   clear hK K
   refine jAY (rs:=[14]) (by kernel_rfl) (by simp) ?_
   refine jAF.cons rfl (fun K hK=>?_) jAF.nil
   go_simp
   refine hK.out _ _ (fun h=>Bool.noConfusion (h.symm.trans (by kernel_rfl:_=false))) ?_
   clear hK K
   have HR2:Hid (jFT (wr.drew.setCell ⟨g,k,none⟩ (.string sm)) g n (fun q=>if q=k then sm else turned n k f q)):=jFT.set (w:=wr.drew) HR.out k sm
   have x1d:=HR2.out.cell hm0
   have f1:wr.frozen? ⟨g,m,none⟩=false:=HR.out.frozen m
   refine jAY (rs:=[15]) (by kernel_rfl) (by simp) ?_
   refine jAF.cons rfl (fun K hK=>?_) jAF.nil
   go_simp
   refine hK.out _ _ (fun h=>Bool.noConfusion (h.symm.trans (by kernel_rfl:_=false))) ?_
   clear hK K
   refine jEw (by kernel_rfl) ?_ _
   have HR3:=hid ((HR2.out.set m sk).congr HN.out)
   have HK3:=hid ((HK.out.drew.setCell k (.string sm)).setCell m (.string sk))
   go_wp2
   go_roundw
   case rel=>exact⟨k+1,hkk,by go_num,by rw[HM.out];go_num,HR3.out,HK3.out⟩
   case measure=>simp[RowKit.intOf] <;> omega
  ·have HF:=hid (HR.out.congr (fun q hq=>jRd hlt hq))
   obtain⟨m,hm⟩:∃m,m=n-1-k:=⟨_,rfl⟩
   rw[←hm]at hlt ⊢
   have hkm:¬(k:Int)<(m:Int):=by omega
   clear hm
   go_wp2
   go_end0
   exact⟨rfl,HF.out,HK.out⟩
end Go.Proofs.YtldapapdolkiaaaGreatDoor
namespace Go.Proofs.YtldapapdolkiaaaGreatDoor
set_option maxHeartbeats 64000000
open Go Go.RowKit Go.Lib
set_option maxRecDepth 100000
theorem bdN (w:World)(n:Nat):Below w.heap.size w (w.drewN n):=⟨rfl,rfl,rfl,Nat.le_refl _,fun _ _=>rfl⟩
theorem jAG {W:World}{Bn:Nat}{x:Pc}(h:W.heap[Bn]? = some (pcC x)):W.cell? ⟨Bn,0,none⟩=some (.int .u8 x.k)∧W.cell? ⟨Bn,1,none⟩=some (.string x.s)∧W.cell? ⟨Bn,2,none⟩=some (.bool x.c) :=
 ⟨(Lib.cell_of_heap h 0).trans rfl,(Lib.cell_of_heap h 1).trans rfl,(Lib.cell_of_heap h 2).trans rfl⟩
theorem jHH {l:List Pc}{k:Nat}(h:k<l.length):jA0 (l.take (k+1))=jA0 (l.take k)++(if ccB (l.getD k nil)=true then [(l.getD k nil).s] else []):=by
 unfold jA0
 rw[jAS l k h,List.filter_append,List.map_append]
 congr 1
 generalize l.getD k nil=x
 by_cases e:ccB x=true
 ·rw[if_pos e,List.filter_cons_of_pos e];rfl
 ·rw[if_neg e,List.filter_cons_of_neg e];rfl
theorem jJq {l:List Pc}{k:Nat}(h:k<l.length):jBf (l.take (k+1))=jBf (l.take k)++(if coB (l.getD k nil)=true then [(l.getD k nil).s] else []):=by
 unfold jBf
 rw[jAS l k h,List.filter_append,List.map_append]
 congr 1
 generalize l.getD k nil=x
 by_cases e:coB x=true
 ·rw[if_pos e,List.filter_cons_of_pos e];rfl
 ·rw[if_neg e,List.filter_cons_of_neg e];rfl
theorem jFF (l:List Pc):(jA0 l).length≤l.length:=by unfold jA0;rw[List.length_map];exact List.length_filter_le _ _
theorem jFl (l:List Pc):(jBf l).length≤l.length:=by unfold jBf;rw[List.length_map];exact List.length_filter_le _ _
def jJP (w:World)(v:Value)(n:Nat)(f:Nat→ByteArray):Prop:=jAO w.heap.size w v n 1 (fun i _=>.string (f i))
theorem jJP.step {w w':World}{v:Value}{n:Nat}{f:Nat→ByteArray}(hb:Below w.heap.size w w')(h:jJP w v n f):jJP w' v n f:=(jAO.below hb h).mono hb.size
theorem jJP.own {w:World}{B:Nat}{v:Value}{l:List ByteArray}(h:jB9 B v l w):jJP w v l.length (fun j=>l.getD j ByteArray.empty):=by
 obtain⟨ao,cap,rfl⟩:=h.form
 rcases h.2 with ⟨hv,h0⟩ | ⟨g,cap',cur,hv,hg,hh,hn,hm,_⟩
 ·exact⟨ao,cap,rfl,by omega,by simp at hv;obtain⟨_,_,rfl⟩:=hv;unfold maxLen;omega,fun h=>by omega⟩
 ·simp at hv
  obtain⟨rfl,rfl⟩:=hv
  have hr:=jFT.own h
  exact⟨_,cap,rfl,hn,hm,fun _=>⟨_,rfl,hr.lt,fun i j hi hj=>by
   rw[show i*1+j=i by omega,jHK]
   exact hr.cell hi⟩⟩
theorem jJP.row {w:World}{g n cap:Nat}{f:Nat→ByteArray}(h:jFT w g n f)(h1:n≤cap)(h2:cap≤maxLen):jJP w (.slice (some ⟨g,0,none⟩) n cap) n f :=
 ⟨_,cap,rfl,h1,h2,fun _=>⟨_,rfl,h.lt,fun i j hi hj=>by
  rw[show i*1+j=i by omega,jHK]
  exact h.cell hi⟩⟩
theorem jJP.cell {w wr:World}{p:Option Addr}{n cap:Nat}{f:Nat→ByteArray}(h:jJP w (.slice p n cap) n f)(hb:Below w.heap.size w wr){i:Nat}(hi:i<n):∃A,p=some A∧wr.cell? (A.add i)=some (.string (f i)):=by
 obtain⟨p',cap',e,_,_,h3⟩:=h
 obtain⟨rfl,rfl⟩:p=p'∧cap=cap':=by simpa using e
 obtain⟨A,rfl,hA,hc⟩:=h3 (by omega)
 refine⟨A,rfl,?_⟩
 have:=hc i 0 hi (by omega)
 rw[show i*1+0=i by omega]at this
 rw[hb.cell (by rw[add_block];exact hA),this]
def eqB (n m:Nat)(f h:Nat→ByteArray):Bool:=decide (n=m) && (List.range n).all fun i=>decide (f i=h i)
theorem jWH {n m i:Nat}{f h:Nat→ByteArray}(hi:i<n)(hne:f i≠h i):eqB n m f h=false:=by
 unfold eqB
 rw[Bool.and_eq_false_iff]
 right
 rw[List.all_eq_false]
 exact⟨i,List.mem_range.2 hi,by simp[hne]⟩
theorem jSX {n:Nat}{f h:Nat→ByteArray}(jDY:∀i,i<n→f i=h i):eqB n n f h=true:=by
 unfold eqB
 simp
 exact jDY
theorem jKu (n m:Nat)(f h:Nat→ByteArray)(u v:Value)(w:World)(hu:jJP w u n f)(hv:jJP w v m h) :
 Calls Tryz.prog 100 #[u,v] w fun e w'=>e=.returned (.bool (eqB n m f h))∧Below w.heap.size w w':=by
 have HU:=hid hu
 have HV:=hid hv
 obtain⟨p,cap,rfl,hl,hc,_⟩:=hu
 obtain⟨p2,cap2,rfl,hl2,hc2,_⟩:=hv
 unfold maxLen at hc hc2
 by_cases hnm:n=m
 ·subst hnm
  have hne:((n:Int) != (n:Int))=false:=by simp
  have HF:=hid (fun (i:Nat) (hi:i<n) (h1:f i≠h i)=>jWH (m:=n) hi h1)
  have HY:=hid (fun (h1:∀i,i<n→f i=h i)=>jSX h1)
  generalize eqB n n f h=R at *
  go_enter Tryz.func100,Tryz.ntmps100
  go_wp2
  go_loopw [5,13] (fun _ i wr=>∃k:Nat,k≤n∧i=.int .i64 k∧Hid (∀i,i<k→f i=h i)∧Hid (Below w.heap.size w wr)) (fun _ i _=>n-(RowKit.intOf i).toNat)
  case atStart=>exact⟨0,Nat.zero_le _,rfl,fun i hi=>absurd hi (Nat.not_lt_zero _),Below.refl _ _⟩
  case round =>
   obtain⟨k,hk,rfl,HS,HB⟩:=hrel
   by_cases hlt:k<n
   ·obtain⟨A,rfl,x0⟩:=HU.out.cell HB.out hlt
    obtain⟨A2,rfl,y0⟩:=HV.out.cell HB.out hlt
    have hki:(k:Int)<(n:Int):=by omega
    have hk0:(0:Int)≤(k:Int):=by omega
    by_cases hs:f k=h k
    ·have jUc:((f k).toList == (h k).toList)=true:=by rw[hs];simp
     have HS2:Hid (∀i,i<k+1→f i=h i):=fun i hi=>by
      rcases Nat.lt_succ_iff_lt_or_eq.1 hi with h1 | rfl
      ·exact HS.out i h1
      ·exact hs
     clear hs
     generalize f k=s at x0 jUc
     generalize h k=t at y0 jUc
     go_wp2
     go_quiet (fail)
     go_wp2
     go_roundw
     case rel=>exact⟨k+1,hlt,by go_num,HS2.out,jAa HB.out (bdN _ _)⟩
     case measure=>simp[RowKit.intOf] <;> omega
    ·have jUc:((f k).toList == (h k).toList)=false:=by
      simp
      intro e
      exact hs (jGf e)
     have HR:=hid (HF.out k hlt hs)
     clear hs
     generalize f k=s at x0 jUc
     generalize h k=t at y0 jUc
     go_wp2
     go_quiet (fail)
     go_wp2
     go_ret
     exact⟨by rw[HR.out];rfl,jAa HB.out (bdN _ _)⟩
   ·have HR:=hid (HY.out (fun i hi=>HS.out i (by omega)))
    have hki:¬(k:Int)<(n:Int):=by omega
    go_wp2
    go_ret
    exact⟨by rw[HR.out];rfl,HB.out⟩
 ·have HR:Hid (eqB n m f h=false):=by show _=_;unfold eqB;simp[hnm]
  have hne:((n:Int) != (m:Int))=true:=by simp;omega
  go_enter Tryz.func100,Tryz.ntmps100
  go_wp2
  go_ret
  exact⟨by rw[HR.out];rfl,Below.refl _ _⟩
end Go.Proofs.YtldapapdolkiaaaGreatDoor
namespace Go.Proofs.YtldapapdolkiaaaGreatDoor
set_option maxHeartbeats 64000000
open Go Go.RowKit Go.Lib
set_option maxRecDepth 100000
theorem jZm (a b:List Pc):eqB (jA0 a).length (jBf b).length (fun j=>(jA0 a).getD j ByteArray.empty) (fun q=>(jBf b).getD ((jBf b).length-1-q) ByteArray.empty)=jUH a b:=by
 unfold jUH
 generalize jA0 a=l
 generalize jBf b=m
 by_cases h:l=m.reverse
 ·subst h
  rw[List.length_reverse,decide_eq_true rfl]
  refine jSX (fun i hi=>?_)
  rw[List.getD_eq_getElem?_getD,List.getD_eq_getElem?_getD,List.getElem?_reverse hi]
 ·rw[decide_eq_false h]
  by_cases hl:l.length=m.length
  ·have:∃i,i<l.length∧l.getD i ByteArray.empty≠m.getD (m.length-1-i) ByteArray.empty:=by
    refine Classical.byContradiction fun hn=>h (List.ext_getElem? fun i=>?_)
    by_cases hi:i<l.length
    ·have he:l.getD i ByteArray.empty=m.getD (m.length-1-i) ByteArray.empty:=Classical.byContradiction fun hx=>hn ⟨i,hi,hx⟩
     rw[List.getElem?_reverse (by omega),List.getElem?_eq_getElem hi,List.getElem?_eq_getElem (by omega)]
     rw[List.getD_eq_getElem?_getD,List.getD_eq_getElem?_getD,List.getElem?_eq_getElem hi,List.getElem?_eq_getElem (by omega)]at he
     exact congrArg some he
    ·rw[List.getElem?_eq_none (by omega),List.getElem?_eq_none (by simp;omega)]
   obtain⟨i,hi,hne⟩:=this
   exact jWH hi hne
  ·unfold eqB
   simp[hl]
theorem jYf (a b:List Pc)(u v:Value)(w:World)(ha:jBe w u a)(hb:jBe w v b)(hal:a.length≤3000)(hbl:b.length≤3000) :
 Calls Tryz.prog 50 #[u,v] w fun e w'=>e=.returned (.bool (jUH a b))∧Below w.heap.size w w':=by
 obtain⟨i0,hi,hz0,hz1,hz2⟩:=info_parts jFi
 have ag:=Tryz.isAgg76
 have zg:=Tryz.sizeOf76
 have HPB:=hid hb
 obtain⟨pa,capa,rfl,hla,hca,hra⟩:=ha
 obtain⟨pb,capb,rfl,hlb,hcb2,hrb⟩:=hb
 unfold maxLen at hca hcb2
 have HRA:=hid hra
 clear hra hrb
 go_enter Tryz.func50,Tryz.ntmps50
 go_wp2
 go_loopw [5,13] (fun o i wr=>∃k:Nat,k≤a.length∧i=.int .i64 k∧Hid (jB9 w.heap.size o (jA0 (a.take k)) wr)∧Hid (Below w.heap.size w wr)) (fun _ i _=>a.length-(RowKit.intOf i).toNat)
 case atStart=>exact⟨0,Nat.zero_le _,rfl,World.ownsRow_nil _ _ _ _,Below.refl _ _⟩
 case round =>
  obtain⟨k,hk,rfl,HO,HB⟩:=hrel
  by_cases hlt:k<a.length
  ·obtain⟨A,rfl,hA,jAj⟩:=HRA.out (by omega)
   obtain⟨x0,x1,x2⟩:=jAU hA jAj hlt HB.out
   have HT:=hid (jHH hlt)
   have hpl:=jFF (a.take k)
   have htk:(a.take k).length≤a.length:=by rw[List.length_take];omega
   clear jAj
   generalize a.getD k nil=x at x0 x1 x2 HT
   generalize jA0 (a.take k)=pre at HO HT hpl
   obtain⟨xk,xs,xc⟩:=x
   dsimp only at x0 x1 x2
   have jRD:pre.length≤3000:=by omega
   have HO1:=hid (HO.out.step (jAb (.cells #[.int .u8 xk,.string xs,.bool xc] 76)))
   have HB1:=hid (jAa HB.out (jAb (.cells #[.int .u8 xk,.string xs,.bool xc] 76)))
   have HX1:=hid (show (wr.alloc (.cells #[.int .u8 xk,.string xs,.bool xc] 76)).heap[wr.heap.size]? = some (pcC ⟨xk,xs,xc⟩) from heap_alloc_new wr _)
   have cC:=fun W=>jBB ⟨xk,xs,xc⟩ W
   unfold pcV at cC
   dsimp only at cC
   obtain⟨ao,ca2,hfo⟩:=HO.out.form
   subst hfo
   cases hcb:ccB ⟨xk,xs,xc⟩
   ·rw[hcb]at cC
    have HT2:=hid (show jA0 (a.take (k+1))=pre by rw[HT.out,hcb];simp)
    clear hcb HT
    go_wp2_with (go_at_call 52;(with_reducible refine (cC _).mono ?_);rintro e w5 ⟨rfl,hb5⟩;have HO5:=hid (HO1.out.step hb5);have HB5:=hid (jAa HB1.out hb5);clear hb5)
    go_roundw
    case rel=>exact⟨k+1,hlt,by go_num,by show jB9 _ _ _ _;rw[HT2.out];exact HO5.out,HB5.out⟩
    case measure=>simp[RowKit.intOf] <;> omega
   ·rw[hcb]at cC
    have HT2:=hid (show jA0 (a.take (k+1))=pre++[xs] by rw[HT.out,hcb];rfl)
    clear hcb HT
    go_wp2_with (first
     | (go_at_call 52;(with_reducible refine (cC _).mono ?_);rintro e w5 ⟨rfl,hb5⟩;have HO5:=hid (HO1.out.step hb5);have HB5:=hid (jAa HB1.out hb5);have HX5:=hid ((hb5.block _ (lt_of_block HX1.out)).trans HX1.out);obtain⟨y0,y1,y2⟩:=jAG HX5.out;dsimp only at y0 y1 y2;clear hb5)
     | (at_builtin;have jAN:=HO5.out;unfold jB9 at jAN;have jW0:=HB5.out.size;refine wpList_append_own _ rfl _ _ 49 rfl w.heap.size 9 i0 (.string ⟨#[]⟩) 1 16 Tryz.underlying49 hi hz0 hz1 hz2 rfl (by decide) _ _ _ rfl (jAN.alloc (.cells #[.string xs] 9)) _ 1 1 [.string xs] rfl rfl (jBH _ _ _) (fun x hx=>by simp at hx;subst hx;rfl) (by unfold maxLen;omega) (by omega) (by simp;omega) ?_;intro v6 w6 jA5 jAv jC8
        have HB6:=hid ((HB5.out.alloc jW0 (.cells #[.string xs] 9)).grown jAv (by simp;omega) (fun k hk=>(jAN.lt k hk).1))
        have HO6:=hid (show jB9 w.heap.size v6 (pre++[xs]) w6 by unfold jB9;rw[List.length_append,List.map_append];exact jA5)
        clear jAN jA5 jAv jC8 jW0))
    go_roundw
    case rel=>exact⟨k+1,hlt,by go_num,by show jB9 _ _ _ _;rw[HT2.out];exact HO6.out,HB6.out⟩
    case measure=>simp[RowKit.intOf] <;> omega
  ·obtain rfl:k=a.length:=by omega
   rw[List.take_length]at HO
   have HCA:=hid HO.out
   have HB1w:=hid HB.out
   have HPB1:=HPB.out.step HB.out
   obtain⟨pb2,capb2,e2,_,_,hrb1⟩:=HPB1
   obtain⟨rfl,rfl⟩:pb=pb2∧capb=capb2:=by simpa using e2
   have HRB:=hid hrb1
   clear hrb1 e2 HO HB HRA
   obtain⟨w1,hw1⟩:∃x,x=wr:=⟨_,rfl⟩
   subst hw1
   go_wp2
   go_loopw [6,27] (fun o i wr=>∃k:Nat,k≤b.length∧i=.int .i64 k∧Hid (jB9 w1.heap.size o (jBf (b.take k)) wr)∧Hid (Below w1.heap.size w1 wr)) (fun _ i _=>b.length-(RowKit.intOf i).toNat)
   case atStart=>exact⟨0,Nat.zero_le _,rfl,World.ownsRow_nil _ _ _ _,Below.refl _ _⟩
   case round =>
    obtain⟨k,hk,rfl,HO,HB⟩:=hrel
    by_cases hlt:k<b.length
    ·obtain⟨A,rfl,hA,jAj⟩:=HRB.out (by omega)
     obtain⟨x0,x1,x2⟩:=jAU hA jAj hlt HB.out
     have HT:=hid (jJq hlt)
     have hpl:=jFl (b.take k)
     have htk:(b.take k).length≤b.length:=by rw[List.length_take];omega
     clear jAj
     generalize b.getD k nil=x at x0 x1 x2 HT
     generalize jBf (b.take k)=pre at HO HT hpl
     obtain⟨xk,xs,xc⟩:=x
     dsimp only at x0 x1 x2
     have jRD:pre.length≤3000:=by omega
     have HO1:=hid (HO.out.step (jAb (.cells #[.int .u8 xk,.string xs,.bool xc] 76)))
     have HB1:=hid (jAa HB.out (jAb (.cells #[.int .u8 xk,.string xs,.bool xc] 76)))
     have HX1:=hid (show (wr.alloc (.cells #[.int .u8 xk,.string xs,.bool xc] 76)).heap[wr.heap.size]? = some (pcC ⟨xk,xs,xc⟩) from heap_alloc_new wr _)
     have cC:=fun W=>jBI ⟨xk,xs,xc⟩ W
     unfold pcV at cC
     dsimp only at cC
     obtain⟨ao,ca2,hfo⟩:=HO.out.form
     subst hfo
     cases hcb:coB ⟨xk,xs,xc⟩
     ·rw[hcb]at cC
      have HT2:=hid (show jBf (b.take (k+1))=pre by rw[HT.out,hcb];simp)
      clear hcb HT
      go_wp2_with (go_at_call 51;(with_reducible refine (cC _).mono ?_);rintro e w5 ⟨rfl,hb5⟩;have HO5:=hid (HO1.out.step hb5);have HB5:=hid (jAa HB1.out hb5);clear hb5)
      go_roundw
      case rel=>exact⟨k+1,hlt,by go_num,by show jB9 _ _ _ _;rw[HT2.out];exact HO5.out,HB5.out⟩
      case measure=>simp[RowKit.intOf] <;> omega
     ·rw[hcb]at cC
      have HT2:=hid (show jBf (b.take (k+1))=pre++[xs] by rw[HT.out,hcb];rfl)
      clear hcb HT
      go_wp2_with (first
       | (go_at_call 51;(with_reducible refine (cC _).mono ?_);rintro e w5 ⟨rfl,hb5⟩;have HO5:=hid (HO1.out.step hb5);have HB5:=hid (jAa HB1.out hb5);have HX5:=hid ((hb5.block _ (lt_of_block HX1.out)).trans HX1.out);obtain⟨y0,y1,y2⟩:=jAG HX5.out;dsimp only at y0 y1 y2;clear hb5)
       | (at_builtin;have jAN:=HO5.out;unfold jB9 at jAN;have jW0:=HB5.out.size;refine wpList_append_own _ rfl _ _ 49 rfl w1.heap.size 9 i0 (.string ⟨#[]⟩) 1 16 Tryz.underlying49 hi hz0 hz1 hz2 rfl (by decide) _ _ _ rfl (jAN.alloc (.cells #[.string xs] 9)) _ 1 1 [.string xs] rfl rfl (jBH _ _ _) (fun x hx=>by simp at hx;subst hx;rfl) (by unfold maxLen;omega) (by omega) (by simp;omega) ?_;intro v6 w6 jA5 jAv jC8
          have HB6:=hid ((HB5.out.alloc jW0 (.cells #[.string xs] 9)).grown jAv (by simp;omega) (fun k hk=>(jAN.lt k hk).1))
          have HO6:=hid (show jB9 w1.heap.size v6 (pre++[xs]) w6 by unfold jB9;rw[List.length_append,List.map_append];exact jA5)
          clear jAN jA5 jAv jC8 jW0))
      go_roundw
      case rel=>exact⟨k+1,hlt,by go_num,by show jB9 _ _ _ _;rw[HT2.out];exact HO6.out,HB6.out⟩
      case measure=>simp[RowKit.intOf] <;> omega
    ·obtain rfl:k=b.length:=by omega
     rw[List.take_length]at HO
     have HE:=hid (jZm a b)
     have hob:=jFl b
     have jYF:=HB.out.size
     obtain⟨ao,ca2,hfo⟩:=HCA.out.form
     subst hfo
     by_cases h0:(jBf b).length=0
     ·obtain⟨ao2,ca3,hfo⟩:=HO.out.form
      subst hfo
      have HW2:=hid (jJP.own HO.out)
      have cE:=fun W (h1:Below wr.heap.size wr W)=>jKu _ _ _ _ _ _ W ((jJP.own HCA.out).step (jAa HB.out h1)) (HW2.out.step h1)
      have hE:eqB (jA0 a).length (jBf b).length (fun j=>(jA0 a).getD j ByteArray.empty) (fun j=>(jBf b).getD j ByteArray.empty)=jUH a b:=by
       rw[←HE.out]
       unfold eqB
       by_cases hq:(jA0 a).length=0
       ·rw[hq,h0];rfl
       ·have:(jA0 a).length≠(jBf b).length:=by omega
        simp[this]
      rw[hE]at cE
      rw[h0]at cE ⊢
      have cR:=fun W=>jMo W ao2 ca3
      go_wp2_with (first
       | (go_at_call 99;(with_reducible refine (cR _).mono ?_);rintro e w6 ⟨rfl,rfl⟩)
       | (go_at_call 100;(with_reducible refine (cE _ (Below.refl _ _)).mono ?_);rintro e w7 ⟨rfl,hb7⟩))
      go_ret
      exact⟨rfl,jAa (jAa HB1w.out HB.out) hb7⟩
     ·have jAN:=HO.out
      rcases jAN.2 with ⟨_,h00⟩ | ⟨g,cap,cur,hv2,hg,hgg,hnc,hcm,_⟩
      ·exact absurd h00 h0
      ·have HO2:=HO.out
       obtain rfl:=hv2
       have hr:=jFT.own HO2
       have cR:=jOg g (jBf b).length cap _ wr hr (by omega) (by omega)
       have cE:=fun W (hk:Below w1.heap.size wr W) (jA4:jFT W g (jBf b).length (fun q=>(jBf b).getD ((jBf b).length-1-q) ByteArray.empty))=>jKu _ _ _ _ _ _ W ((jJP.own HCA.out).step (HB.out.trans hk)) (jJP.row jA4 hnc hcm)
       rw[HE.out]at cE
       have jBi:(jBf b).length≤3000:=by omega
       clear jAN hgg hr HO2
       go_wp2_with (first
        | (go_at_call 99;(with_reducible refine cR.mono ?_);rintro e w6 ⟨rfl,jZX,hk6⟩;have HK6:=hid (hk6.below (C:=w1.heap.size) jYF hg);have HW6:=hid jZX;clear jZX hk6)
        | (go_at_call 100;(with_reducible refine (cE _ HK6.out HW6.out).mono ?_);rintro e w7 ⟨rfl,hb7⟩))
       go_ret
       exact⟨rfl,jAa (HB1w.out.trans ((HB.out.trans HK6.out).mono HB1w.out.size)) hb7⟩
end Go.Proofs.YtldapapdolkiaaaGreatDoor
namespace Go.Proofs.YtldapapdolkiaaaGreatDoor
set_option maxHeartbeats 64000000
open Go Go.RowKit Go.Lib
set_option maxRecDepth 100000
theorem jIR (l m:List Pc):bulk (l++m)=bulk l+bulk m:=by
 unfold bulk
 simp
 omega
theorem jNB (t:List UInt8):t.length≤bulk (flush t):=by
 unfold flush
 split
 ·rename_i e;subst e;simp
 ·rw[jBY]
  show _≤bulk []+(bytes t).size+1
  have:(bytes t).size=t.length:=rfl
  omega
theorem JG.small {o:List Pc}{st:Js}(h:JG o st){N:Nat}(hb:bulk o≤N):st.o.length≤N∧st.t.length≤N:=by
 rw[h.1,jIR]at hb
 have h1:=jNB st.t
 have h2:st.o.length≤bulk st.o:=by unfold bulk;omega
 omega
theorem jBa.begin (w:World):jBa (w.heap.size+1) w.heap.size [] [] (w.alloc (.cells #[.slice none 0 0,.slice none 0 0] 92)) :=
 ⟨Nat.zero_le _,.slice none 0 0,.slice none 0 0,heap_alloc_new w _,jA7.nil _ _,jGw.nil _ _⟩
def GlS (W0:World)(st:Js)(wr:World):Prop:=jBa (W0.heap.size+1) W0.heap.size st.o st.t wr∧Below W0.heap.size W0 wr∧W0.heap.size+1≤wr.heap.size
theorem GlS.step {W0:World}{st:Js}{wr w2:World}(h:GlS W0 st wr)(hb:Below wr.heap.size wr w2):GlS W0 st w2 :=
 ⟨h.1.step hb,jAa h.2.1 hb,Nat.le_trans h.2.2 hb.size⟩
theorem GlS.joined {W0:World}{st st':Js}{wr w2:World}(h:GlS W0 st wr)(hj:jBa (W0.heap.size+1) W0.heap.size st'.o st'.t w2)(hk:jAw (W0.heap.size+1) W0.heap.size wr w2):GlS W0 st' w2 :=
 ⟨hj,h.2.1.trans (hk.below (Nat.le_succ _) (Nat.le_refl _)),Nat.le_trans h.2.2 hk.size⟩
theorem jM7 {n i:Nat}{x:Pc}(h:coB x=true)(hi:0<i):jDa n i x=true:=by unfold jDa;simp[h,hi]
theorem jI0 {n i:Nat}{x:Pc}(h:ccB x=true)(hi:i+1<n):jDa n i x=true:=by unfold jDa;simp[h,hi]
theorem jBW {n i:Nat}{x:Pc}(h1:coB x=false∨¬0<i)(h2:ccB x=false∨¬i+1<n):jDa n i x=false:=by
 unfold jDa
 rcases h1 with h1 | h1 <;> rcases h2 with h2 | h2 <;> simp[h1,h2]
theorem jGu {l:List Pc}(h:jAu l=0):l.length≤512:=by
 unfold jAu at h
 split at h
 ·cases h
 ·omega
theorem jVy (a b:List Pc)(u v:Value)(w:World)(ha:jBe w u a)(hb:jBe w v b)(hal:a.length≤3000)(hbl:b.length≤3000) :
 Calls Tryz.prog 50 #[u,v] w fun e w'=>e=.returned (.bool (jUH a b))∧Below w.heap.size w w':=jYf a b u v w ha hb hal hbl
theorem jUK (ps:List (List Pc))(v:Value)(w:World)(hp:jDA w v ps)(hn:ps.length≤3000)(hb:jCT ps≤8000000)(hb1:∀i,i<ps.length→bulk (ps.getD i [])≤100000)(hT:Tabs w) :
 Calls Tryz.prog 17 #[v] w fun e w'=>(∃u,e=.returned (.tuple #[u,.int .u8 (jCA ps)])∧jA7 0 u (jCb ps) w')∧Below w.heap.size w w':=by
 have ag:=Tryz.isAgg76
 have zg:=Tryz.sizeOf76
 have HP:=hid hp
 have HT:=hid hT
 obtain⟨p,cap,rfl,hlc,hcm⟩:=hp.form
 unfold maxLen at hcm
 clear hp hT
 have HGE:Hid (jCA ps=if ps.length=0 then 1 else if jBA ps ps.length≠0 then jBA ps ps.length else if jEI ps (ps.length-1)=false then 10 else if 512<(gTo ps ps.length).length then 3 else 0):=rfl
 have HGL:Hid (jCb ps=if jCA ps=0 then gTo ps ps.length else []):=rfl
 have HBK:=hid (fun i (hi:i<ps.length)=>hb1 i hi)
 by_cases h0:ps.length=0
 ·have hE:jCA ps=1:=by rw[HGE.out,if_pos h0]
  have hL:jCb ps=[]:=by rw[HGL.out,if_neg (by rw[hE];decide)]
  rw[hE,hL]
  have hi0:((ps.length:Int) == 0)=true:=beq_iff_eq.2 (by omega)
  clear hE hL
  go_enter Tryz.func17,Tryz.ntmps17
  go_wp2
  go_ret2
  exact⟨⟨_,rfl,jA7.nil _ _⟩,Below.refl _ _⟩
 have hi0:((ps.length:Int) == 0)=false:=beq_eq_false_iff_ne.2 (by omega)
 rw[if_neg h0]at HGE
 go_enter Tryz.func17,Tryz.ntmps17
 go_wp2
 go_loopw [5,6,20] (fun _ _ i wr=>∃k:Nat,k≤ps.length∧i=.int .i64 k∧Hid (jBA ps k=0)∧Hid (Below w.heap.size w wr)) (fun _ _ i _=>ps.length-(RowKit.intOf i).toNat)
 case atStart=>exact⟨0,Nat.zero_le _,rfl,rfl,Below.refl _ _⟩
 case round =>
  obtain⟨k,hk,rfl,HC,HB⟩:=hrel
  by_cases hlt:k<ps.length
  ·obtain⟨A,q,c,rfl,x0,hpc⟩:=HP.out.part HB.out hlt
   have hbk:=HBK.out k hlt
   have cC:=jB6 (ps.getD k []) _ wr hpc (fun x hx=>by
    have h1:=jGc (l:=ps.getD k []) (by omega) x hx
    exact h1) (HT.out.step HB.out)
   have HS:Hid (jBA ps (k+1)=jAu (ps.getD k [])):=by
    show _=_
    simp only[jBA]
    rw[if_neg (by rw[HC.out];simp)]
   have hki:(k:Int)<(ps.length:Int):=by omega
   have hk0:(0:Int)≤(k:Int):=by omega
   clear hpc
   by_cases hz:jAu (ps.getD k [])=0
   ·rw[hz]at cC HS
    clear hz
    generalize ps.getD k []=part at x0 cC
    go_wp2_with (go_at_call 49;(with_reducible refine cC.mono ?_);rintro e w5 ⟨rfl,hb5⟩)
    go_roundw
    case rel=>exact⟨k+1,hlt,by go_num,HS.out,jAa HB.out hb5⟩
    case measure=>simp[RowKit.intOf] <;> omega
   ·have hE:jCA ps=jAu (ps.getD k []):=by
     have h1:=jEB (ps:=ps) (k:=k+1) (by rw[HS.out];exact hz) (ps.length-(k+1))
     rw[show k+1+(ps.length-(k+1))=ps.length by omega,HS.out]at h1
     rw[HGE.out,if_pos (by rw[h1];exact hz),h1]
    have hL:jCb ps=[]:=by rw[HGL.out,if_neg (by rw[hE];exact hz)]
    have HE2:=hid (And.intro hE hL)
    have hz2:(jAu (ps.getD k []) != 0)=true:=by simpa using hz
    clear hE hL hz HS
    generalize jAu (ps.getD k [])=Z at cC hz2 HE2
    generalize ps.getD k []=part at x0 cC
    go_wp2_with (go_at_call 49;(with_reducible refine cC.mono ?_);rintro e w5 ⟨rfl,hb5⟩)
    go_ret2
    exact⟨⟨.slice none 0 0,by rw[HE2.out.1];rfl,by rw[HE2.out.2];exact jA7.nil _ _⟩,jAa HB.out hb5⟩
  ·obtain rfl:k=ps.length:=by omega
   have hc0:=HC.out
   have HCZ:=hid (jE9 hc0)
   rw[if_neg (by rw[hc0];simp)]at HGE
   have hn1:(1:Int)≤(ps.length:Int):=by omega
   obtain⟨A0,hA0⟩:∃A0,p=some A0:=by
    obtain⟨A,_,_,h1,_⟩:=HP.out.part HB.out (i:=0) (by omega)
    exact⟨A,h1⟩
   subst hA0
   have HB1:=hid HB.out
   obtain⟨w1,hw1⟩:∃x,x=wr:=⟨_,rfl⟩
   subst hw1
   clear hc0 hk hlt HC HB
   by_cases hcap1:cap=1
   ·go_wp2
    go_loopw [7,33] (fun _ i wr=>∃k:Nat,k≤ps.length-1∧i=.int .i64 k∧Hid (jEI ps k=true)∧Hid (Below w.heap.size w wr)) (fun _ i _=>ps.length-(RowKit.intOf i).toNat)
    case atStart=>exact⟨0,Nat.zero_le _,rfl,rfl,HB1.out⟩
    case round =>
     obtain⟨k,hk,rfl,HF,HB⟩:=hrel
     by_cases hlt:k<ps.length-1
     ·exfalso;omega
     ·obtain rfl:k=ps.length-1:=by omega
      have hf0:=HF.out
      rw[if_neg (by rw[hf0];simp)]at HGE
      have hlti:¬((ps.length-1:Nat):Int)<(ps.length:Int)-1:=by omega
      have HJ0:=hid (show GlS wr (jJE ps 0) (wr.alloc (.cells #[.slice none 0 0,.slice none 0 0] 92)) from ⟨jBa.begin wr,jAb _,by simp⟩)
      have HB2:=hid HB.out
      obtain⟨w2,hw2⟩:∃x,x=wr:=⟨_,rfl⟩
      subst hw2
      clear hf0 HF HB hk hlt
      go_wp2
      have HPW:=hid (HP.out.step HB2.out)
      have HJG:=hid (JG.all HCZ.out)
      have jHO:∀k,k≤ps.length→bulk (gTo ps k)≤8000000:=fun k hk=>Nat.le_trans (jH9 ps k hk) (Nat.le_trans (jCP ps (ps.length-k) k (by omega)) hb)
      have HSM:=hid jHO
      clear jHO
      go_loopw [9,10,50] (fun _ _ i wr=>∃k:Nat,k≤ps.length∧i=.int .i64 k∧Hid (GlS w2 (jJE ps k) wr)) (fun _ _ i _=>ps.length-(RowKit.intOf i).toNat)
      case atStart=>exact⟨0,Nat.zero_le _,rfl,HJ0.out⟩
      case round =>
       obtain⟨k,hk,rfl,HS⟩:=hrel
       by_cases hlt:k<ps.length
       ·obtain⟨A,q,c,e1,x0,hpk⟩:=HPW.out.part (Below.refl _ _) (i:=k) hlt
        obtain rfl:A0=A:=by simpa using e1
        have HX0:=hid x0
        obtain⟨q',c',e2,hql,hqc,jA4⟩:=hpk
        obtain⟨rfl,rfl⟩:q=q'∧c=c':=by simpa using e2
        unfold maxLen at hqc
        have HR:=hid jA4
        have x0:=(HS.out.2.1.cell (World.block_lt_of_cell? w2 _ HX0.out)).trans HX0.out
        have hki:(k:Int)<(ps.length:Int):=by omega
        have hk0:(0:Int)≤(k:Int):=by omega
        have HNX:Hid (jJE ps (k+1)=jE4 ps.length k (jJE ps k) (ps.getD k []) (ps.getD k []).length):=rfl
        have HJP:Hid (∀m,m≤(ps.getD k []).length→JG (jEn ps.length k (gTo ps k) (ps.getD k []) m) (jE4 ps.length k (jJE ps k) (ps.getD k []) m)):=JG.part (fun i hi=>jOI (jCV (HCZ.out k hlt) i hi)) (HJG.out k hk)
        have HBP:Hid (∀m,m≤(ps.getD k []).length→bulk (jEn ps.length k (gTo ps k) (ps.getD k []) m)≤8100000):=fun m hm=>by
         have h1:=jD8 ps.length k (gTo ps k) (ps.getD k []) m hm
         have h2:=HSM.out k hk
         have h3:=HBK.out k hlt
         have h4:=jCR (ps.getD k []) m
         omega
        have HJS:=hid (fun m (hm:m<(ps.getD k []).length)=>jHd (n:=ps.length) (i:=k) (st:=jJE ps k) hm)
        have hbk:=HBK.out k hlt
        clear x0 e1 e2 jA4
        have x0:=(HS.out.2.1.cell (World.block_lt_of_cell? w2 _ HX0.out)).trans HX0.out
        generalize ps.getD k []=part at *
        generalize jJE ps k=st0 at *
        go_wp2
        obtain⟨wo,hwo⟩:∃wo,wo=wr:=⟨_,rfl⟩
        subst hwo
        go_loopw [13,57] (fun _ i wr=>∃m:Nat,m≤part.length∧i=.int .i64 m∧Hid (GlS w2 (jE4 ps.length k st0 part m) wr)) (fun _ i _=>part.length-(RowKit.intOf i).toNat)
        case atStart=>exact⟨0,Nat.zero_le _,rfl,HS.out⟩
        case round =>
         clear HS x0
         obtain⟨m,hm,rfl,HS⟩:=hrel
         by_cases jGx:m<part.length
         ·obtain⟨AP,rfl,hAP,jAj⟩:=HR.out (by omega)
          obtain⟨x0,x1,x2⟩:=jAU hAP jAj jGx HS.out.2.1
          have hsx:=jBJ jGx
          have jWv:=(HJP.out m hm).small (HBP.out m hm)
          have HT2:=hid (HJS.out m jGx)
          have hmi:(m:Int)<(part.length:Int):=by omega
          have hm0:(0:Int)≤(m:Int):=by omega
          clear jAj
          generalize part.getD m nil=x at x0 x1 x2 hsx HT2
          generalize jE4 ps.length k st0 part m=st at HS jWv HT2
          obtain⟨xk,xs,xc⟩:=x
          dsimp only at x0 x1 x2 hsx
          have HSc:=hid (HS.out.step (jAb (.cells #[.int .u8 xk,.string xs,.bool xc] 76)))
          have HXc:=hid (show (wr.alloc (.cells #[.int .u8 xk,.string xs,.bool xc] 76)).heap[wr.heap.size]? = some (pcC ⟨xk,xs,xc⟩) from heap_alloc_new wr _)
          obtain⟨y0,y1,y2⟩:=jAG HXc.out
          dsimp only at y0 y1 y2
          have cO:=fun W=>jBI ⟨xk,xs,xc⟩ W
          have cC:=fun W=>jBB ⟨xk,xs,xc⟩ W
          have hq1:st.t.length+xs.size≤100000000:=by omega
          have hq2:st.o.length≤100000000:=by omega
          have cP:=fun W (h:Hid (GlS w2 st W))=>jMz (w2.heap.size+1) w2.heap.size st ⟨xk,xs,xc⟩ W h.out.1 hq1 hq2 h.out.2.2
          unfold pcV at cO cC cP
          dsimp only at cO cC cP
          have HIT:=hid (fun (h:jDa ps.length k ⟨xk,xs,xc⟩=true)=>show jE4 ps.length k st0 part (m+1)=st by rw[HT2.out];unfold jWU;rw[if_pos h])
          have HIF:=hid (fun (h:jDa ps.length k ⟨xk,xs,xc⟩=false)=>show jE4 ps.length k st0 part (m+1)=js3 ⟨xk,xs,xc⟩ st by rw[HT2.out];unfold jWU;rw[if_neg (by rw[h];simp)])
          clear HT2 HS jWv
          cases hco:coB ⟨xk,xs,xc⟩
          ·rw[hco]at cO
           cases hcc:ccB ⟨xk,xs,xc⟩
           ·
            rw[hcc]at cC
            have HST:=hid (HIF.out (jBW (.inl hco) (.inl hcc)))
            clear HIT HIF
            go_wp2_with (first
             | (go_at_call 51;(with_reducible refine (cO _).mono ?_);rintro e w5 ⟨rfl,hb5⟩;have HSn:=hid (HSc.out.step hb5);have HXn:=hid ((hb5.block _ (lt_of_block HXc.out)).trans HXc.out);clear HSc HXc y0 y1 y2 hb5;have HSc:=HSn;have HXc:=HXn;clear HSn HXn;obtain⟨y0,y1,y2⟩:=jAG HXc.out;dsimp only at y0 y1 y2)
             | (go_at_call 52;(with_reducible refine (cC _).mono ?_);rintro e w5 ⟨rfl,hb5⟩;have HSn:=hid (HSc.out.step hb5);have HXn:=hid ((hb5.block _ (lt_of_block HXc.out)).trans HXc.out);clear HSc HXc y0 y1 y2 hb5;have HSc:=HSn;have HXc:=HXn;clear HSn HXn;obtain⟨y0,y1,y2⟩:=jAG HXc.out;dsimp only at y0 y1 y2)
             | (go_at_call 53;(with_reducible refine (cP _ HSc).mono ?_);rintro e w6 ⟨rfl,hj6,hk6⟩;have HSf:=hid (HSc.out.joined hj6 hk6);clear hj6 hk6))
            go_roundw
            case rel=>exact⟨m+1,jGx,by go_num,by show GlS _ _ _;rw[HST.out];exact HSf.out⟩
            case measure=>simp[RowKit.intOf] <;> omega
           ·rw[hcc]at cC
            by_cases hkl:k+1<ps.length
            ·
             exfalso;omega
            ·
             have jRu:¬(k:Int)<(ps.length:Int)-1:=by omega
             have jZY:decide ((k:Int)<(ps.length:Int)-1)=false:=decide_eq_false jRu
             have HST:=hid (HIF.out (jBW (.inl hco) (.inr hkl)))
             clear HIT HIF
             go_wp2_with (first
              | (go_at_call 51;(with_reducible refine (cO _).mono ?_);rintro e w5 ⟨rfl,hb5⟩;have HSn:=hid (HSc.out.step hb5);have HXn:=hid ((hb5.block _ (lt_of_block HXc.out)).trans HXc.out);clear HSc HXc y0 y1 y2 hb5;have HSc:=HSn;have HXc:=HXn;clear HSn HXn;obtain⟨y0,y1,y2⟩:=jAG HXc.out;dsimp only at y0 y1 y2)
              | (go_at_call 52;(with_reducible refine (cC _).mono ?_);rintro e w5 ⟨rfl,hb5⟩;have HSn:=hid (HSc.out.step hb5);have HXn:=hid ((hb5.block _ (lt_of_block HXc.out)).trans HXc.out);clear HSc HXc y0 y1 y2 hb5;have HSc:=HSn;have HXc:=HXn;clear HSn HXn;obtain⟨y0,y1,y2⟩:=jAG HXc.out;dsimp only at y0 y1 y2)
              | (go_at_call 53;(with_reducible refine (cP _ HSc).mono ?_);rintro e w6 ⟨rfl,hj6,hk6⟩;have HSf:=hid (HSc.out.joined hj6 hk6);clear hj6 hk6))
             go_roundw
             case rel=>exact⟨m+1,jGx,by go_num,by show GlS _ _ _;rw[HST.out];exact HSf.out⟩
             case measure=>simp[RowKit.intOf] <;> omega
          ·rw[hco]at cO
           by_cases hkp:0<k
           ·
            exfalso;omega
           ·have jZZ:¬(0:Int)<(k:Int):=by omega
            cases hcc:ccB ⟨xk,xs,xc⟩
            ·
             rw[hcc]at cC
             have HST:=hid (HIF.out (jBW (.inr hkp) (.inl hcc)))
             clear HIT HIF
             go_wp2_with (first
              | (go_at_call 51;(with_reducible refine (cO _).mono ?_);rintro e w5 ⟨rfl,hb5⟩;have HSn:=hid (HSc.out.step hb5);have HXn:=hid ((hb5.block _ (lt_of_block HXc.out)).trans HXc.out);clear HSc HXc y0 y1 y2 hb5;have HSc:=HSn;have HXc:=HXn;clear HSn HXn;obtain⟨y0,y1,y2⟩:=jAG HXc.out;dsimp only at y0 y1 y2)
              | (go_at_call 52;(with_reducible refine (cC _).mono ?_);rintro e w5 ⟨rfl,hb5⟩;have HSn:=hid (HSc.out.step hb5);have HXn:=hid ((hb5.block _ (lt_of_block HXc.out)).trans HXc.out);clear HSc HXc y0 y1 y2 hb5;have HSc:=HSn;have HXc:=HXn;clear HSn HXn;obtain⟨y0,y1,y2⟩:=jAG HXc.out;dsimp only at y0 y1 y2)
              | (go_at_call 53;(with_reducible refine (cP _ HSc).mono ?_);rintro e w6 ⟨rfl,hj6,hk6⟩;have HSf:=hid (HSc.out.joined hj6 hk6);clear hj6 hk6))
             go_roundw
             case rel=>exact⟨m+1,jGx,by go_num,by show GlS _ _ _;rw[HST.out];exact HSf.out⟩
             case measure=>simp[RowKit.intOf] <;> omega
            ·rw[hcc]at cC
             by_cases hkl:k+1<ps.length
             ·
              exfalso;omega
             ·
              have jRu:¬(k:Int)<(ps.length:Int)-1:=by omega
              have jZY:decide ((k:Int)<(ps.length:Int)-1)=false:=decide_eq_false jRu
              have HST:=hid (HIF.out (jBW (.inr hkp) (.inr hkl)))
              clear HIT HIF
              go_wp2_with (first
               | (go_at_call 51;(with_reducible refine (cO _).mono ?_);rintro e w5 ⟨rfl,hb5⟩;have HSn:=hid (HSc.out.step hb5);have HXn:=hid ((hb5.block _ (lt_of_block HXc.out)).trans HXc.out);clear HSc HXc y0 y1 y2 hb5;have HSc:=HSn;have HXc:=HXn;clear HSn HXn;obtain⟨y0,y1,y2⟩:=jAG HXc.out;dsimp only at y0 y1 y2)
               | (go_at_call 52;(with_reducible refine (cC _).mono ?_);rintro e w5 ⟨rfl,hb5⟩;have HSn:=hid (HSc.out.step hb5);have HXn:=hid ((hb5.block _ (lt_of_block HXc.out)).trans HXc.out);clear HSc HXc y0 y1 y2 hb5;have HSc:=HSn;have HXc:=HXn;clear HSn HXn;obtain⟨y0,y1,y2⟩:=jAG HXc.out;dsimp only at y0 y1 y2)
               | (go_at_call 53;(with_reducible refine (cP _ HSc).mono ?_);rintro e w6 ⟨rfl,hj6,hk6⟩;have HSf:=hid (HSc.out.joined hj6 hk6);clear hj6 hk6))
              go_roundw
              case rel=>exact⟨m+1,jGx,by go_num,by show GlS _ _ _;rw[HST.out];exact HSf.out⟩
              case measure=>simp[RowKit.intOf] <;> omega
         ·obtain rfl:m=part.length:=by omega
          have hmi:¬(part.length:Int)<(part.length:Int):=by omega
          go_wp2
          go_roundw
          case rel=>exact⟨k+1,hlt,by go_num,by show GlS _ _ _;rw[HNX.out];exact HS.out⟩
          case measure=>simp[RowKit.intOf] <;> omega
       ·obtain rfl:k=ps.length:=by omega
        have hki:¬(ps.length:Int)<(ps.length:Int):=by omega
        have hjg:=HJG.out ps.length (Nat.le_refl _)
        have hbg:=HSM.out ps.length (Nat.le_refl _)
        have jWv:=hjg.small hbg
        have HO:Hid (gTo ps ps.length=(jJE ps ps.length).o++flush (jJE ps ps.length).t):=hjg.1
        have jZ0:(gTo ps ps.length).length≤bulk (gTo ps ps.length):=by unfold bulk;omega
        have hgl:(gTo ps ps.length).length≤8000000:=by omega
        clear hjg hbg jZ0
        generalize jJE ps ps.length=st at HS HO jWv
        generalize gTo ps ps.length=out at HO HGE HGL hgl
        have cD:=jPm (w2.heap.size+1) w2.heap.size st.o st.t wr HS.out.1 (by omega) (by omega) HS.out.2.2
        rw[←HO.out]at cD
        have cL:=fun W ao ca=>jGF out (.slice ao out.length ca) W ⟨ao,ca,rfl⟩
        by_cases jHZ:512<out.length
        ·have hE:jCA ps=3:=by rw[HGE.out,if_pos jHZ]
         have hL:jCb ps=[]:=by rw[HGL.out,if_neg (by rw[hE];decide)]
         have HE2:=hid (And.intro hE hL)
         rw[decide_eq_true jHZ]at cL
         clear hE hL
         go_wp2_with (first
          | (go_at_call 54;(with_reducible refine cD.mono ?_);rintro e w7 ⟨vo,rfl,ho7,hk7⟩;obtain⟨ao7,ca7,rfl⟩:=ho7.form;have HB7:=hid (HS.out.2.1.trans (hk7.below (Nat.le_succ _) (Nat.le_refl _)));clear ho7 hk7)
          | (go_at_call 55;(with_reducible refine (cL _ _ _).mono ?_);rintro e w8 ⟨rfl,rfl⟩))
         go_ret2
         exact⟨⟨.slice none 0 0,by rw[HE2.out.1];rfl,by rw[HE2.out.2];exact jA7.nil _ _⟩,jAa HB2.out HB7.out⟩
        ·have hE:jCA ps=0:=by rw[HGE.out,if_neg jHZ]
         have hL:jCb ps=out:=by rw[HGL.out,if_pos hE]
         have HE2:=hid (And.intro hE hL)
         rw[decide_eq_false jHZ]at cL
         clear hE hL
         go_wp2_with (first
          | (go_at_call 54;(with_reducible refine cD.mono ?_);rintro e w7 ⟨vo,rfl,ho7,hk7⟩;obtain⟨ao7,ca7,rfl⟩:=ho7.form;have HO7:=hid ho7.low;have HB7:=hid (HS.out.2.1.trans (hk7.below (Nat.le_succ _) (Nat.le_refl _)));clear ho7 hk7)
          | (go_at_call 55;(with_reducible refine (cL _ _ _).mono ?_);rintro e w8 ⟨rfl,rfl⟩))
         go_ret2
         exact⟨⟨_,by rw[HE2.out.1];rfl,by rw[HE2.out.2];exact HO7.out⟩,jAa HB2.out HB7.out⟩
   ·go_wp2
    go_loopw [7,33] (fun _ i wr=>∃k:Nat,k≤ps.length-1∧i=.int .i64 k∧Hid (jEI ps k=true)∧Hid (Below w.heap.size w wr)) (fun _ i _=>ps.length-(RowKit.intOf i).toNat)
    case atStart=>exact⟨0,Nat.zero_le _,rfl,rfl,HB1.out⟩
    case round =>
     obtain⟨k,hk,rfl,HF,HB⟩:=hrel
     by_cases hlt:k<ps.length-1
     ·obtain⟨A,q,c,e1,x0,hpa⟩:=HP.out.part HB.out (i:=k) (by omega)
      obtain rfl:A0=A:=by simpa using e1
      obtain⟨A,q2,c2,e2,y0,hpb⟩:=HP.out.part HB.out (i:=k+1) (by omega)
      obtain rfl:A0=A:=by simpa using e2
      have hba:=HBK.out k (by omega)
      have hbb:=HBK.out (k+1) (by omega)
      have hla:=jGu (HCZ.out k (by omega))
      have hlb:=jGu (HCZ.out (k+1) (by omega))
      have cF:=fun W (h1:Below wr.heap.size wr W)=>jVy (ps.getD k []) (ps.getD (k+1) []) _ _ W (hpa.step h1) (hpb.step h1) (by omega) (by omega)
      have hk0:(0:Int)≤(k:Int):=by omega
      have hki:(k:Int)<(ps.length:Int):=by omega
      have hk10:(0:Int)≤(k:Int)+1:=by omega
      have hk1i:(k:Int)+1<(ps.length:Int):=by omega
      have hw1:IntKind.i64.wrap ((k:Int)+1)=(k:Int)+1:=by rw[IntKind.wrap_i64] <;> omega
      have hlti:(k:Int)<(ps.length:Int)-1:=by omega
      have hltn:(k:Int)<((ps.length-1:Nat):Int):=by omega
      have hS:jEI ps (k+1)=jUH (ps.getD k []) (ps.getD (k+1) []):=by simp only[jEI];rw[HF.out];rfl
      have HS:=hid hS
      clear hS hpa hpb
      obtain⟨R,hR⟩:∃R,R=jUH (ps.getD k []) (ps.getD (k+1) []):=⟨_,rfl⟩
      rw[←hR]at cF HS
      clear hR hba hbb hla hlb
      generalize ps.getD k []=pa at x0 cF
      generalize ps.getD (k+1) []=pb at y0 cF
      rw[show A0.add (k+1)=({ block:=A0.block,off:=A0.off+(k+1) }:Addr) by unfold Addr.add;simp]at y0
      have HCF:=hid cF
      clear cF
      cases R
      ·have hE:jCA ps=10:=by
        have h1:=jFH (ps:=ps) (k:=k+1) HS.out (ps.length-1-(k+1))
        rw[show k+1+(ps.length-1-(k+1))=ps.length-1 by omega]at h1
        rw[HGE.out,if_pos h1]
       have hL:jCb ps=[]:=by rw[HGL.out,if_neg (by rw[hE];decide)]
       have HE2:=hid (And.intro hE hL)
       clear hE hL HS
       go_wp2
       go_region_held3 (fun w'=>w'.cell? (A0.add k)=some (.slice q pa.length c)∧w'.cell? { block:=A0.block,off:=A0.off+(k+1) }=some (.slice q2 pb.length c2))
        (first | exact⟨x0,y0⟩ | (go_keep;done))
        ((go_simp;go_at_call 50;(with_reducible refine (HCF.out _ (Below.refl _ _).drew).mono ?_);rintro e w5 ⟨rfl,hb5⟩;have x1:=(hb5.cell (World.block_lt_of_cell? wr.drew _ x0)).trans x0;have y1:=(hb5.cell (World.block_lt_of_cell? wr.drew _ y0)).trans y0;clear x0 y0;have x0:=x1;have y0:=y1;clear x1 y1))
       rename_i hHeld
       clear hHeld
       go_wp2
       go_ret2
       exact⟨⟨.slice none 0 0,by rw[HE2.out.1];rfl,by rw[HE2.out.2];exact jA7.nil _ _⟩,jAa HB.out.drew hb5⟩
      ·go_wp2
       go_region_held3 (fun w'=>w'.cell? (A0.add k)=some (.slice q pa.length c)∧w'.cell? { block:=A0.block,off:=A0.off+(k+1) }=some (.slice q2 pb.length c2))
        (first | exact⟨x0,y0⟩ | (go_keep;done))
        ((go_simp;go_at_call 50;(with_reducible refine (HCF.out _ (Below.refl _ _).drew).mono ?_);rintro e w5 ⟨rfl,hb5⟩;have x1:=(hb5.cell (World.block_lt_of_cell? wr.drew _ x0)).trans x0;have y1:=(hb5.cell (World.block_lt_of_cell? wr.drew _ y0)).trans y0;clear x0 y0;have x0:=x1;have y0:=y1;clear x1 y1))
       rename_i hHeld
       clear hHeld
       go_wp2
       go_roundw
       case rel=>exact⟨k+1,hlt,by go_num,HS.out,jAa HB.out.drew hb5⟩
       case measure=>simp[RowKit.intOf] <;> omega
     ·obtain rfl:k=ps.length-1:=by omega
      have hf0:=HF.out
      rw[if_neg (by rw[hf0];simp)]at HGE
      have hlti:¬((ps.length-1:Nat):Int)<(ps.length:Int)-1:=by omega
      have HJ0:=hid (show GlS wr (jJE ps 0) (wr.alloc (.cells #[.slice none 0 0,.slice none 0 0] 92)) from ⟨jBa.begin wr,jAb _,by simp⟩)
      have HB2:=hid HB.out
      obtain⟨w2,hw2⟩:∃x,x=wr:=⟨_,rfl⟩
      subst hw2
      clear hf0 HF HB hk hlt
      go_wp2
      have HPW:=hid (HP.out.step HB2.out)
      have HJG:=hid (JG.all HCZ.out)
      have jHO:∀k,k≤ps.length→bulk (gTo ps k)≤8000000:=fun k hk=>Nat.le_trans (jH9 ps k hk) (Nat.le_trans (jCP ps (ps.length-k) k (by omega)) hb)
      have HSM:=hid jHO
      clear jHO
      go_loopw [9,10,50] (fun _ _ i wr=>∃k:Nat,k≤ps.length∧i=.int .i64 k∧Hid (GlS w2 (jJE ps k) wr)) (fun _ _ i _=>ps.length-(RowKit.intOf i).toNat)
      case atStart=>exact⟨0,Nat.zero_le _,rfl,HJ0.out⟩
      case round =>
       obtain⟨k,hk,rfl,HS⟩:=hrel
       by_cases hlt:k<ps.length
       ·obtain⟨A,q,c,e1,x0,hpk⟩:=HPW.out.part (Below.refl _ _) (i:=k) hlt
        obtain rfl:A0=A:=by simpa using e1
        have HX0:=hid x0
        obtain⟨q',c',e2,hql,hqc,jA4⟩:=hpk
        obtain⟨rfl,rfl⟩:q=q'∧c=c':=by simpa using e2
        unfold maxLen at hqc
        have HR:=hid jA4
        have x0:=(HS.out.2.1.cell (World.block_lt_of_cell? w2 _ HX0.out)).trans HX0.out
        have hki:(k:Int)<(ps.length:Int):=by omega
        have hk0:(0:Int)≤(k:Int):=by omega
        have HNX:Hid (jJE ps (k+1)=jE4 ps.length k (jJE ps k) (ps.getD k []) (ps.getD k []).length):=rfl
        have HJP:Hid (∀m,m≤(ps.getD k []).length→JG (jEn ps.length k (gTo ps k) (ps.getD k []) m) (jE4 ps.length k (jJE ps k) (ps.getD k []) m)):=JG.part (fun i hi=>jOI (jCV (HCZ.out k hlt) i hi)) (HJG.out k hk)
        have HBP:Hid (∀m,m≤(ps.getD k []).length→bulk (jEn ps.length k (gTo ps k) (ps.getD k []) m)≤8100000):=fun m hm=>by
         have h1:=jD8 ps.length k (gTo ps k) (ps.getD k []) m hm
         have h2:=HSM.out k hk
         have h3:=HBK.out k hlt
         have h4:=jCR (ps.getD k []) m
         omega
        have HJS:=hid (fun m (hm:m<(ps.getD k []).length)=>jHd (n:=ps.length) (i:=k) (st:=jJE ps k) hm)
        have hbk:=HBK.out k hlt
        clear x0 e1 e2 jA4
        have x0:=(HS.out.2.1.cell (World.block_lt_of_cell? w2 _ HX0.out)).trans HX0.out
        generalize ps.getD k []=part at *
        generalize jJE ps k=st0 at *
        go_wp2
        obtain⟨wo,hwo⟩:∃wo,wo=wr:=⟨_,rfl⟩
        subst hwo
        go_loopw [13,57] (fun _ i wr=>∃m:Nat,m≤part.length∧i=.int .i64 m∧Hid (GlS w2 (jE4 ps.length k st0 part m) wr)) (fun _ i _=>part.length-(RowKit.intOf i).toNat)
        case atStart=>exact⟨0,Nat.zero_le _,rfl,HS.out⟩
        case round =>
         clear HS x0
         obtain⟨m,hm,rfl,HS⟩:=hrel
         by_cases jGx:m<part.length
         ·obtain⟨AP,rfl,hAP,jAj⟩:=HR.out (by omega)
          obtain⟨x0,x1,x2⟩:=jAU hAP jAj jGx HS.out.2.1
          have hsx:=jBJ jGx
          have jWv:=(HJP.out m hm).small (HBP.out m hm)
          have HT2:=hid (HJS.out m jGx)
          have hmi:(m:Int)<(part.length:Int):=by omega
          have hm0:(0:Int)≤(m:Int):=by omega
          clear jAj
          generalize part.getD m nil=x at x0 x1 x2 hsx HT2
          generalize jE4 ps.length k st0 part m=st at HS jWv HT2
          obtain⟨xk,xs,xc⟩:=x
          dsimp only at x0 x1 x2 hsx
          have HSc:=hid (HS.out.step (jAb (.cells #[.int .u8 xk,.string xs,.bool xc] 76)))
          have HXc:=hid (show (wr.alloc (.cells #[.int .u8 xk,.string xs,.bool xc] 76)).heap[wr.heap.size]? = some (pcC ⟨xk,xs,xc⟩) from heap_alloc_new wr _)
          obtain⟨y0,y1,y2⟩:=jAG HXc.out
          dsimp only at y0 y1 y2
          have cO:=fun W=>jBI ⟨xk,xs,xc⟩ W
          have cC:=fun W=>jBB ⟨xk,xs,xc⟩ W
          have hq1:st.t.length+xs.size≤100000000:=by omega
          have hq2:st.o.length≤100000000:=by omega
          have cP:=fun W (h:Hid (GlS w2 st W))=>jMz (w2.heap.size+1) w2.heap.size st ⟨xk,xs,xc⟩ W h.out.1 hq1 hq2 h.out.2.2
          unfold pcV at cO cC cP
          dsimp only at cO cC cP
          have HIT:=hid (fun (h:jDa ps.length k ⟨xk,xs,xc⟩=true)=>show jE4 ps.length k st0 part (m+1)=st by rw[HT2.out];unfold jWU;rw[if_pos h])
          have HIF:=hid (fun (h:jDa ps.length k ⟨xk,xs,xc⟩=false)=>show jE4 ps.length k st0 part (m+1)=js3 ⟨xk,xs,xc⟩ st by rw[HT2.out];unfold jWU;rw[if_neg (by rw[h];simp)])
          clear HT2 HS jWv
          cases hco:coB ⟨xk,xs,xc⟩
          ·rw[hco]at cO
           cases hcc:ccB ⟨xk,xs,xc⟩
           ·
            rw[hcc]at cC
            have HST:=hid (HIF.out (jBW (.inl hco) (.inl hcc)))
            clear HIT HIF
            go_wp2_with (first
             | (go_at_call 51;(with_reducible refine (cO _).mono ?_);rintro e w5 ⟨rfl,hb5⟩;have HSn:=hid (HSc.out.step hb5);have HXn:=hid ((hb5.block _ (lt_of_block HXc.out)).trans HXc.out);clear HSc HXc y0 y1 y2 hb5;have HSc:=HSn;have HXc:=HXn;clear HSn HXn;obtain⟨y0,y1,y2⟩:=jAG HXc.out;dsimp only at y0 y1 y2)
             | (go_at_call 52;(with_reducible refine (cC _).mono ?_);rintro e w5 ⟨rfl,hb5⟩;have HSn:=hid (HSc.out.step hb5);have HXn:=hid ((hb5.block _ (lt_of_block HXc.out)).trans HXc.out);clear HSc HXc y0 y1 y2 hb5;have HSc:=HSn;have HXc:=HXn;clear HSn HXn;obtain⟨y0,y1,y2⟩:=jAG HXc.out;dsimp only at y0 y1 y2)
             | (go_at_call 53;(with_reducible refine (cP _ HSc).mono ?_);rintro e w6 ⟨rfl,hj6,hk6⟩;have HSf:=hid (HSc.out.joined hj6 hk6);clear hj6 hk6))
            go_roundw
            case rel=>exact⟨m+1,jGx,by go_num,by show GlS _ _ _;rw[HST.out];exact HSf.out⟩
            case measure=>simp[RowKit.intOf] <;> omega
           ·rw[hcc]at cC
            by_cases hkl:k+1<ps.length
            ·
             have jRu:(k:Int)<(ps.length:Int)-1:=by omega
             have jZY:decide ((k:Int)<(ps.length:Int)-1)=true:=decide_eq_true jRu
             have HST:=hid (HIT.out (jI0 hcc hkl))
             clear HIT HIF
             go_wp2_with (first
              | (go_at_call 51;(with_reducible refine (cO _).mono ?_);rintro e w5 ⟨rfl,hb5⟩;have HSn:=hid (HSc.out.step hb5);have HXn:=hid ((hb5.block _ (lt_of_block HXc.out)).trans HXc.out);clear HSc HXc y0 y1 y2 hb5;have HSc:=HSn;have HXc:=HXn;clear HSn HXn;obtain⟨y0,y1,y2⟩:=jAG HXc.out;dsimp only at y0 y1 y2)
              | (go_at_call 52;(with_reducible refine (cC _).mono ?_);rintro e w5 ⟨rfl,hb5⟩;have HSn:=hid (HSc.out.step hb5);have HXn:=hid ((hb5.block _ (lt_of_block HXc.out)).trans HXc.out);clear HSc HXc y0 y1 y2 hb5;have HSc:=HSn;have HXc:=HXn;clear HSn HXn;obtain⟨y0,y1,y2⟩:=jAG HXc.out;dsimp only at y0 y1 y2))
             go_roundw
             case rel=>exact⟨m+1,jGx,by go_num,by show GlS _ _ _;rw[HST.out];exact HSc.out⟩
             case measure=>simp[RowKit.intOf] <;> omega
            ·
             have jRu:¬(k:Int)<(ps.length:Int)-1:=by omega
             have jZY:decide ((k:Int)<(ps.length:Int)-1)=false:=decide_eq_false jRu
             have HST:=hid (HIF.out (jBW (.inl hco) (.inr hkl)))
             clear HIT HIF
             go_wp2_with (first
              | (go_at_call 51;(with_reducible refine (cO _).mono ?_);rintro e w5 ⟨rfl,hb5⟩;have HSn:=hid (HSc.out.step hb5);have HXn:=hid ((hb5.block _ (lt_of_block HXc.out)).trans HXc.out);clear HSc HXc y0 y1 y2 hb5;have HSc:=HSn;have HXc:=HXn;clear HSn HXn;obtain⟨y0,y1,y2⟩:=jAG HXc.out;dsimp only at y0 y1 y2)
              | (go_at_call 52;(with_reducible refine (cC _).mono ?_);rintro e w5 ⟨rfl,hb5⟩;have HSn:=hid (HSc.out.step hb5);have HXn:=hid ((hb5.block _ (lt_of_block HXc.out)).trans HXc.out);clear HSc HXc y0 y1 y2 hb5;have HSc:=HSn;have HXc:=HXn;clear HSn HXn;obtain⟨y0,y1,y2⟩:=jAG HXc.out;dsimp only at y0 y1 y2)
              | (go_at_call 53;(with_reducible refine (cP _ HSc).mono ?_);rintro e w6 ⟨rfl,hj6,hk6⟩;have HSf:=hid (HSc.out.joined hj6 hk6);clear hj6 hk6))
             go_roundw
             case rel=>exact⟨m+1,jGx,by go_num,by show GlS _ _ _;rw[HST.out];exact HSf.out⟩
             case measure=>simp[RowKit.intOf] <;> omega
          ·rw[hco]at cO
           by_cases hkp:0<k
           ·
            have jZZ:(0:Int)<(k:Int):=by omega
            have hkpd:decide ((0:Int)<(k:Int))=true:=decide_eq_true jZZ
            have HST:=hid (HIT.out (jM7 hco hkp))
            clear HIT HIF
            go_wp2_with (first
             | (go_at_call 51;(with_reducible refine (cO _).mono ?_);rintro e w5 ⟨rfl,hb5⟩;have HSn:=hid (HSc.out.step hb5);have HXn:=hid ((hb5.block _ (lt_of_block HXc.out)).trans HXc.out);clear HSc HXc y0 y1 y2 hb5;have HSc:=HSn;have HXc:=HXn;clear HSn HXn;obtain⟨y0,y1,y2⟩:=jAG HXc.out;dsimp only at y0 y1 y2)
             | (go_at_call 52;(with_reducible refine (cC _).mono ?_);rintro e w5 ⟨rfl,hb5⟩;have HSn:=hid (HSc.out.step hb5);have HXn:=hid ((hb5.block _ (lt_of_block HXc.out)).trans HXc.out);clear HSc HXc y0 y1 y2 hb5;have HSc:=HSn;have HXc:=HXn;clear HSn HXn;obtain⟨y0,y1,y2⟩:=jAG HXc.out;dsimp only at y0 y1 y2))
            go_roundw
            case rel=>exact⟨m+1,jGx,by go_num,by show GlS _ _ _;rw[HST.out];exact HSc.out⟩
            case measure=>simp[RowKit.intOf] <;> omega
           ·have jZZ:¬(0:Int)<(k:Int):=by omega
            cases hcc:ccB ⟨xk,xs,xc⟩
            ·
             rw[hcc]at cC
             have HST:=hid (HIF.out (jBW (.inr hkp) (.inl hcc)))
             clear HIT HIF
             go_wp2_with (first
              | (go_at_call 51;(with_reducible refine (cO _).mono ?_);rintro e w5 ⟨rfl,hb5⟩;have HSn:=hid (HSc.out.step hb5);have HXn:=hid ((hb5.block _ (lt_of_block HXc.out)).trans HXc.out);clear HSc HXc y0 y1 y2 hb5;have HSc:=HSn;have HXc:=HXn;clear HSn HXn;obtain⟨y0,y1,y2⟩:=jAG HXc.out;dsimp only at y0 y1 y2)
              | (go_at_call 52;(with_reducible refine (cC _).mono ?_);rintro e w5 ⟨rfl,hb5⟩;have HSn:=hid (HSc.out.step hb5);have HXn:=hid ((hb5.block _ (lt_of_block HXc.out)).trans HXc.out);clear HSc HXc y0 y1 y2 hb5;have HSc:=HSn;have HXc:=HXn;clear HSn HXn;obtain⟨y0,y1,y2⟩:=jAG HXc.out;dsimp only at y0 y1 y2)
              | (go_at_call 53;(with_reducible refine (cP _ HSc).mono ?_);rintro e w6 ⟨rfl,hj6,hk6⟩;have HSf:=hid (HSc.out.joined hj6 hk6);clear hj6 hk6))
             go_roundw
             case rel=>exact⟨m+1,jGx,by go_num,by show GlS _ _ _;rw[HST.out];exact HSf.out⟩
             case measure=>simp[RowKit.intOf] <;> omega
            ·rw[hcc]at cC
             by_cases hkl:k+1<ps.length
             ·
              have jRu:(k:Int)<(ps.length:Int)-1:=by omega
              have jZY:decide ((k:Int)<(ps.length:Int)-1)=true:=decide_eq_true jRu
              have HST:=hid (HIT.out (jI0 hcc hkl))
              clear HIT HIF
              go_wp2_with (first
               | (go_at_call 51;(with_reducible refine (cO _).mono ?_);rintro e w5 ⟨rfl,hb5⟩;have HSn:=hid (HSc.out.step hb5);have HXn:=hid ((hb5.block _ (lt_of_block HXc.out)).trans HXc.out);clear HSc HXc y0 y1 y2 hb5;have HSc:=HSn;have HXc:=HXn;clear HSn HXn;obtain⟨y0,y1,y2⟩:=jAG HXc.out;dsimp only at y0 y1 y2)
               | (go_at_call 52;(with_reducible refine (cC _).mono ?_);rintro e w5 ⟨rfl,hb5⟩;have HSn:=hid (HSc.out.step hb5);have HXn:=hid ((hb5.block _ (lt_of_block HXc.out)).trans HXc.out);clear HSc HXc y0 y1 y2 hb5;have HSc:=HSn;have HXc:=HXn;clear HSn HXn;obtain⟨y0,y1,y2⟩:=jAG HXc.out;dsimp only at y0 y1 y2))
              go_roundw
              case rel=>exact⟨m+1,jGx,by go_num,by show GlS _ _ _;rw[HST.out];exact HSc.out⟩
              case measure=>simp[RowKit.intOf] <;> omega
             ·
              have jRu:¬(k:Int)<(ps.length:Int)-1:=by omega
              have jZY:decide ((k:Int)<(ps.length:Int)-1)=false:=decide_eq_false jRu
              have HST:=hid (HIF.out (jBW (.inr hkp) (.inr hkl)))
              clear HIT HIF
              go_wp2_with (first
               | (go_at_call 51;(with_reducible refine (cO _).mono ?_);rintro e w5 ⟨rfl,hb5⟩;have HSn:=hid (HSc.out.step hb5);have HXn:=hid ((hb5.block _ (lt_of_block HXc.out)).trans HXc.out);clear HSc HXc y0 y1 y2 hb5;have HSc:=HSn;have HXc:=HXn;clear HSn HXn;obtain⟨y0,y1,y2⟩:=jAG HXc.out;dsimp only at y0 y1 y2)
               | (go_at_call 52;(with_reducible refine (cC _).mono ?_);rintro e w5 ⟨rfl,hb5⟩;have HSn:=hid (HSc.out.step hb5);have HXn:=hid ((hb5.block _ (lt_of_block HXc.out)).trans HXc.out);clear HSc HXc y0 y1 y2 hb5;have HSc:=HSn;have HXc:=HXn;clear HSn HXn;obtain⟨y0,y1,y2⟩:=jAG HXc.out;dsimp only at y0 y1 y2)
               | (go_at_call 53;(with_reducible refine (cP _ HSc).mono ?_);rintro e w6 ⟨rfl,hj6,hk6⟩;have HSf:=hid (HSc.out.joined hj6 hk6);clear hj6 hk6))
              go_roundw
              case rel=>exact⟨m+1,jGx,by go_num,by show GlS _ _ _;rw[HST.out];exact HSf.out⟩
              case measure=>simp[RowKit.intOf] <;> omega
         ·obtain rfl:m=part.length:=by omega
          have hmi:¬(part.length:Int)<(part.length:Int):=by omega
          go_wp2
          go_roundw
          case rel=>exact⟨k+1,hlt,by go_num,by show GlS _ _ _;rw[HNX.out];exact HS.out⟩
          case measure=>simp[RowKit.intOf] <;> omega
       ·obtain rfl:k=ps.length:=by omega
        have hki:¬(ps.length:Int)<(ps.length:Int):=by omega
        have hjg:=HJG.out ps.length (Nat.le_refl _)
        have hbg:=HSM.out ps.length (Nat.le_refl _)
        have jWv:=hjg.small hbg
        have HO:Hid (gTo ps ps.length=(jJE ps ps.length).o++flush (jJE ps ps.length).t):=hjg.1
        have jZ0:(gTo ps ps.length).length≤bulk (gTo ps ps.length):=by unfold bulk;omega
        have hgl:(gTo ps ps.length).length≤8000000:=by omega
        clear hjg hbg jZ0
        generalize jJE ps ps.length=st at HS HO jWv
        generalize gTo ps ps.length=out at HO HGE HGL hgl
        have cD:=jPm (w2.heap.size+1) w2.heap.size st.o st.t wr HS.out.1 (by omega) (by omega) HS.out.2.2
        rw[←HO.out]at cD
        have cL:=fun W ao ca=>jGF out (.slice ao out.length ca) W ⟨ao,ca,rfl⟩
        by_cases jHZ:512<out.length
        ·have hE:jCA ps=3:=by rw[HGE.out,if_pos jHZ]
         have hL:jCb ps=[]:=by rw[HGL.out,if_neg (by rw[hE];decide)]
         have HE2:=hid (And.intro hE hL)
         rw[decide_eq_true jHZ]at cL
         clear hE hL
         go_wp2_with (first
          | (go_at_call 54;(with_reducible refine cD.mono ?_);rintro e w7 ⟨vo,rfl,ho7,hk7⟩;obtain⟨ao7,ca7,rfl⟩:=ho7.form;have HB7:=hid (HS.out.2.1.trans (hk7.below (Nat.le_succ _) (Nat.le_refl _)));clear ho7 hk7)
          | (go_at_call 55;(with_reducible refine (cL _ _ _).mono ?_);rintro e w8 ⟨rfl,rfl⟩))
         go_ret2
         exact⟨⟨.slice none 0 0,by rw[HE2.out.1];rfl,by rw[HE2.out.2];exact jA7.nil _ _⟩,jAa HB2.out HB7.out⟩
        ·have hE:jCA ps=0:=by rw[HGE.out,if_neg jHZ]
         have hL:jCb ps=out:=by rw[HGL.out,if_pos hE]
         have HE2:=hid (And.intro hE hL)
         rw[decide_eq_false jHZ]at cL
         clear hE hL
         go_wp2_with (first
          | (go_at_call 54;(with_reducible refine cD.mono ?_);rintro e w7 ⟨vo,rfl,ho7,hk7⟩;obtain⟨ao7,ca7,rfl⟩:=ho7.form;have HO7:=hid ho7.low;have HB7:=hid (HS.out.2.1.trans (hk7.below (Nat.le_succ _) (Nat.le_refl _)));clear ho7 hk7)
          | (go_at_call 55;(with_reducible refine (cL _ _ _).mono ?_);rintro e w8 ⟨rfl,rfl⟩))
         go_ret2
         exact⟨⟨_,by rw[HE2.out.1];rfl,by rw[HE2.out.2];exact HO7.out⟩,jAa HB2.out HB7.out⟩
end Go.Proofs.YtldapapdolkiaaaGreatDoor
