/- Cut as data: the places, the parts, what is open. No run of any program here. whether places are cuts, by the program. The memory of Cut: the finished parts, the part under way, what is open. Cut by the specification. whether one of the parts is too long, by the program. -/
import Derived.Test.YtldapapdolkiaaaGreatDoorGlC
namespace Go.Proofs.YtldapapdolkiaaaGreatDoor
set_option maxHeartbeats 64000000
open Go Go.RowKit Go.Lib
set_option maxRecDepth 100000
def jE6 (n:Int):Int→List Int→Bool
 | _,[]=>true
 | last,p :: r=>if p≤last∨n≤p then false else jE6 n p r
def jAE (o:List ByteArray):List Pc:=o.reverse.map fun s=>⟨3,s,true⟩
def jAt (o:List ByteArray):List Pc:=o.map fun s=>⟨2,s,true⟩
structure Cs where
 out:List (List Pc)
 part:List Pc
 opn:List ByteArray
 unit:Nat
def jES (at':List Int)(st:Cs)(x:Pc):Bool:=decide (st.out.length<at'.length) && (decide ((st.unit:Int)=at'.getD st.out.length 0) && decide (x.k≠3))
def jAM (o:List ByteArray)(x:Pc):List ByteArray:=if x.k=2 then o++[x.s] else if x.k=3 then o.dropLast else o
def jBM (u:Nat)(x:Pc):Nat:=if x.k=1∨x.k=5 then u+1 else u
def jCY (at':List Int)(st:Cs)(x:Pc):Cs:=if jES at' st x=true then ⟨st.out++[st.part++jAE st.opn],jAt st.opn,st.opn,st.unit⟩ else st
def jCx (at':List Int)(st:Cs)(x:Pc):Cs:=⟨(jCY at' st x).out,jJj (jCY at' st x).part x,jAM st.opn x,jBM st.unit x⟩
def cs0:Cs:=⟨[],[],[],0⟩
def jBD (at':List Int)(S:List Pc)(k:Nat):Cs:=(S.take k).foldl (jCx at') cs0
theorem jCX {at':List Int}{S:List Pc}{k:Nat}(h:k<S.length):jBD at' S (k+1)=jCx at' (jBD at' S k) (S.getD k nil):=by
 unfold jBD
 rw[jAS S k h,List.foldl_append]
 rfl
def jK2 (at':List Int)(S:List Pc):List (List Pc):=(jBD at' S S.length).out++[(jBD at' S S.length).part]
def jCg (ps:List (List Pc)):Bool:=ps.any fun p=>decide (512<p.length)
def ctE (l:List Pc)(at':List Int):Int:=if jAu l≠0 then jAu l else if jE6 (jAW l) 0 at'=false then 1 else if jCg (jK2 at' (jAh l))=true then 3 else 0
def ctR (l:List Pc)(at':List Int):List (List Pc):=if ctE l at'=0 then jK2 at' (jAh l) else []
/-! what is open -/
def okS:List ByteArray→List Pc→Prop
 | _,[]=>True
 | op,x :: S=>(x.k=3→op≠[])∧op.length≤16∧okS (jAM op x) S
/-! how large it all becomes -/
def obk (o:List ByteArray):Nat:=(o.map fun s=>s.size+1).sum
theorem jK8 {at':List Int}{S:List Pc}:∀k,k≤S.length→(jBD at' S k).out.length≤at'.length:=by
 intro k
 induction k with
 | zero=>intro _;simp[jBD,cs0]
 | succ k ih =>
   intro hk
   have h1:=ih (by omega)
   rw[jCX (by omega)]
   generalize jBD at' S k=st at *
   show (jCY at' st (S.getD k nil)).out.length≤_
   unfold jCY
   split
   ·rename_i hc
    unfold jES at hc
    simp only[Bool.and_eq_true,decide_eq_true_eq]at hc
    show (st.out++[_]).length≤_
    rw[List.length_append,List.length_singleton]
    omega
   ·exact h1
end Go.Proofs.YtldapapdolkiaaaGreatDoor
namespace Go.Proofs.YtldapapdolkiaaaGreatDoor
set_option maxHeartbeats 64000000
open Go Go.RowKit Go.Lib
set_option maxRecDepth 100000
def jC0 (w:World)(v:Value)(l:List Int):Prop:=jAO w.heap.size w v l.length 1 (fun i _=>.int .i64 (l.getD i 0))
theorem jC0.step {w w':World}{v:Value}{l:List Int}(hb:Below w.heap.size w w')(h:jC0 w v l):jC0 w' v l:=(jAO.below hb h).mono hb.size
theorem jC0.cell {w wr:World}{p:Option Addr}{cap:Nat}{l:List Int}(h:jC0 w (.slice p l.length cap) l)(hb:Below w.heap.size w wr){i:Nat}(hi:i<l.length):∃A,p=some A∧wr.cell? (A.add i)=some (.int .i64 (l.getD i 0)):=by
 obtain⟨p',cap',e,_,_,h3⟩:=h
 obtain⟨rfl,rfl⟩:p=p'∧cap=cap':=by simpa using e
 obtain⟨A,rfl,hA,hc⟩:=h3 (by omega)
 refine⟨A,rfl,?_⟩
 have:=hc i 0 hi (by omega)
 rw[show i*1+0=i by omega]at this
 rw[hb.cell (by rw[add_block];exact hA),this]
theorem jC0.form {w:World}{v:Value}{l:List Int}(h:jC0 w v l):∃p cap,v=.slice p l.length cap∧l.length≤cap∧cap≤maxLen:=by
 obtain⟨p,cap,e,h1,h2,_⟩:=h
 exact⟨p,cap,e,h1,h2⟩
theorem jIX {l:List Int}{k:Nat}(h:k<l.length):l.drop k=l.getD k 0 :: l.drop (k+1):=by
 rw[List.getD_eq_getElem?_getD,List.getElem?_eq_getElem h,Option.getD_some]
 exact List.drop_eq_getElem_cons h
theorem jId {n last:Int}{l:List Int}{k:Nat}(h:k<l.length)(hc:l.getD k 0≤last∨n≤l.getD k 0):jE6 n last (l.drop k)=false:=by
 rw[jIX h];unfold jE6;rw[if_pos hc]
theorem jOz {n last:Int}{l:List Int}{k:Nat}(h:k<l.length)(h1:¬l.getD k 0≤last)(h2:¬n≤l.getD k 0):jE6 n last (l.drop k)=jE6 n (l.getD k 0) (l.drop (k+1)):=by
 rw[jIX h]
 show (if _∨_ then _ else _)=_
 rw[if_neg (by intro h;rcases h with h | h <;> contradiction)]
theorem jPz (n last:Int)(l:List Int):jE6 n last (l.drop l.length)=true:=by rw[List.drop_length];rfl
theorem jIW (l:List Int)(n:Int)(v:Value)(w:World)(hv:jC0 w v l) :
 Calls Tryz.prog 80 #[v,.int .i64 n] w fun e w'=>e=.returned (.bool (jE6 n 0 l))∧w'=w:=by
 have HV:=hid hv
 obtain⟨p,cap,rfl,hl,hc⟩:=hv.form
 unfold maxLen at hc
 clear hv
 obtain⟨R,hR⟩:∃R,R=jE6 n 0 l:=⟨_,rfl⟩
 rw[←hR]
 go_enter Tryz.func80,Tryz.ntmps80
 go_wp2
 go_loop [5,10] (fun la i=>∃ (k:Nat) (last:Int),k≤l.length∧i=.int .i64 k∧la=.int .i64 last∧Hid (R=jE6 n last (l.drop k))) (fun _ i=>l.length-(RowKit.intOf i).toNat)
 case atStart=>exact⟨0,0,Nat.zero_le _,rfl,rfl,hR⟩
 case round =>
  clear hR
  obtain⟨k,last,hk,rfl,rfl,HC⟩:=hrel
  by_cases hlt:k<l.length
  ·obtain⟨A,rfl,x0⟩:=HV.out.cell (Below.refl _ _) hlt
   have hki:(k:Int)<(l.length:Int):=by omega
   have hk0:(0:Int)≤(k:Int):=by omega
   by_cases h1:l.getD k 0≤last
   ·have HR:=hid (HC.out.trans (jId hlt (.inl h1)))
    generalize l.getD k 0=x at x0 h1
    go_wp2
    go_ret
    exact⟨by rw[HR.out];rfl,rfl⟩
   ·by_cases h2:n≤l.getD k 0
    ·have HR:=hid (HC.out.trans (jId hlt (.inr h2)))
     generalize l.getD k 0=x at x0 h1 h2
     go_wp2
     go_ret
     exact⟨by rw[HR.out];rfl,rfl⟩
    ·have HR:=hid (HC.out.trans (jOz hlt h1 h2))
     generalize l.getD k 0=x at x0 h1 h2 HR
     go_wp2
     go_round
     case rel=>exact⟨k+1,x,hlt,by go_num,rfl,HR.out⟩
     case measure=>simp[RowKit.intOf] <;> omega
  ·obtain rfl:k=l.length:=by omega
   have hki:¬(l.length:Int)<(l.length:Int):=by omega
   have HR:=hid (HC.out.trans (jPz n last l))
   go_wp2
   go_ret
   exact⟨by rw[HR.out];rfl,rfl⟩
end Go.Proofs.YtldapapdolkiaaaGreatDoor
namespace Go.Proofs.YtldapapdolkiaaaGreatDoor
set_option maxHeartbeats 64000000
open Go Go.RowKit Go.Lib
set_option maxRecDepth 100000
structure Besd (w w':World)(blk:Option Nat):Prop where
 size:w.heap.size≤w'.heap.size
 heap:∀b,b<w.heap.size→blk≠some b→w'.heap[b]? = w.heap[b]?
theorem Besd.grown {w w':World}{o:Obj}{blk:Option Nat}(h:(w.alloc o).grownBy w' blk):Besd w w' blk:=by
 refine⟨Nat.le_trans (by simp) h.size,fun b hb hne=>?_⟩
 rw[h.block b (by simp;omega) (fun e=>hne e.symm),Below.heap_alloc _ _ _ hb]
theorem Besd.below {w w':World}(hb:Below w.heap.size w w'):Besd w w' none:=⟨hb.size,fun b hl _=>hb.block b hl⟩
theorem jCu {w:World}{B B' sz n:Nat}{e:TypeId}{v:Value}{xs:List Value}(h:w.ownsRow B e sz v n xs)(hB:B'≤B):w.ownsRow B' e sz v n xs:=by
 refine⟨h.1,?_⟩
 rcases h.2 with hn | ⟨g,cap,cur,hv,hbg,rest⟩
 ·exact .inl hn
 ·exact .inr ⟨g,cap,cur,hv,Nat.le_trans hB hbg,rest⟩
theorem jI3 {w:World}{B n:Nat}{e:TypeId}{v:Value}{us:List Value}(h:w.ownsRow B e 1 v n us):jAO w.heap.size w v n 1 (ptF us):=by
 have h0:=h
 have hul:us.length=n:=by have:=h.1;omega
 rcases h.2 with ⟨rfl,h0'⟩ | ⟨g,cap,cur,rfl,hg,hh,hn,hm,_⟩
 ·subst h0'
  exact⟨none,0,rfl,by simp,by simp,fun h=>absurd h (by simp)⟩
 ·refine⟨_,cap,rfl,hn,hm,fun _=>⟨_,rfl,lt_of_block hh,fun i j hi hj=>?_⟩⟩
  obtain rfl:j=0:=by omega
  have hu:us[i]? = some (us.getD i jDy):=by rw[List.getD_eq_getElem?_getD,List.getElem?_eq_getElem (by omega)];rfl
  have:=World.ownsRow.cells h0 (g:=g) rfl i _ hu
  rw[show i*1+0=i by omega]
  exact this
theorem jCc {α:Type}(a b:List α)(d:α){i:Nat}(h:i<a.length):(a++b).getD i d=a.getD i d:=by
 rw[List.getD_eq_getElem?_getD,List.getD_eq_getElem?_getD,List.getElem?_append_left h]
structure jBR (B Bp:Nat)(us:List Value)(out part opn:Value)(o:List (List Pc))(p:List Pc)(n:List ByteArray)(w:World):Prop where
 len:us.length=o.length
 row:w.ownsRow B 39 1 out o.length us
 old:∀i,i<o.length→jA7 B (us.getD i jDy) (o.getD i []) w∧∀b,(us.getD i jDy).ownBlock=some b→b<Bp
 prt:jA7 Bp part p w
 opn:jB9 B opn n w
 le:B≤Bp
 lt:Bp≤w.heap.size
theorem jBR.step {B Bp:Nat}{us:List Value}{out part opn:Value}{o:List (List Pc)}{p:List Pc}{n:List ByteArray}{w w':World}(h:jBR B Bp us out part opn o p n w)(hb:Below w.heap.size w w'):jBR B Bp us out part opn o p n w' :=
 ⟨h.len,jAZ hb h.row,fun i hi=>⟨(h.old i hi).1.step hb,(h.old i hi).2⟩,h.prt.step hb,h.opn.step hb,h.le,Nat.le_trans h.lt hb.size⟩
def jEZ (w:World)(v:Value)(ps:List (List Pc)):Prop :=
 ∃us:List Value,us.length=ps.length∧w.ownsRow 0 39 1 v ps.length us∧∀i,i<ps.length→jA7 0 (us.getD i jDy) (ps.getD i []) w
theorem jEZ.at {w:World}{v:Value}{ps:List (List Pc)}(h:jEZ w v ps):jDA w v ps:=by
 obtain⟨us,h1,h2,h3⟩:=h
 exact⟨us,h1,jI3 h2,fun i hi=>(h3 i hi).at⟩
theorem jEZ.nil (w:World):jEZ w (.slice none 0 0) []:=⟨[],rfl,World.ownsRow_nil _ _ _ _,fun i hi=>absurd hi (by simp)⟩
theorem jEZ.form {w:World}{v:Value}{ps:List (List Pc)}(h:jEZ w v ps):∃p cap,v=.slice p ps.length cap∧ps.length≤cap∧cap≤maxLen:=h.at.form
theorem jEZ.step {w w':World}{v:Value}{ps:List (List Pc)}(hb:Below w.heap.size w w')(h:jEZ w v ps):jEZ w' v ps:=by
 obtain⟨us,h1,h2,h3⟩:=h
 exact⟨us,h1,jAZ hb h2,fun i hi=>(h3 i hi).step hb⟩
end Go.Proofs.YtldapapdolkiaaaGreatDoor
namespace Go.Proofs.YtldapapdolkiaaaGreatDoor
set_option maxHeartbeats 64000000
open Go Go.RowKit Go.Lib
set_option maxRecDepth 100000
theorem jDI {w:World}{B sz n:Nat}{e:TypeId}{v:Value}{xs:List Value}(h:w.ownsRow B e sz v n xs):∃ao cap,v=.slice ao n cap:=by
 rcases h.2 with ⟨hv,h0⟩ | ⟨g,cap,cur,hv,_⟩
 ·subst h0
  exact⟨none,0,hv⟩
 ·exact⟨_,_,hv⟩
theorem jPO {Q:List (List Pc)}{j:Nat}(hj:j<Q.length)(h:512<(Q.getD j []).length):jCg Q=true:=by
 unfold jCg
 rw[List.any_eq_true]
 refine⟨Q.getD j [],?_,decide_eq_true h⟩
 rw[List.getD_eq_getElem?_getD,List.getElem?_eq_getElem hj]
 exact List.getElem_mem hj
theorem jSN {Q:List (List Pc)}(h:∀t,t<Q.length→¬512<(Q.getD t []).length):jCg Q=false:=by
 unfold jCg
 rw[List.any_eq_false]
 intro x hx
 obtain⟨i,hi,rfl⟩:=List.getElem_of_mem hx
 have h1:=h i hi
 rw[List.getD_eq_getElem?_getD,List.getElem?_eq_getElem hi]at h1
 simpa using h1
end Go.Proofs.YtldapapdolkiaaaGreatDoor
namespace Go.Proofs.YtldapapdolkiaaaGreatDoor
set_option maxHeartbeats 64000000
open Go Go.RowKit Go.Lib
set_option maxRecDepth 100000
def jZi (b:Bool)(e:Ending):Prop:=∃z:Int,e=.returned (.int .i64 z)∧(b=true→0≤z)∧(b=false→z<0)
theorem jQS (Q:List (List Pc))(v:Value)(w:World)(hv:jDA w v Q) :
 Calls Tryz.prog 147 #[v,.func (.func 55) #[] #[]] w fun e w'=>jZi (jCg Q) e∧w'=w:=by
 have HP:=hid hv
 obtain⟨p,cap,rfl,hlc,hcm⟩:=hv.form
 unfold maxLen at hcm
 clear hv
 go_enter Tryz.func147,Tryz.ntmps147
 go_wp2
 go_loop [5,8] (fun _ i=>∃k:Nat,k≤Q.length∧i=.int .i64 k∧Hid (∀t,t<k→¬512<(Q.getD t []).length)) (fun _ i=>Q.length-(RowKit.intOf i).toNat)
 case atStart=>exact⟨0,Nat.zero_le _,rfl,fun t ht=>absurd ht (Nat.not_lt_zero _)⟩
 case round =>
  obtain⟨k,hk,rfl,HL⟩:=hrel
  by_cases hlt:k<Q.length
  ·obtain⟨A,q,c,rfl,y0,_⟩:=HP.out.part (Below.refl _ _) hlt
   have hki:(k:Int)<(Q.length:Int):=by omega
   have hk0:(0:Int)≤(k:Int):=by omega
   have cW:=fun w2=>jGF (Q.getD k []) (.slice q (Q.getD k []).length c) w2 ⟨q,c,rfl⟩
   by_cases jHN:512<(Q.getD k []).length
   ·have HA:=hid (jPO hlt jHN)
    rw[decide_eq_true jHN]at cW
    generalize Q.getD k []=part at y0 cW
    go_wp2_with (go_at_call 55;(with_reducible refine (cW _).mono ?_);rintro e w' ⟨rfl,rfl⟩)
    go_ret
    exact⟨⟨_,rfl,fun _=>by omega,fun h=>absurd (h.symm.trans HA.out) (by simp)⟩,rfl⟩
   ·have HL2:Hid (∀t,t<k+1→¬512<(Q.getD t []).length):=fun t ht=>by
     rcases Nat.lt_succ_iff_lt_or_eq.1 ht with h1 | rfl
     ·exact HL.out t h1
     ·exact jHN
    rw[decide_eq_false jHN]at cW
    generalize Q.getD k []=part at y0 cW
    go_wp2_with (go_at_call 55;(with_reducible refine (cW _).mono ?_);rintro e w' ⟨rfl,rfl⟩)
    go_round
    case rel=>exact⟨k+1,hlt,by go_num,HL2.out⟩
    case measure=>simp[RowKit.intOf] <;> omega
  ·obtain rfl:k=Q.length:=by omega
   have hki:¬(Q.length:Int)<(Q.length:Int):=by omega
   have HA:=hid (jSN HL.out)
   go_wp2
   go_ret
   exact⟨⟨_,rfl,fun h=>absurd (HA.out.symm.trans h) (by simp),fun _=>by omega⟩,rfl⟩
theorem jRF {a b:Bool}(h:a=b):Ending.returned (.bool a)=.returned (.bool b):=by rw[h]
theorem jLu (Q:List (List Pc))(v:Value)(w:World)(hv:jDA w v Q) :
 Calls Tryz.prog 84 #[v,.func (.func 55) #[] #[]] w fun e w'=>e=.returned (.bool (jCg Q))∧w'=w:=by
 have cI:=jQS Q v w hv
 obtain⟨p,cap,rfl,hlc,hcm⟩:=hv.form
 clear hv
 generalize jCg Q=b at cI
 cases b
 ·go_enter Tryz.func84,Tryz.ntmps84
  go_wp2_with (go_at_call 147;(with_reducible refine cI.mono ?_);rintro e w2 ⟨⟨z,rfl,h1,h2⟩,hw⟩;obtain rfl:=hw.symm;have hz:=h2 rfl;clear h1 h2)
  go_ret
  exact⟨jRF (decide_eq_false (by omega)),rfl⟩
 ·go_enter Tryz.func84,Tryz.ntmps84
  go_wp2_with (go_at_call 147;(with_reducible refine cI.mono ?_);rintro e w2 ⟨⟨z,rfl,h1,h2⟩,hw⟩;obtain rfl:=hw.symm;have hz:=h1 rfl;clear h1 h2)
  go_ret
  exact⟨rfl,rfl⟩
end Go.Proofs.YtldapapdolkiaaaGreatDoor
