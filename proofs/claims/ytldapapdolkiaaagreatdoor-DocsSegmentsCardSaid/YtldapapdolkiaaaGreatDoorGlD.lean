/- Cut as data: the places, the parts, what is open. No run of any program here. whether places are cuts, by the program. The memory of Cut: the finished parts, the part under way, what is open. Cut by the specification. whether one of the parts is too long, by the program. -/
import Derived.Test.YtldapapdolkiaaaGreatDoorGlC
namespace Go.Proofs.YtldapapdolkiaaaGreatDoor
set_option maxHeartbeats 64000000
open Go Go.RowKit Go.Lib
set_option maxRecDepth 100000
def jE6 (n:Int):Int→List Int→Bool
 | _,[]=>true
 | last,p :: r=>if p≤last∨n≤p then false else jE6 n p r
def jAE (o:List ByteArray):List Pc:=o.reverse.map fun s=>⟨3,s,true⟩
def jAt (o:List ByteArray):List Pc:=o.map fun s=>⟨2,s,true⟩
structure Cs where
 out:List (List Pc)
 part:List Pc
 opn:List ByteArray
 unit:Nat
def jES (at':List Int)(st:Cs)(x:Pc):Bool:=decide (st.out.length<at'.length) && (decide ((st.unit:Int)=at'.getD st.out.length 0) && decide (x.k≠3))
def jAM (o:List ByteArray)(x:Pc):List ByteArray:=if x.k=2 then o++[x.s] else if x.k=3 then o.dropLast else o
def jBM (u:Nat)(x:Pc):Nat:=if x.k=1∨x.k=5 then u+1 else u
def jCY (at':List Int)(st:Cs)(x:Pc):Cs:=if jES at' st x=true then ⟨st.out++[st.part++jAE st.opn],jAt st.opn,st.opn,st.unit⟩ else st
def jCx (at':List Int)(st:Cs)(x:Pc):Cs:=⟨(jCY at' st x).out,jJj (jCY at' st x).part x,jAM st.opn x,jBM st.unit x⟩
def cs0:Cs:=⟨[],[],[],0⟩
def jBD (at':List Int)(S:List Pc)(k:Nat):Cs:=(S.take k).foldl (jCx at') cs0
theorem jCX {at':List Int}{S:List Pc}{k:Nat}(h:k<S.length):jBD at' S (k+1)=jCx at' (jBD at' S k) (S.getD k nil):=by
 unfold jBD
 rw[jAS S k h,List.foldl_append]
 rfl
def jK2 (at':List Int)(S:List Pc):List (List Pc):=(jBD at' S S.length).out++[(jBD at' S S.length).part]
def jCg (ps:List (List Pc)):Bool:=ps.any fun p=>decide (512<p.length)
def ctE (l:List Pc)(at':List Int):Int:=if jAu l≠0 then jAu l else if jE6 (jAW l) 0 at'=false then 1 else if jCg (jK2 at' (jAh l))=true then 3 else 0
def ctR (l:List Pc)(at':List Int):List (List Pc):=if ctE l at'=0 then jK2 at' (jAh l) else []
/-! what is open -/
def okS:List ByteArray→List Pc→Prop
 | _,[]=>True
 | op,x :: S=>(x.k=3→op≠[])∧op.length≤16∧okS (jAM op x) S
theorem jX4 {A B:List Pc}:∀ {op:List ByteArray},okS op A→okS (A.foldl jAM op) B→okS op (A++B):=by
 induction A with
 | nil=>intro op _ h;exact h
 | cons x A ih=>intro op h1 h2;exact⟨h1.1,h1.2.1,ih h1.2.2 h2⟩
theorem jTv:∀ {S:List Pc} {op:List ByteArray},okS op S→∀j,j<S.length→((S.getD j nil).k=3→(S.take j).foldl jAM op≠[])∧((S.take j).foldl jAM op).length≤16
 | [],_,_,j,hj=>absurd hj (by simp)
 | x :: S,op,h,0,_=>⟨h.1,h.2.1⟩
 | x :: S,op,h,j+1,hj=>jTv h.2.2 j (by simpa using hj)
theorem jXL (rs:List Nat):∀op:List ByteArray,(rs.map jFp).foldl jAM op=op:=by
 induction rs with
 | nil=>intro op;rfl
 | cons r rs ih=>intro op;simp only[List.map_cons,List.foldl_cons];exact ih op
theorem jZj (rs:List Nat):∀op:List ByteArray,op.length≤16→okS op (rs.map jFp):=by
 induction rs with
 | nil=>intro op _;trivial
 | cons r rs ih=>intro op h;exact⟨fun e=>by exact absurd (show (1:Int)=3 from e) (by decide),h,ih op h⟩
theorem un_ok {op op2:List ByteArray}{x:Pc}(h:jJF op x=.ok op2)(hl:op.length≤16):okS op (unP x)∧(unP x).foldl jAM op=op2∧op2.length≤16:=by
 unfold jJF at h
 unfold unP
 by_cases h1:x.k=1
 ·rw[if_pos h1]
  rw[if_neg (by omega),if_neg (by omega)]at h
  cases h
  exact⟨jZj _ _ hl,jXL _ _,hl⟩
 ·rw[if_neg h1]
  by_cases h2:x.k=2
  ·rw[if_pos h2]at h
   split at h
   ·cases h
   ·cases h
    refine⟨⟨fun e=>by omega,hl,trivial⟩,?_,?_⟩
    ·show jAM op x=_
     unfold jAM;rw[if_pos h2]
    ·rw[List.length_append,List.length_singleton];omega
  ·rw[if_neg h2]at h
   by_cases h3:x.k=3
   ·rw[if_pos h3]at h
    split at h
    ·rename_i jZ2
     cases h
     refine⟨⟨fun _ e=>(by rw[e]at jZ2;cases jZ2),hl,trivial⟩,?_,?_⟩
     ·show jAM op x=_
      unfold jAM;rw[if_neg h2,if_pos h3]
     ·rw[List.length_dropLast];omega
    ·cases h
   ·rw[if_neg h3]at h
    cases h
    refine⟨⟨fun e=>absurd e h3,hl,trivial⟩,?_,hl⟩
    show jAM op x=_
    unfold jAM;rw[if_neg h2,if_neg h3]
theorem jSq {l:List Pc}:∀ {n:Nat} {op:List ByteArray},n≤l.length→jC4 l n=.ok op→okS [] (jB8 l n)∧(jB8 l n).foldl jAM []=op∧op.length≤16
 | 0,op,_,h=>by
   have:op=[]:=by simpa [jC4] using h.symm
   subst this
   exact⟨trivial,rfl,by simp⟩
 | n+1,op,hn,h=>by
   simp only[jC4]at h
   cases e:jC4 l n with
   | error z=>rw[e]at h;cases h
   | ok o =>
     rw[e]at h
     have h':(if jCB l n≠0 then Except.error (jCB l n) else jJF o (l.getD n nil))=Except.ok op:=h
     split at h'
     ·cases h'
     ·obtain⟨i1,i2,i3⟩:=jSq (by omega) e
      obtain⟨j1,j2,j3⟩:=un_ok h' i3
      rw[jFY (by omega)]
      refine⟨jX4 i1 (by rw[i2];exact j1),?_,j3⟩
      rw[List.foldl_append,i2,j2]
theorem jS8 {l:List Pc}(h:jAu l=0):okS [] (jAh l):=by
 obtain⟨op,hr⟩:=jMu h
 have:=(jSq (Nat.le_refl _) hr).1
 rwa [jHG]at this
theorem jWo (at':List Int)(S:List Pc):∀k,k≤S.length→(jBD at' S k).opn=(S.take k).foldl jAM []:=by
 intro k
 induction k with
 | zero=>intro _;rfl
 | succ k ih =>
   intro hk
   rw[jCX (by omega),jAS S k (by omega),List.foldl_append,←ih (by omega)]
   rfl
/-! how large it all becomes -/
def obk (o:List ByteArray):Nat:=(o.map fun s=>s.size+1).sum
theorem jRJ (a b:List ByteArray):obk (a++b)=obk a+obk b:=by unfold obk;rw[List.map_append,List.sum_append]
theorem jU2:∀o:List ByteArray,obk o.dropLast≤obk o:=by
 intro o
 rcases List.eq_nil_or_concat o with rfl | ⟨a,y,rfl⟩
 ·simp
 ·rw[List.concat_eq_append,List.dropLast_concat,jRJ];omega
theorem jXs (o:List ByteArray)(x:Pc):obk (jAM o x)≤obk o+x.s.size+1:=by
 unfold jAM
 split
 ·rw[jRJ];unfold obk;simp;omega
 ·split
  ·have:=jU2 o;omega
  ·omega
theorem jHr (o:List ByteArray):bulk (jAt o)=obk o:=by
 induction o with
 | nil=>rfl
 | cons s o ih =>
   show bulk (⟨2,s,true⟩ :: jAt o)=_
   rw[jBY,ih]
   unfold obk
   simp
   omega
theorem jTf (o:List Pc)(x:Pc):bulk (jJj o x)≤bulk o+x.s.size+1:=jMc 0 0 o x |> fun h=>by
 unfold jVC at h
 rw[if_neg (by unfold jDa;simp)]at h
 exact h
theorem jT1 {at':List Int}{S:List Pc}:∀k,k≤S.length→bulk (jBD at' S k).part≤2*bulk (S.take k)∧obk (jBD at' S k).opn≤bulk (S.take k):=by
 intro k
 induction k with
 | zero=>intro _;exact⟨by simp[jBD,cs0,bulk],by simp[jBD,cs0,obk]⟩
 | succ k ih =>
   intro hk
   obtain⟨h1,h2⟩:=ih (by omega)
   rw[jCX (by omega),jAS S k (by omega),jIR,jBY]
   generalize jBD at' S k=st at *
   generalize S.getD k nil=x at *
   have hx:=jTf (jCY at' st x).part x
   have ho:=jXs st.opn x
   have hp:bulk (jCY at' st x).part≤2*bulk (S.take k):=by
    unfold jCY
    split
    ·show bulk (jAt st.opn)≤_
     rw[jHr];omega
    ·exact h1
   constructor
   ·show bulk (jJj (jCY at' st x).part x)≤_
    omega
   ·show obk (jAM st.opn x)≤_
    omega
theorem jUO (rs:List Nat):bulk (rs.map jFp)≤5*rs.length:=by
 induction rs with
 | nil=>simp[bulk]
 | cons r rs ih =>
   rw[List.map_cons,jBY,List.length_cons]
   have h:(jFp r).s.size≤4:=by unfold jFp;dsimp only;exact jD9 _
   omega
theorem jYc (x:Pc):bulk (unP x)≤5*(x.s.size+1):=by
 unfold unP
 split
 ·have h1:=jUO (jAi x.s)
  have h2:(jAi x.s).length≤x.s.size:=jBc _ _
  omega
 ·rw[jBY];simp[bulk];omega
theorem jIV:∀l:List Pc,bulk (jAh l)≤5*bulk l
 | []=>by simp[jAh,bulk]
 | x :: l=>by
   show bulk (unP x++jAh l)≤_
   rw[jIR,jBY]
   have h1:=jIV l
   have h2:=jYc x
   omega
theorem jK8 {at':List Int}{S:List Pc}:∀k,k≤S.length→(jBD at' S k).out.length≤at'.length:=by
 intro k
 induction k with
 | zero=>intro _;simp[jBD,cs0]
 | succ k ih =>
   intro hk
   have h1:=ih (by omega)
   rw[jCX (by omega)]
   generalize jBD at' S k=st at *
   show (jCY at' st (S.getD k nil)).out.length≤_
   unfold jCY
   split
   ·rename_i hc
    unfold jES at hc
    simp only[Bool.and_eq_true,decide_eq_true_eq]at hc
    show (st.out++[_]).length≤_
    rw[List.length_append,List.length_singleton]
    omega
   ·exact h1
end Go.Proofs.YtldapapdolkiaaaGreatDoor
namespace Go.Proofs.YtldapapdolkiaaaGreatDoor
set_option maxHeartbeats 64000000
open Go Go.RowKit Go.Lib
set_option maxRecDepth 100000
def jC0 (w:World)(v:Value)(l:List Int):Prop:=jAO w.heap.size w v l.length 1 (fun i _=>.int .i64 (l.getD i 0))
theorem jC0.step {w w':World}{v:Value}{l:List Int}(hb:Below w.heap.size w w')(h:jC0 w v l):jC0 w' v l:=(jAO.below hb h).mono hb.size
theorem jC0.cell {w wr:World}{p:Option Addr}{cap:Nat}{l:List Int}(h:jC0 w (.slice p l.length cap) l)(hb:Below w.heap.size w wr){i:Nat}(hi:i<l.length):∃A,p=some A∧wr.cell? (A.add i)=some (.int .i64 (l.getD i 0)):=by
 obtain⟨p',cap',e,_,_,h3⟩:=h
 obtain⟨rfl,rfl⟩:p=p'∧cap=cap':=by simpa using e
 obtain⟨A,rfl,hA,hc⟩:=h3 (by omega)
 refine⟨A,rfl,?_⟩
 have:=hc i 0 hi (by omega)
 rw[show i*1+0=i by omega]at this
 rw[hb.cell (by rw[add_block];exact hA),this]
theorem jC0.form {w:World}{v:Value}{l:List Int}(h:jC0 w v l):∃p cap,v=.slice p l.length cap∧l.length≤cap∧cap≤maxLen:=by
 obtain⟨p,cap,e,h1,h2,_⟩:=h
 exact⟨p,cap,e,h1,h2⟩
theorem jIX {l:List Int}{k:Nat}(h:k<l.length):l.drop k=l.getD k 0 :: l.drop (k+1):=by
 rw[List.getD_eq_getElem?_getD,List.getElem?_eq_getElem h,Option.getD_some]
 exact List.drop_eq_getElem_cons h
theorem jId {n last:Int}{l:List Int}{k:Nat}(h:k<l.length)(hc:l.getD k 0≤last∨n≤l.getD k 0):jE6 n last (l.drop k)=false:=by
 rw[jIX h];unfold jE6;rw[if_pos hc]
theorem jOz {n last:Int}{l:List Int}{k:Nat}(h:k<l.length)(h1:¬l.getD k 0≤last)(h2:¬n≤l.getD k 0):jE6 n last (l.drop k)=jE6 n (l.getD k 0) (l.drop (k+1)):=by
 rw[jIX h]
 show (if _∨_ then _ else _)=_
 rw[if_neg (by intro h;rcases h with h | h <;> contradiction)]
theorem jPz (n last:Int)(l:List Int):jE6 n last (l.drop l.length)=true:=by rw[List.drop_length];rfl
theorem jIW (l:List Int)(n:Int)(v:Value)(w:World)(hv:jC0 w v l) :
 Calls Tryz.prog 80 #[v,.int .i64 n] w fun e w'=>e=.returned (.bool (jE6 n 0 l))∧w'=w:=by
 have HV:=hid hv
 obtain⟨p,cap,rfl,hl,hc⟩:=hv.form
 unfold maxLen at hc
 clear hv
 obtain⟨R,hR⟩:∃R,R=jE6 n 0 l:=⟨_,rfl⟩
 rw[←hR]
 go_enter Tryz.func80,Tryz.ntmps80
 go_wp2
 go_loop [5,10] (fun la i=>∃ (k:Nat) (last:Int),k≤l.length∧i=.int .i64 k∧la=.int .i64 last∧Hid (R=jE6 n last (l.drop k))) (fun _ i=>l.length-(RowKit.intOf i).toNat)
 case atStart=>exact⟨0,0,Nat.zero_le _,rfl,rfl,hR⟩
 case round =>
  clear hR
  obtain⟨k,last,hk,rfl,rfl,HC⟩:=hrel
  by_cases hlt:k<l.length
  ·obtain⟨A,rfl,x0⟩:=HV.out.cell (Below.refl _ _) hlt
   have hki:(k:Int)<(l.length:Int):=by omega
   have hk0:(0:Int)≤(k:Int):=by omega
   by_cases h1:l.getD k 0≤last
   ·have HR:=hid (HC.out.trans (jId hlt (.inl h1)))
    generalize l.getD k 0=x at x0 h1
    go_wp2
    go_ret
    exact⟨by rw[HR.out];rfl,rfl⟩
   ·by_cases h2:n≤l.getD k 0
    ·have HR:=hid (HC.out.trans (jId hlt (.inr h2)))
     generalize l.getD k 0=x at x0 h1 h2
     go_wp2
     go_ret
     exact⟨by rw[HR.out];rfl,rfl⟩
    ·have HR:=hid (HC.out.trans (jOz hlt h1 h2))
     generalize l.getD k 0=x at x0 h1 h2 HR
     go_wp2
     go_round
     case rel=>exact⟨k+1,x,hlt,by go_num,rfl,HR.out⟩
     case measure=>simp[RowKit.intOf] <;> omega
  ·obtain rfl:k=l.length:=by omega
   have hki:¬(l.length:Int)<(l.length:Int):=by omega
   have HR:=hid (HC.out.trans (jPz n last l))
   go_wp2
   go_ret
   exact⟨by rw[HR.out];rfl,rfl⟩
end Go.Proofs.YtldapapdolkiaaaGreatDoor
namespace Go.Proofs.YtldapapdolkiaaaGreatDoor
set_option maxHeartbeats 64000000
open Go Go.RowKit Go.Lib
set_option maxRecDepth 100000
structure Besd (w w':World)(blk:Option Nat):Prop where
 size:w.heap.size≤w'.heap.size
 heap:∀b,b<w.heap.size→blk≠some b→w'.heap[b]? = w.heap[b]?
theorem jDf {w w':World}{blk:Option Nat}{B sz n:Nat}{e:TypeId}{v:Value}{xs:List Value}(h:w.ownsRow B e sz v n xs)(hb:Besd w w' blk)(hne:∀b,v.ownBlock=some b→blk≠some b):w'.ownsRow B e sz v n xs:=by
 refine⟨h.1,?_⟩
 rcases h.2 with hn | ⟨g,cap,cur,hv,hbg,hg,rest⟩
 ·exact .inl hn
 ·exact .inr ⟨g,cap,cur,hv,hbg,(hb.heap g (lt_of_block hg) (hne g (by rw[hv];rfl))).trans hg,rest⟩
theorem Besd.grown {w w':World}{o:Obj}{blk:Option Nat}(h:(w.alloc o).grownBy w' blk):Besd w w' blk:=by
 refine⟨Nat.le_trans (by simp) h.size,fun b hb hne=>?_⟩
 rw[h.block b (by simp;omega) (fun e=>hne e.symm),Below.heap_alloc _ _ _ hb]
theorem Besd.beside {w w':World}{v:Value}{B:Nat}(h:jCU w w' v)(hb:Below B w w'):Besd w w' v.ownBlock :=
 ⟨hb.size,fun b hl hne=>h b hl hne⟩
theorem Besd.below {w w':World}(hb:Below w.heap.size w w'):Besd w w' none:=⟨hb.size,fun b hl _=>hb.block b hl⟩
theorem jHC {w:World}{B B' sz sz' n n':Nat}{e e':TypeId}{v u:Value}{xs ys:List Value}(h:w.ownsRow B e sz v n xs)(h':w.ownsRow B' e' sz' u n' ys)(hne:e≠e'):∀b,v.ownBlock=some b→u.ownBlock≠some b:=by
 intro b hv hu
 rcases h.2 with ⟨rfl,_⟩ | ⟨g,cap,cur,rfl,_,hg,_⟩
 ·simp[Value.ownBlock]at hv
 ·simp only[Value.ownBlock,Option.some.injEq]at hv
  subst hv
  exact jBu h' hg (fun e=>hne e.symm) hu
theorem jCu {w:World}{B B' sz n:Nat}{e:TypeId}{v:Value}{xs:List Value}(h:w.ownsRow B e sz v n xs)(hB:B'≤B):w.ownsRow B' e sz v n xs:=by
 refine⟨h.1,?_⟩
 rcases h.2 with hn | ⟨g,cap,cur,hv,hbg,rest⟩
 ·exact .inl hn
 ·exact .inr ⟨g,cap,cur,hv,Nat.le_trans hB hbg,rest⟩
theorem jI3 {w:World}{B n:Nat}{e:TypeId}{v:Value}{us:List Value}(h:w.ownsRow B e 1 v n us):jAO w.heap.size w v n 1 (ptF us):=by
 have h0:=h
 have hul:us.length=n:=by have:=h.1;omega
 rcases h.2 with ⟨rfl,h0'⟩ | ⟨g,cap,cur,rfl,hg,hh,hn,hm,_⟩
 ·subst h0'
  exact⟨none,0,rfl,by simp,by simp,fun h=>absurd h (by simp)⟩
 ·refine⟨_,cap,rfl,hn,hm,fun _=>⟨_,rfl,lt_of_block hh,fun i j hi hj=>?_⟩⟩
  obtain rfl:j=0:=by omega
  have hu:us[i]? = some (us.getD i jDy):=by rw[List.getD_eq_getElem?_getD,List.getElem?_eq_getElem (by omega)];rfl
  have:=World.ownsRow.cells h0 (g:=g) rfl i _ hu
  rw[show i*1+0=i by omega]
  exact this
theorem jCc {α:Type}(a b:List α)(d:α){i:Nat}(h:i<a.length):(a++b).getD i d=a.getD i d:=by
 rw[List.getD_eq_getElem?_getD,List.getD_eq_getElem?_getD,List.getElem?_append_left h]
structure jBR (B Bp:Nat)(us:List Value)(out part opn:Value)(o:List (List Pc))(p:List Pc)(n:List ByteArray)(w:World):Prop where
 len:us.length=o.length
 row:w.ownsRow B 39 1 out o.length us
 old:∀i,i<o.length→jA7 B (us.getD i jDy) (o.getD i []) w∧∀b,(us.getD i jDy).ownBlock=some b→b<Bp
 prt:jA7 Bp part p w
 opn:jB9 B opn n w
 le:B≤Bp
 lt:Bp≤w.heap.size
theorem jBR.init {w:World}:jBR w.heap.size w.heap.size [] (.slice none 0 0) (.slice none 0 0) (.slice none 0 0) [] [] [] w :=
 ⟨rfl,World.ownsRow_nil _ _ _ _,fun i hi=>absurd hi (by simp),jA7.nil _ _,World.ownsRow_nil _ _ _ _,Nat.le_refl _,Nat.le_refl _⟩
theorem jBR.putPart {B Bp:Nat}{us:List Value}{out part opn part':Value}{o:List (List Pc)}{p p':List Pc}{n:List ByteArray}{w w':World}(h:jBR B Bp us out part opn o p n w)(hb:Besd w w' part.ownBlock)(hp:jA7 Bp part' p' w'):jBR B Bp us out part' opn o p' n w':=by
 refine⟨h.len,jDf h.row hb (jHC h.row h.prt (by decide)),fun i hi=>⟨jDf (h.old i hi).1 hb fun b hb' hb2=>?_,(h.old i hi).2⟩,hp,jDf h.opn hb (jHC h.opn h.prt (by decide)),h.le,Nat.le_trans h.lt hb.size⟩
 have h1:=(h.old i hi).2 b hb'
 have h2:=(World.ownsRow.lt h.prt b hb2).1
 omega
theorem jBR.putOpn {B Bp:Nat}{us:List Value}{out part opn opn':Value}{o:List (List Pc)}{p:List Pc}{n n':List ByteArray}{w w':World}(h:jBR B Bp us out part opn o p n w)(hb:Besd w w' opn.ownBlock)(hp:jB9 B opn' n' w'):jBR B Bp us out part opn' o p n' w' :=
 ⟨h.len,jDf h.row hb (jHC h.row h.opn (by decide)),fun i hi=>⟨jDf (h.old i hi).1 hb (jHC (h.old i hi).1 h.opn (by decide)),(h.old i hi).2⟩,jDf h.prt hb (jHC h.prt h.opn (by decide)),hp,h.le,Nat.le_trans h.lt hb.size⟩
theorem jBR.step {B Bp:Nat}{us:List Value}{out part opn:Value}{o:List (List Pc)}{p:List Pc}{n:List ByteArray}{w w':World}(h:jBR B Bp us out part opn o p n w)(hb:Below w.heap.size w w'):jBR B Bp us out part opn o p n w' :=
 ⟨h.len,jAZ hb h.row,fun i hi=>⟨(h.old i hi).1.step hb,(h.old i hi).2⟩,h.prt.step hb,h.opn.step hb,h.le,Nat.le_trans h.lt hb.size⟩
theorem jBR.setOpn {B Bp:Nat}{us:List Value}{out part opn opn':Value}{o:List (List Pc)}{p:List Pc}{n n':List ByteArray}{w:World}(h:jBR B Bp us out part opn o p n w)(hp:jB9 B opn' n' w):jBR B Bp us out part opn' o p n' w :=
 ⟨h.len,h.row,h.old,h.prt,hp,h.le,h.lt⟩
theorem jBR.putOut {B Bp:Nat}{us:List Value}{out part opn out':Value}{o:List (List Pc)}{p:List Pc}{n:List ByteArray}{w w':World}(h:jBR B Bp us out part opn o p n w)(hb:Besd w w' out.ownBlock)(hr:w'.ownsRow B 39 1 out' (o.length+1) (us++[part])):jBR B w'.heap.size (us++[part]) out' (.slice none 0 0) opn (o++[p]) [] n w':=by
 have hle:Bp≤w'.heap.size:=Nat.le_trans h.lt hb.size
 have hp:=jDf h.prt hb (jHC h.prt h.row (by decide))
 refine⟨by simp[h.len],by rw[List.length_append,List.length_singleton];exact hr,fun i hi=>?_,jA7.nil _ _,jDf h.opn hb (jHC h.opn h.row (by decide)),Nat.le_trans h.le hle,Nat.le_refl _⟩
 rw[List.length_append,List.length_singleton]at hi
 by_cases hio:i<o.length
 ·rw[jCc us _ _ (by rw[h.len];exact hio),jCc o _ _ hio]
  refine⟨jDf (h.old i hio).1 hb (jHC (h.old i hio).1 h.row (by decide)),fun b hb'=>?_⟩
  have:=(h.old i hio).2 b hb'
  omega
 ·obtain rfl:i=o.length:=by omega
  rw[List.getD_eq_getElem?_getD,List.getD_eq_getElem?_getD,List.getElem?_append_right (by rw[h.len];exact Nat.le_refl _),List.getElem?_append_right (Nat.le_refl _),h.len]
  simp only[Nat.sub_self,List.getElem?_cons_zero,Option.getD_some]
  exact⟨jCu hp h.le,fun b hb'=>(World.ownsRow.lt hp b hb').2⟩
def jEZ (w:World)(v:Value)(ps:List (List Pc)):Prop :=
 ∃us:List Value,us.length=ps.length∧w.ownsRow 0 39 1 v ps.length us∧∀i,i<ps.length→jA7 0 (us.getD i jDy) (ps.getD i []) w
theorem jEZ.at {w:World}{v:Value}{ps:List (List Pc)}(h:jEZ w v ps):jDA w v ps:=by
 obtain⟨us,h1,h2,h3⟩:=h
 exact⟨us,h1,jI3 h2,fun i hi=>(h3 i hi).at⟩
theorem jEZ.nil (w:World):jEZ w (.slice none 0 0) []:=⟨[],rfl,World.ownsRow_nil _ _ _ _,fun i hi=>absurd hi (by simp)⟩
theorem jEZ.form {w:World}{v:Value}{ps:List (List Pc)}(h:jEZ w v ps):∃p cap,v=.slice p ps.length cap∧ps.length≤cap∧cap≤maxLen:=h.at.form
theorem jEZ.step {w w':World}{v:Value}{ps:List (List Pc)}(hb:Below w.heap.size w w')(h:jEZ w v ps):jEZ w' v ps:=by
 obtain⟨us,h1,h2,h3⟩:=h
 exact⟨us,h1,jAZ hb h2,fun i hi=>(h3 i hi).step hb⟩
theorem jBR.ptsO {B Bp:Nat}{us:List Value}{out part opn:Value}{o:List (List Pc)}{p:List Pc}{n:List ByteArray}{w:World}(h:jBR B Bp us out part opn o p n w):jEZ w out o :=
 ⟨us,h.len,jCu h.row (Nat.zero_le _),fun i hi=>jCu (h.old i hi).1 (Nat.zero_le _)⟩
end Go.Proofs.YtldapapdolkiaaaGreatDoor
namespace Go.Proofs.YtldapapdolkiaaaGreatDoor
set_option maxHeartbeats 64000000
open Go Go.RowKit Go.Lib
set_option maxRecDepth 100000
theorem jDI {w:World}{B sz n:Nat}{e:TypeId}{v:Value}{xs:List Value}(h:w.ownsRow B e sz v n xs):∃ao cap,v=.slice ao n cap:=by
 rcases h.2 with ⟨hv,h0⟩ | ⟨g,cap,cur,hv,_⟩
 ·subst h0
  exact⟨none,0,hv⟩
 ·exact⟨_,_,hv⟩
theorem jLh {w:World}{B:Nat}{v:Value}{l:List ByteArray}(h:jB9 B v l w)(hl:l≠[]):∃g cap,v=.slice (some ⟨g,0,none⟩) l.length cap:=by
 rcases h.2 with ⟨hv,h0⟩ | ⟨g,cap,cur,hv,_⟩
 ·exact absurd (List.eq_nil_of_length_eq_zero h0) hl
 ·exact⟨_,_,hv⟩
theorem jOE {w:World}{B:Nat}{p:Option Addr}{n cap:Nat}{l:List ByteArray}(h:jB9 B (.slice p n cap) l w):l.length≤cap∧cap≤maxLen:=by
 rcases h.2 with ⟨hv,h0⟩ | ⟨g,cap',cur,hv,_,_,h1,h2,_⟩
 ·simp only[Value.slice.injEq]at hv
  obtain⟨_,_,rfl⟩:=hv
  rw[h0]
  exact⟨Nat.le_refl _,Nat.zero_le _⟩
 ·simp only[Value.slice.injEq]at hv
  obtain⟨_,_,rfl⟩:=hv
  exact⟨h1,h2⟩
theorem jOX:(Tryz.prog.info? 39).map (fun i=>(i.zero,i.size,i.bytes))=some (some (.slice none 0 0),1,24):=by kernel_rfl
theorem jIK (o:List ByteArray):(jAE o).length=o.length:=by unfold jAE;simp
theorem jI8 (o:List ByteArray):(jAt o).length=o.length:=by unfold jAt;simp
theorem jMj {o:List ByteArray}{j:Nat}(h:j<o.length):(jAE o).take (j+1)=(jAE o).take j++[⟨3,o.getD (o.length-1-j) ByteArray.empty,true⟩]:=by
 rw[List.take_add_one]
 congr 1
 unfold jAE
 rw[List.getElem?_map,List.getElem?_reverse h,List.getD_eq_getElem?_getD,List.getElem?_eq_getElem (by omega)]
 rfl
theorem jMb {o:List ByteArray}{j:Nat}(h:j<o.length):(jAt o).take (j+1)=(jAt o).take j++[⟨2,o.getD j ByteArray.empty,true⟩]:=by
 rw[List.take_add_one]
 congr 1
 unfold jAt
 rw[List.getElem?_map,List.getD_eq_getElem?_getD,List.getElem?_eq_getElem h]
 rfl
theorem jPO {Q:List (List Pc)}{j:Nat}(hj:j<Q.length)(h:512<(Q.getD j []).length):jCg Q=true:=by
 unfold jCg
 rw[List.any_eq_true]
 refine⟨Q.getD j [],?_,decide_eq_true h⟩
 rw[List.getD_eq_getElem?_getD,List.getElem?_eq_getElem hj]
 exact List.getElem_mem hj
theorem jSN {Q:List (List Pc)}(h:∀t,t<Q.length→¬512<(Q.getD t []).length):jCg Q=false:=by
 unfold jCg
 rw[List.any_eq_false]
 intro x hx
 obtain⟨i,hi,rfl⟩:=List.getElem_of_mem hx
 have h1:=h i hi
 rw[List.getD_eq_getElem?_getD,List.getElem?_eq_getElem hi]at h1
 simpa using h1
theorem jUz {at':List Int}{S:List Pc}:∀k,k≤S.length→(jBD at' S k).unit≤k:=by
 intro k
 induction k with
 | zero=>intro _;exact Nat.le_refl _
 | succ k ih =>
   intro hk
   have h1:=ih (by omega)
   rw[jCX (by omega)]
   show jBM _ _≤_
   unfold jBM
   split <;> omega
theorem jRe (l:List Pc)(at':List Int)(u v:Value)(w:World)(hu:jBe w u l)(hv:jC0 w v at')(hb:bulk l≤2500)(hn:at'.length≤9000) :
 Calls Tryz.prog 43 #[u,v] w fun e w'=>(∃x,e=.returned (.tuple #[x,.int .u8 (ctE l at')])∧jEZ w' x (ctR l at'))∧Below w.heap.size w w':=by
 have cU:=jMN l u w hu (by omega)
 have HV:=hid hv
 obtain⟨p,cap,rfl,hlc,hcm⟩:=hv.form
 unfold maxLen at hcm
 clear hv
 obtain⟨i0,hi,hz0,hz1,hz2⟩:=info_parts jFi
 have ag:=Tryz.isAgg76
 have zg:=Tryz.sizeOf76
 have HCE:Hid (ctE l at'=if jAu l≠0 then jAu l else if jE6 (jAW l) 0 at'=false then 1 else if jCg (jK2 at' (jAh l))=true then 3 else 0):=rfl
 have HCR:Hid (ctR l at'=if ctE l at'=0 then jK2 at' (jAh l) else []):=rfl
 by_cases hE:jAu l≠0
 ·have h1:ctE l at'=jAu l:=by rw[HCE.out,if_pos hE]
  have h2:ctR l at'=[]:=by rw[HCR.out,if_neg (by rw[h1];exact hE)]
  rw[h1,h2]
  generalize jAu l=Z at cU hE
  have hz:(Z != 0)=true:=by simpa using hE
  go_enter Tryz.func43,Tryz.ntmps43
  go_wp2_with (go_at_call 91;(with_reducible refine cU.mono ?_);rintro e w1 ⟨rfl,hb1⟩)
  go_ret2
  exact⟨⟨_,rfl,jEZ.nil _⟩,hb1⟩
 have hE:jAu l=0:=Decidable.not_not.1 hE
 rw[if_neg (by rw[hE];simp)]at HCE
 have HOK:=hid (jS8 hE)
 rw[show unE l=jAW l by unfold unE;rw[if_pos hE],hE]at cU
 have hnu:jAW l≤2500:=Nat.le_trans (jHA l) hb
 have cS:=fun w1 (h1:Below w.heap.size w w1)=>jLk l u w1 (hu.step h1) (by omega)
 have hsb:=jIV l
 generalize jAW l=n at cU hnu HCE
 generalize jAh l=S at cS hsb HCE HCR HOK
 clear hE hu
 go_enter Tryz.func43,Tryz.ntmps43
 go_wp2_with (go_at_call 91;(with_reducible refine cU.mono ?_);rintro e w1 ⟨rfl,hb1⟩;have HB1:=hid hb1;clear hb1)
 go_loopw [8] (fun i wr=>∃ (k:Nat) (last:Int),k≤at'.length∧i=.int .i64 k∧Hid (jE6 n 0 at'=jE6 n last (at'.drop k))∧Hid (k=0→last=0)∧Hid (0<k→last=at'.getD (k-1) 0∧0<last)∧Hid (Below w1.heap.size w1 wr)) (fun i _=>at'.length-(RowKit.intOf i).toNat)
 case atStart=>exact⟨0,0,Nat.zero_le _,rfl,rfl,fun _=>rfl,fun h=>absurd h (Nat.lt_irrefl _),Below.refl _ _⟩
 case round =>
  obtain⟨k,last,hk,rfl,HC,HL0,HL1,HB⟩:=hrel
  by_cases hlt:k<at'.length
  ·have HR0:=hid (fun (h:jE6 n last (at'.drop k)=false)=>show ctE l at'=1∧ctR l at'=[] by
    have h1:ctE l at'=1:=by rw[HCE.out,if_pos (HC.out.trans h)]
    exact⟨h1,by rw[HCR.out,if_neg (by rw[h1];decide)]⟩)
   have HW:=hid (jAa HB1.out HB.out)
   obtain⟨A,rfl,x0⟩:=HV.out.cell HW.out hlt
   have hki:(k:Int)<(at'.length:Int):=by omega
   have hk0:(0:Int)≤(k:Int):=by omega
   have hn1:IntKind.i64.wrap ((n:Int)-1)=(n:Int)-1:=by rw[IntKind.wrap_i64] <;> omega
   by_cases h1:at'.getD k 0<1
   ·have HR:=hid (HR0.out (jId hlt (.inl (by
     rcases Nat.eq_zero_or_pos k with h | h
     ·have:=HL0.out h;omega
     ·have:=(HL1.out h).2;omega))))
    generalize at'.getD k 0=x at x0 h1
    have d1:=decide_eq_true h1
    go_wp2
    go_quiet (fail)
    go_wp2
    go_ret2
    exact⟨⟨.slice none 0 0,by rw[HR.out.1];rfl,by rw[HR.out.2];exact jEZ.nil _⟩,jAa HB1.out (jAa HB.out (bdN _ _))⟩
   ·by_cases h2:(n:Int)-1<at'.getD k 0
    ·have HR:=hid (HR0.out (jId hlt (.inr (by omega))))
     generalize at'.getD k 0=x at x0 h1 h2
     have d1:=decide_eq_false h1
     have d2:=decide_eq_true h2
     go_wp2
     go_quiet (fail)
     go_wp2
     go_ret2
     exact⟨⟨.slice none 0 0,by rw[HR.out.1];rfl,by rw[HR.out.2];exact jEZ.nil _⟩,jAa HB1.out (jAa HB.out (bdN _ _))⟩
    ·by_cases hk1:0<k
     ·have hk1i:(0:Int)<(k:Int):=by omega
      obtain⟨A2,e2,y0⟩:=HV.out.cell HW.out (i:=k-1) (by omega)
      obtain rfl:A=A2:=by simpa using e2
      have hq:(k:Int)-1=((k-1:Nat):Int):=by omega
      have hn2:IntKind.i64.wrap ((k:Int)-1)=((k-1:Nat):Int):=by rw[IntKind.wrap_i64] <;> omega
      have hj1:(0:Int)≤((k-1:Nat):Int):=by omega
      have hj2:((k-1:Nat):Int)<(at'.length:Int):=by omega
      obtain⟨rfl,hl0⟩:=HL1.out hk1
      by_cases h3:at'.getD k 0≤at'.getD (k-1) 0
      ·have HR:=hid (HR0.out (jId hlt (.inl h3)))
       generalize at'.getD k 0=x at x0 h1 h2 h3
       generalize at'.getD (k-1) 0=y at y0 h3
       have d1:=decide_eq_false h1
       have d2:=decide_eq_false h2
       have d3:=decide_eq_true h3
       have d4:=decide_eq_true hk1i
       go_wp2
       go_quiet (fail)
       go_wp2
       go_ret2
       exact⟨⟨.slice none 0 0,by rw[HR.out.1];rfl,by rw[HR.out.2];exact jEZ.nil _⟩,jAa HB1.out (jAa HB.out (bdN _ _))⟩
      ·have HG:=hid (HC.out.trans (jOz hlt h3 (by omega)))
       have HX:Hid (at'.getD k 0=at'.getD (k+1-1) 0∧0<at'.getD k 0):=⟨by rw[Nat.add_sub_cancel],by omega⟩
       generalize at'.getD k 0=x at x0 h1 h2 h3 HG HX
       generalize at'.getD (k-1) 0=y at y0 h3
       have d1:=decide_eq_false h1
       have d2:=decide_eq_false h2
       have d3:=decide_eq_false h3
       have d4:=decide_eq_true hk1i
       go_wp2
       go_quiet (fail)
       go_wp2
       go_roundw
       case rel=>exact⟨k+1,x,hlt,by go_num,HG.out,fun h=>by omega,fun _=>HX.out,jAa HB.out (bdN _ _)⟩
       case measure=>simp[RowKit.intOf] <;> omega
     ·have jZ3:k=0:=by omega
      obtain rfl:last=0:=HL0.out jZ3
      have hk1i:¬(0:Int)<(k:Int):=by omega
      have HG:=hid (HC.out.trans (jOz hlt (by omega) (by omega)))
      have HX:Hid (at'.getD k 0=at'.getD (k+1-1) 0∧0<at'.getD k 0):=⟨by rw[Nat.add_sub_cancel],by omega⟩
      generalize at'.getD k 0=x at x0 h1 h2 HG HX
      have d1:=decide_eq_false h1
      have d2:=decide_eq_false h2
      have d4:=decide_eq_false hk1i
      clear jZ3
      go_wp2
      go_quiet (fail)
      go_wp2
      go_roundw
      case rel=>exact⟨k+1,x,hlt,by go_num,HG.out,fun h=>by omega,fun _=>HX.out,jAa HB.out (bdN _ _)⟩
      case measure=>simp[RowKit.intOf] <;> omega
  ·obtain rfl:k=at'.length:=by omega
   have hki:¬(at'.length:Int)<(at'.length:Int):=by omega
   rw[HC.out,jPz]at HCE
   rw[if_neg (by simp)]at HCE
   have cS1:=cS _ (jAa HB1.out HB.out)
   go_wp2_with (go_at_call 92;(with_reducible refine cS1.mono ?_);rintro e w2 ⟨⟨sv,rfl,hs2⟩,hb2⟩;have HB2:=hid (jAa (jAa HB1.out HB.out) hb2);have HSV:=hid hs2.at;clear hs2 hb2)
   obtain⟨ps,cs,rfl,hsl,hsc,jZ4⟩:=id HSV.out
   unfold maxLen at hsc
   have HSR:=hid jZ4
   have hSl:=jH5 S
   have HVW:=hid (HV.out.step HB2.out)
   clear jZ4
   go_loopw [10,11,12,13,14] (fun out part opn un i wr=>∃ (k Bp:Nat) (us:List Value) (st:Cs),k≤S.length∧i=.int .i64 k∧un=.int .i64 st.unit∧Hid (st=jBD at' S k)∧Hid (jBR w2.heap.size Bp us out part opn st.out st.part st.opn wr)∧Hid (Below w2.heap.size w2 wr)) (fun _ _ _ _ i _=>S.length-(RowKit.intOf i).toNat)
   case atStart=>exact⟨0,w2.heap.size,[],cs0,Nat.zero_le _,rfl,rfl,rfl,jBR.init,Below.refl _ _⟩
   case round =>
    clear HB HL0 HL1 HC hki
    obtain⟨k,Bp,us,st,hk,rfl,rfl,HST,HM,HB⟩:=hrel
    by_cases hlt:k<S.length
    ·obtain⟨AS,rfl,hAS,jAj⟩:=HSR.out (by omega)
     obtain⟨x0,x1,x2⟩:=jAU hAS jAj hlt HB.out
     have HX:=hid (fun (w':World) (h':Below w2.heap.size w2 w')=>jAU hAS jAj hlt h')
     have hki:(k:Int)<(S.length:Int):=by omega
     have hk0:(0:Int)≤(k:Int):=by omega
     have hsx:=jBJ hlt
     have hok:=jTv HOK.out k hlt
     rw[←jWo at' S k (by omega),←HST.out]at hok
     have hsm:=jT1 (at':=at') (S:=S) k (by omega)
     rw[←HST.out]at hsm
     have hbt:=jCR S k
     have hou:=jK8 (at':=at') (S:=S) k (by omega)
     rw[←HST.out]at hou
     have hun:=jUz (at':=at') (S:=S) k (by omega)
     rw[←HST.out]at hun
     have hnx:=jCX (at':=at') hlt
     rw[←HST.out]at hnx
     clear jAj HST
     generalize S.getD k nil=x at x0 x1 x2 HX hsx hok hnx
     obtain⟨xk,xs,xc⟩:=x
     obtain⟨o,p,op,un⟩:=st
     dsimp only at x0 x1 x2 HX hsx hok hsm hou hun HM
     obtain⟨ao,ca,rfl⟩:=jDI HM.out.row
     obtain⟨ap,cp,rfl⟩:=HM.out.prt.form
     obtain⟨an,cn,rfl⟩:=HM.out.opn.form
     have hlp:=jH5 p
     have HLO:=hid (show ∀q:List Pc,bulk q≤60000→∀y ∈ q,y.s.size+xs.size≤1000000000 from fun q hq y hy=>by have:=jPw hy;omega)
     have hO3:=hok.1
     have HO3:=hid hO3
     have hol:=hok.2
     clear hO3 hok
     by_cases hc1:o.length<at'.length
     ·have hoi:(o.length:Int)<(at'.length:Int):=by omega
      have ho0:(0:Int)≤(o.length:Int):=by omega
      obtain⟨AT,rfl,z0⟩:=HVW.out.cell HB.out hc1
      by_cases hcu:(un:Int)=at'.getD o.length 0
      ·have qAu:((un:Int) == at'.getD o.length 0)=true:=by simpa using hcu
       by_cases h3:xk=3
       ·subst h3
        have HNX:=hid (fun op2 un2 (e1:jAM op ⟨3,xs,xc⟩=op2) (e2:jBM un ⟨3,xs,xc⟩=un2)=>show jBD at' S (k+1)=⟨o,jJj p ⟨3,xs,xc⟩,op2,un2⟩ by
         rw[hnx]
         unfold jCx
         have:jCY at' ⟨o,p,op,un⟩ ⟨3,xs,xc⟩=⟨o,p,op,un⟩:=by
          unfold jCY
          rw[if_neg (by unfold jES;dsimp only;simp)]
         rw[this]
         dsimp only
         rw[e1,e2])
        have cX:=fun Bq v' w' (hO:jA7 Bq v' p w') (hB:Bq≤w'.heap.size)=>jD0 Bq p ⟨3,xs,xc⟩ v' w' hO hB (by omega) (HLO.out p (by omega))
        unfold pcV at cX
        dsimp only at cX
        clear hnx
        generalize at'.getD o.length 0=zz at z0 qAu
        clear hcu
        obtain⟨op',y,rfl⟩:∃op' y,op=op'++[y]:=by
         rcases List.eq_nil_or_concat op with h | ⟨a,b,h⟩
         ·exact absurd h (HO3.out rfl)
         ·exact⟨a,b,by rw[h,List.concat_eq_append]⟩
        obtain⟨g,ca2,hg⟩:=jLh HM.out.opn (by simp)
        simp only[Value.slice.injEq]at hg
        obtain⟨rfl,-,rfl⟩:=hg
        have HM4:=hid (HM.out.setOpn (jGX (x:=y) (by have h:=HM.out.opn;unfold jB9 at h;simpa using h)))
        have HB4:=hid HB.out
        have HN:=hid (HNX.out op' un (by unfold jAM;rw[if_neg (by simp),if_pos rfl,List.dropLast_concat]) (by unfold jBM;rw[if_neg (by simp)]))
        have jZ5:=jOE HM.out.opn
        simp only[List.length_append,List.length_singleton]at *
        have hwr:IntKind.i64.wrap (op'.length:Int)=(op'.length:Int):=by rw[IntKind.wrap_i64];omega
        have jZV:(op'.length:Int)≤(cn:Int):=by omega
        go_wp2_with (go_at_call 93;(with_reducible refine (cX Bp _ _ HM4.out.prt HM4.out.lt).mono ?_);rintro e w5 ⟨v5,rfl,hO5,hb5,jDP⟩;have HM5:=hid (HM4.out.putPart (Besd.beside jDP hb5) hO5);have HB5:=hid (HB4.out.trans (hb5.mono HM4.out.le));clear hO5 hb5 jDP)
        go_roundw
        case rel=>exact⟨k+1,Bp,us,⟨_,_,op',un⟩,hlt,by go_num,by go_num,HN.out.symm,HM5.out,HB5.out⟩
        case measure=>simp[RowKit.intOf] <;> omega
       ·have h3c:(xk != 3)=true:=by simpa using h3
        have HNX:=hid (fun op2 un2 (e1:jAM op ⟨xk,xs,xc⟩=op2) (e2:jBM un ⟨xk,xs,xc⟩=un2)=>show jBD at' S (k+1)=⟨o++[p++jAE op],jJj (jAt op) ⟨xk,xs,xc⟩,op2,un2⟩ by
         rw[hnx]
         unfold jCx
         have:jCY at' ⟨o,p,op,un⟩ ⟨xk,xs,xc⟩=⟨o++[p++jAE op],jAt op,op,un⟩:=by
          unfold jCY
          rw[if_pos (by unfold jES;simp[hc1,hcu,h3])]
         rw[this]
         dsimp only
         rw[e1,e2])
        generalize at'.getD o.length 0=zz at z0 qAu
        clear hcu hnx
        obtain⟨j0,hj,hjz0,hjz1,hjz2⟩:=info_parts jEs
        obtain⟨t0,ht,qAJ,qAK,qAL⟩:=info_parts jOX
        have hbo:bulk (jAt op)≤60000:=by rw[jHr];omega
        have cX:=fun Bq v' w' (hO:jA7 Bq v' (jAt op) w') (hB:Bq≤w'.heap.size)=>jD0 Bq (jAt op) ⟨xk,xs,xc⟩ v' w' hO hB (by have:=jH5 (jAt op);omega) (HLO.out (jAt op) hbo)
        unfold pcV at cX
        dsimp only at cX
        have hn0:IntKind.i64.wrap ((op.length:Int)-1)=(op.length:Int)-1:=by rw[IntKind.wrap_i64] <;> omega
        have hk3:=h3
        clear h3
        go_wp2
        go_loopw [11,16] (fun part i wr2=>∃j:Nat,j≤op.length∧i=.int .i64 ((op.length:Int)-1-(j:Int))∧Hid (jBR w2.heap.size Bp us (.slice ao o.length ca) part (.slice an op.length cn) o (p++(jAE op).take j) op wr2)∧Hid (Below w2.heap.size w2 wr2)) (fun _ i _=>(RowKit.intOf i+1).toNat)
        case atStart=>exact⟨0,Nat.zero_le _,by simp,by show jBR _ _ _ _ _ _ _ _ _ _;simpa using HM.out,HB.out⟩
        case round =>
         clear HM HB x0 x1 x2 z0
         obtain⟨j,hj2,rfl,HM,HB⟩:=hrel
         by_cases hjl:j<op.length
         ·obtain⟨g,rfl,c0⟩:=(jJP.own HM.out.opn).cell (Below.refl _ _) (i:=op.length-1-j) (by omega)
          have hge:(0:Int)≤(op.length:Int)-1-(j:Int):=by omega
          have hq:(op.length:Int)-1-(j:Int)=((op.length-1-j:Nat):Int):=by omega
          have hjj:((op.length-1-j:Nat):Int)<(op.length:Int):=by omega
          have HT:=hid (jMj hjl)
          have hlq:(p++(jAE op).take j).length≤30000:=by rw[List.length_append,List.length_take,jIK];omega
          generalize op.getD (op.length-1-j) ByteArray.empty=s at c0 HT
          obtain⟨aq,cq,hfq⟩:=HM.out.prt.form
          subst hfq
          generalize (jAE op).take j=cl at *
          have jDD:=HM.out.prt
          unfold jA7 at jDD
          have HW4:=hid jDD
          have qAM:=HM.out.lt
          have jZ6:=HM.out.le
          have jEg:=HB.out.size
          clear jDD
          go_wp2_with (first
           | (at_builtin;refine wpList_append_own _ rfl _ _ 39 rfl Bp 76 j0 _ 3 32 Tryz.underlying39 hj hjz0 hjz1 hjz2 rfl (by decide) _ _ _ rfl (HW4.out.alloc (.cells #[.int .u8 3,.string s,.bool true] 76)) ⟨wr.heap.size,0,none⟩ 1 1 [.int .u8 3,.string s,.bool true] rfl rfl (jEN wr _ _ _ _) (one3 _ _ _) (by unfold maxLen;omega) (by omega) (by simp;omega) ?_;intro v3 w3 jAP jAl jBs
              have HB5:=hid ((HB.out.alloc jEg (.cells #[.int .u8 3,.string s,.bool true] 76)).grown jAl (by simp;omega) (fun k hk=>Nat.le_trans jZ6 (HW4.out.lt k hk).1))
              have HM5:=hid (HM.out.putPart (Besd.grown jAl) (jA7.more (x:=⟨3,s,true⟩) jAP))
              clear jAP jAl jBs))
          go_roundw
          case rel=>exact⟨j+1,hjl,by go_num,by show jBR _ _ _ _ _ _ _ _ _ _;rw[HT.out,←List.append_assoc];exact HM5.out,HB5.out⟩
          case measure=>simp[RowKit.intOf] <;> omega
         ·obtain rfl:j=op.length:=by omega
          have hge:¬(0:Int)≤(op.length:Int)-1-(op.length:Int):=by omega
          have hlc:(jAE op).take op.length=jAE op:=by rw[List.take_of_length_le (by rw[jIK];exact Nat.le_refl _)]
          rw[hlc]at HM
          obtain⟨pq,hpq⟩:∃x,x=p++jAE op:=⟨_,rfl⟩
          rw[←hpq]at HM HNX
          clear hpq hlc
          obtain⟨aq,cq,hfq⟩:=HM.out.prt.form
          subst hfq
          have jUe:=HM.out.row
          have HW6:=hid jUe
          have qAM:=HM.out.lt
          have jZ6:=HM.out.le
          have jEg:=HB.out.size
          clear jUe
          go_wp2_with (first
           | (at_builtin;refine wpList_append_own _ rfl _ _ 47 rfl w2.heap.size 39 t0 (.slice none 0 0) 1 24 Tryz.underlying47 ht qAJ qAK qAL rfl (by decide) _ _ _ rfl (HW6.out.alloc (.cells #[.slice aq pq.length cq] 39)) ⟨wr.heap.size,0,none⟩ 1 1 [.slice aq pq.length cq] rfl rfl (jBH _ _ _) (fun x hx=>by simp at hx;subst hx;rfl) (by unfold maxLen;omega) (by omega) (by simp;omega) ?_;intro v6 w6 jA5 jAv jC8
              have HB6:=hid ((HB.out.alloc jEg (.cells #[.slice aq pq.length cq] 39)).grown jAv (by simp;omega) (fun k hk=>(HW6.out.lt k hk).1))
              have HM6:=hid (HM.out.putOut (Besd.grown jAv) jA5)
              clear jA5 jAv jC8))
          obtain⟨oq,hoq⟩:∃x,x=o++[pq]:=⟨_,rfl⟩
          obtain⟨uq,huq⟩:∃x,x=us++[.slice aq pq.length cq]:=⟨_,rfl⟩
          rw[←hoq,←huq]at HM6
          rw[←hoq]at HNX
          have hoql:oq.length≤9001:=by rw[hoq,List.length_append,List.length_singleton];omega
          clear hoq huq
          obtain⟨ao6,ca6,hf6⟩:=jDI HM6.out.row
          subst hf6
          obtain⟨B6,hB6⟩:∃x,x=w6.heap.size:=⟨_,rfl⟩
          rw[←hB6]at HM6
          clear hB6
          go_loopw [11,17] (fun part i wr3=>∃j:Nat,j≤op.length∧i=.int .i64 j∧Hid (jBR w2.heap.size B6 uq (.slice ao6 oq.length ca6) part (.slice an op.length cn) oq ((jAt op).take j) op wr3)∧Hid (Below w2.heap.size w2 wr3)) (fun _ i _=>op.length-(RowKit.intOf i).toNat)
          case atStart=>exact⟨0,Nat.zero_le _,rfl,HM6.out,HB6.out⟩
          case round =>
           clear HM HB HM6 HB6 HW6
           obtain⟨j,hj3,rfl,HM,HB⟩:=hrel
           by_cases hjl:j<op.length
           ·obtain⟨g,rfl,c0⟩:=(jJP.own HM.out.opn).cell (Below.refl _ _) (i:=j) hjl
            have hji:(j:Int)<(op.length:Int):=by omega
            have hji0:(0:Int)≤(j:Int):=by omega
            have HT:=hid (jMb hjl)
            have hlq:((jAt op).take j).length≤30000:=by rw[List.length_take,jI8];omega
            generalize op.getD j ByteArray.empty=s at c0 HT
            obtain⟨ar,cr,hfr⟩:=HM.out.prt.form
            subst hfr
            generalize (jAt op).take j=cl at *
            have jDD:=HM.out.prt
            unfold jA7 at jDD
            have HW4:=hid jDD
            have qAM:=HM.out.lt
            have jZ6:=HM.out.le
            have jEg:=HB.out.size
            clear jDD
            go_wp2_with (first
             | (at_builtin;refine wpList_append_own _ rfl _ _ 39 rfl B6 76 j0 _ 3 32 Tryz.underlying39 hj hjz0 hjz1 hjz2 rfl (by decide) _ _ _ rfl (HW4.out.alloc (.cells #[.int .u8 2,.string s,.bool true] 76)) ⟨wr.heap.size,0,none⟩ 1 1 [.int .u8 2,.string s,.bool true] rfl rfl (jEN wr _ _ _ _) (one3 _ _ _) (by unfold maxLen;omega) (by omega) (by simp;omega) ?_;intro v3 w3 jAP jAl jBs
                have HB5:=hid ((HB.out.alloc jEg (.cells #[.int .u8 2,.string s,.bool true] 76)).grown jAl (by simp;omega) (fun k hk=>Nat.le_trans jZ6 (HW4.out.lt k hk).1))
                have HM5:=hid (HM.out.putPart (Besd.grown jAl) (jA7.more (x:=⟨2,s,true⟩) jAP))
                clear jAP jAl jBs))
            go_roundw
            case rel=>exact⟨j+1,hjl,by go_num,by show jBR _ _ _ _ _ _ _ _ _ _;rw[HT.out];exact HM5.out,HB5.out⟩
            case measure=>simp[RowKit.intOf] <;> omega
           ·obtain rfl:j=op.length:=by omega
            have hji:¬(op.length:Int)<(op.length:Int):=by omega
            have hlo:(jAt op).take op.length=jAt op:=by rw[List.take_of_length_le (by rw[jI8];exact Nat.le_refl _)]
            rw[hlo]at HM
            obtain⟨x0,x1,x2⟩:=HX.out wr HB.out
            obtain⟨ar,cr,hfr⟩:=HM.out.prt.form
            subst hfr
            by_cases h2:xk=2
            ·subst h2
             have jDD:=HM.out.opn
             unfold jB9 at jDD
             have jZ7:=HB.out.size
             have HN:=hid (HNX.out (op++[xs]) un (by unfold jAM;rw[if_pos rfl]) (by unfold jBM;rw[if_neg (by simp)]))
             go_wp2_with (first
              | (at_builtin;refine wpList_append_own _ rfl _ _ 49 rfl w2.heap.size 9 i0 (.string ⟨#[]⟩) 1 16 Tryz.underlying49 hi hz0 hz1 hz2 rfl (by decide) _ _ _ rfl (jDD.alloc (.cells #[.string xs] 9)) ⟨wr.heap.size,0,none⟩ 1 1 [.string xs] rfl rfl (jBH _ _ _) (fun x hx=>by simp at hx;subst hx;rfl) (by unfold maxLen;omega) (by omega) (by simp;omega) ?_;intro v4 w4 jNo jFd jUf
                 have HB4:=hid ((HB.out.alloc jZ7 (.cells #[.string xs] 9)).grown jFd (by simp;omega) (fun k hk=>(jDD.lt k hk).1))
                 have HM4:=hid (HM.out.putOpn (Besd.grown jFd) (show jB9 w2.heap.size v4 (op++[xs]) w4 by unfold jB9;rw[List.length_append,List.map_append];exact jNo))
                 obtain⟨y0,y1,y2⟩:=HX.out w4 HB4.out
                 try dsimp only at y0 y1 y2
                 clear jDD jNo jFd jUf)
              | (go_at_call 93;(with_reducible refine (cX B6 _ _ HM4.out.prt HM4.out.lt).mono ?_);rintro e w5 ⟨v5,rfl,hO5,hb5,jDP⟩;have HM5:=hid (HM4.out.putPart (Besd.beside jDP hb5) hO5);have HB5:=hid (HB4.out.trans (hb5.mono HM4.out.le));clear hO5 hb5 jDP))
             go_roundw
             case rel=>exact⟨k+1,B6,uq,⟨_,_,(op++[xs]),un⟩,hlt,by go_num,by go_num,HN.out.symm,HM5.out,HB5.out⟩
             case measure=>simp[RowKit.intOf] <;> omega
            have h2b:(xk == 2)=false:=by simpa using h2
            by_cases h3:xk=3
            ·exact absurd h3 hk3
            have h3b:(xk == 3)=false:=by simpa using h3
            have h3c:(xk != 3)=true:=by simpa using h3
            by_cases h1:xk=1
            ·subst h1
             have HN:=hid (HNX.out op (un+1) (by unfold jAM;rw[if_neg (by simp),if_neg (by simp)]) (by unfold jBM;rw[if_pos (by simp)]))
             have HM4:=hid HM.out
             have HB4:=hid HB.out
             go_wp2_with (go_at_call 93;(with_reducible refine (cX B6 _ _ HM4.out.prt HM4.out.lt).mono ?_);rintro e w5 ⟨v5,rfl,hO5,hb5,jDP⟩;have HM5:=hid (HM4.out.putPart (Besd.beside jDP hb5) hO5);have HB5:=hid (HB4.out.trans (hb5.mono HM4.out.le));clear hO5 hb5 jDP)
             go_roundw
             case rel=>exact⟨k+1,B6,uq,⟨_,_,op,(un+1)⟩,hlt,by go_num,by go_num,HN.out.symm,HM5.out,HB5.out⟩
             case measure=>simp[RowKit.intOf] <;> omega
            have h1b:(xk == 1)=false:=by simpa using h1
            by_cases h5:xk=5
            ·subst h5
             have HN:=hid (HNX.out op (un+1) (by unfold jAM;rw[if_neg (by simp),if_neg (by simp)]) (by unfold jBM;rw[if_pos (by simp)]))
             have HM4:=hid HM.out
             have HB4:=hid HB.out
             go_wp2_with (go_at_call 93;(with_reducible refine (cX B6 _ _ HM4.out.prt HM4.out.lt).mono ?_);rintro e w5 ⟨v5,rfl,hO5,hb5,jDP⟩;have HM5:=hid (HM4.out.putPart (Besd.beside jDP hb5) hO5);have HB5:=hid (HB4.out.trans (hb5.mono HM4.out.le));clear hO5 hb5 jDP)
             go_roundw
             case rel=>exact⟨k+1,B6,uq,⟨_,_,op,(un+1)⟩,hlt,by go_num,by go_num,HN.out.symm,HM5.out,HB5.out⟩
             case measure=>simp[RowKit.intOf] <;> omega
            have h5b:(xk == 5)=false:=by simpa using h5
            have HN:=hid (HNX.out op un (by unfold jAM;rw[if_neg h2,if_neg h3]) (by unfold jBM;rw[if_neg (by intro h;rcases h with h | h;exact h1 h;exact h5 h)]))
            have HM4:=hid HM.out
            have HB4:=hid HB.out
            go_wp2_with (go_at_call 93;(with_reducible refine (cX B6 _ _ HM4.out.prt HM4.out.lt).mono ?_);rintro e w5 ⟨v5,rfl,hO5,hb5,jDP⟩;have HM5:=hid (HM4.out.putPart (Besd.beside jDP hb5) hO5);have HB5:=hid (HB4.out.trans (hb5.mono HM4.out.le));clear hO5 hb5 jDP)
            go_roundw
            case rel=>exact⟨k+1,B6,uq,⟨_,_,op,un⟩,hlt,by go_num,by go_num,HN.out.symm,HM5.out,HB5.out⟩
            case measure=>simp[RowKit.intOf] <;> omega
      ·have qAu:((un:Int) == at'.getD o.length 0)=false:=by simpa using hcu
       have HNX:=hid (fun op2 un2 (e1:jAM op ⟨xk,xs,xc⟩=op2) (e2:jBM un ⟨xk,xs,xc⟩=un2)=>show jBD at' S (k+1)=⟨o,jJj p ⟨xk,xs,xc⟩,op2,un2⟩ by
        rw[hnx]
        unfold jCx
        have:jCY at' ⟨o,p,op,un⟩ ⟨xk,xs,xc⟩=⟨o,p,op,un⟩:=by
         unfold jCY
         rw[if_neg (by unfold jES;dsimp only;rw[decide_eq_false (p:=(un:Int)=at'.getD o.length 0) hcu];simp)]
        rw[this]
        dsimp only
        rw[e1,e2])
       have cX:=fun Bq v' w' (hO:jA7 Bq v' p w') (hB:Bq≤w'.heap.size)=>jD0 Bq p ⟨xk,xs,xc⟩ v' w' hO hB (by omega) (HLO.out p (by omega))
       unfold pcV at cX
       dsimp only at cX
       clear hnx
       generalize at'.getD o.length 0=zz at z0 qAu
       clear hcu
       by_cases h2:xk=2
       ·subst h2
        have jDD:=HM.out.opn
        unfold jB9 at jDD
        have jZ7:=HB.out.size
        have HN:=hid (HNX.out (op++[xs]) un (by unfold jAM;rw[if_pos rfl]) (by unfold jBM;rw[if_neg (by simp)]))
        go_wp2_with (first
         | (at_builtin;refine wpList_append_own _ rfl _ _ 49 rfl w2.heap.size 9 i0 (.string ⟨#[]⟩) 1 16 Tryz.underlying49 hi hz0 hz1 hz2 rfl (by decide) _ _ _ rfl (jDD.alloc (.cells #[.string xs] 9)) ⟨wr.heap.size,0,none⟩ 1 1 [.string xs] rfl rfl (jBH _ _ _) (fun x hx=>by simp at hx;subst hx;rfl) (by unfold maxLen;omega) (by omega) (by simp;omega) ?_;intro v4 w4 jNo jFd jUf
            have HB4:=hid ((HB.out.alloc jZ7 (.cells #[.string xs] 9)).grown jFd (by simp;omega) (fun k hk=>(jDD.lt k hk).1))
            have HM4:=hid (HM.out.putOpn (Besd.grown jFd) (show jB9 w2.heap.size v4 (op++[xs]) w4 by unfold jB9;rw[List.length_append,List.map_append];exact jNo))
            obtain⟨y0,y1,y2⟩:=HX.out w4 HB4.out
            try dsimp only at y0 y1 y2
            clear jDD jNo jFd jUf)
         | (go_at_call 93;(with_reducible refine (cX Bp _ _ HM4.out.prt HM4.out.lt).mono ?_);rintro e w5 ⟨v5,rfl,hO5,hb5,jDP⟩;have HM5:=hid (HM4.out.putPart (Besd.beside jDP hb5) hO5);have HB5:=hid (HB4.out.trans (hb5.mono HM4.out.le));clear hO5 hb5 jDP))
        go_roundw
        case rel=>exact⟨k+1,Bp,us,⟨_,_,(op++[xs]),un⟩,hlt,by go_num,by go_num,HN.out.symm,HM5.out,HB5.out⟩
        case measure=>simp[RowKit.intOf] <;> omega
       have h2b:(xk == 2)=false:=by simpa using h2
       by_cases h3:xk=3
       ·subst h3
        obtain⟨op',y,rfl⟩:∃op' y,op=op'++[y]:=by
         rcases List.eq_nil_or_concat op with h | ⟨a,b,h⟩
         ·exact absurd h (HO3.out rfl)
         ·exact⟨a,b,by rw[h,List.concat_eq_append]⟩
        obtain⟨g,ca2,hg⟩:=jLh HM.out.opn (by simp)
        simp only[Value.slice.injEq]at hg
        obtain⟨rfl,-,rfl⟩:=hg
        have HM4:=hid (HM.out.setOpn (jGX (x:=y) (by have h:=HM.out.opn;unfold jB9 at h;simpa using h)))
        have HB4:=hid HB.out
        have HN:=hid (HNX.out op' un (by unfold jAM;rw[if_neg (by simp),if_pos rfl,List.dropLast_concat]) (by unfold jBM;rw[if_neg (by simp)]))
        have jZ5:=jOE HM.out.opn
        simp only[List.length_append,List.length_singleton]at *
        have hwr:IntKind.i64.wrap (op'.length:Int)=(op'.length:Int):=by rw[IntKind.wrap_i64];omega
        have jZV:(op'.length:Int)≤(cn:Int):=by omega
        go_wp2_with (go_at_call 93;(with_reducible refine (cX Bp _ _ HM4.out.prt HM4.out.lt).mono ?_);rintro e w5 ⟨v5,rfl,hO5,hb5,jDP⟩;have HM5:=hid (HM4.out.putPart (Besd.beside jDP hb5) hO5);have HB5:=hid (HB4.out.trans (hb5.mono HM4.out.le));clear hO5 hb5 jDP)
        go_roundw
        case rel=>exact⟨k+1,Bp,us,⟨_,_,op',un⟩,hlt,by go_num,by go_num,HN.out.symm,HM5.out,HB5.out⟩
        case measure=>simp[RowKit.intOf] <;> omega
       have h3b:(xk == 3)=false:=by simpa using h3
       have h3c:(xk != 3)=true:=by simpa using h3
       by_cases h1:xk=1
       ·subst h1
        have HN:=hid (HNX.out op (un+1) (by unfold jAM;rw[if_neg (by simp),if_neg (by simp)]) (by unfold jBM;rw[if_pos (by simp)]))
        have HM4:=hid HM.out
        have HB4:=hid HB.out
        go_wp2_with (go_at_call 93;(with_reducible refine (cX Bp _ _ HM4.out.prt HM4.out.lt).mono ?_);rintro e w5 ⟨v5,rfl,hO5,hb5,jDP⟩;have HM5:=hid (HM4.out.putPart (Besd.beside jDP hb5) hO5);have HB5:=hid (HB4.out.trans (hb5.mono HM4.out.le));clear hO5 hb5 jDP)
        go_roundw
        case rel=>exact⟨k+1,Bp,us,⟨_,_,op,(un+1)⟩,hlt,by go_num,by go_num,HN.out.symm,HM5.out,HB5.out⟩
        case measure=>simp[RowKit.intOf] <;> omega
       have h1b:(xk == 1)=false:=by simpa using h1
       by_cases h5:xk=5
       ·subst h5
        have HN:=hid (HNX.out op (un+1) (by unfold jAM;rw[if_neg (by simp),if_neg (by simp)]) (by unfold jBM;rw[if_pos (by simp)]))
        have HM4:=hid HM.out
        have HB4:=hid HB.out
        go_wp2_with (go_at_call 93;(with_reducible refine (cX Bp _ _ HM4.out.prt HM4.out.lt).mono ?_);rintro e w5 ⟨v5,rfl,hO5,hb5,jDP⟩;have HM5:=hid (HM4.out.putPart (Besd.beside jDP hb5) hO5);have HB5:=hid (HB4.out.trans (hb5.mono HM4.out.le));clear hO5 hb5 jDP)
        go_roundw
        case rel=>exact⟨k+1,Bp,us,⟨_,_,op,(un+1)⟩,hlt,by go_num,by go_num,HN.out.symm,HM5.out,HB5.out⟩
        case measure=>simp[RowKit.intOf] <;> omega
       have h5b:(xk == 5)=false:=by simpa using h5
       have HN:=hid (HNX.out op un (by unfold jAM;rw[if_neg h2,if_neg h3]) (by unfold jBM;rw[if_neg (by intro h;rcases h with h | h;exact h1 h;exact h5 h)]))
       have HM4:=hid HM.out
       have HB4:=hid HB.out
       go_wp2_with (go_at_call 93;(with_reducible refine (cX Bp _ _ HM4.out.prt HM4.out.lt).mono ?_);rintro e w5 ⟨v5,rfl,hO5,hb5,jDP⟩;have HM5:=hid (HM4.out.putPart (Besd.beside jDP hb5) hO5);have HB5:=hid (HB4.out.trans (hb5.mono HM4.out.le));clear hO5 hb5 jDP)
       go_roundw
       case rel=>exact⟨k+1,Bp,us,⟨_,_,op,un⟩,hlt,by go_num,by go_num,HN.out.symm,HM5.out,HB5.out⟩
       case measure=>simp[RowKit.intOf] <;> omega
     ·have hoi:¬(o.length:Int)<(at'.length:Int):=by omega
      have HNX:=hid (fun op2 un2 (e1:jAM op ⟨xk,xs,xc⟩=op2) (e2:jBM un ⟨xk,xs,xc⟩=un2)=>show jBD at' S (k+1)=⟨o,jJj p ⟨xk,xs,xc⟩,op2,un2⟩ by
       rw[hnx]
       unfold jCx
       have:jCY at' ⟨o,p,op,un⟩ ⟨xk,xs,xc⟩=⟨o,p,op,un⟩:=by
        unfold jCY
        rw[if_neg (by unfold jES;dsimp only;simp[hc1])]
       rw[this]
       dsimp only
       rw[e1,e2])
      have cX:=fun Bq v' w' (hO:jA7 Bq v' p w') (hB:Bq≤w'.heap.size)=>jD0 Bq p ⟨xk,xs,xc⟩ v' w' hO hB (by omega) (HLO.out p (by omega))
      unfold pcV at cX
      dsimp only at cX
      clear hnx
      by_cases h2:xk=2
      ·subst h2
       have jDD:=HM.out.opn
       unfold jB9 at jDD
       have jZ7:=HB.out.size
       have HN:=hid (HNX.out (op++[xs]) un (by unfold jAM;rw[if_pos rfl]) (by unfold jBM;rw[if_neg (by simp)]))
       go_wp2_with (first
        | (at_builtin;refine wpList_append_own _ rfl _ _ 49 rfl w2.heap.size 9 i0 (.string ⟨#[]⟩) 1 16 Tryz.underlying49 hi hz0 hz1 hz2 rfl (by decide) _ _ _ rfl (jDD.alloc (.cells #[.string xs] 9)) ⟨wr.heap.size,0,none⟩ 1 1 [.string xs] rfl rfl (jBH _ _ _) (fun x hx=>by simp at hx;subst hx;rfl) (by unfold maxLen;omega) (by omega) (by simp;omega) ?_;intro v4 w4 jNo jFd jUf
           have HB4:=hid ((HB.out.alloc jZ7 (.cells #[.string xs] 9)).grown jFd (by simp;omega) (fun k hk=>(jDD.lt k hk).1))
           have HM4:=hid (HM.out.putOpn (Besd.grown jFd) (show jB9 w2.heap.size v4 (op++[xs]) w4 by unfold jB9;rw[List.length_append,List.map_append];exact jNo))
           obtain⟨y0,y1,y2⟩:=HX.out w4 HB4.out
           try dsimp only at y0 y1 y2
           clear jDD jNo jFd jUf)
        | (go_at_call 93;(with_reducible refine (cX Bp _ _ HM4.out.prt HM4.out.lt).mono ?_);rintro e w5 ⟨v5,rfl,hO5,hb5,jDP⟩;have HM5:=hid (HM4.out.putPart (Besd.beside jDP hb5) hO5);have HB5:=hid (HB4.out.trans (hb5.mono HM4.out.le));clear hO5 hb5 jDP))
       go_roundw
       case rel=>exact⟨k+1,Bp,us,⟨_,_,(op++[xs]),un⟩,hlt,by go_num,by go_num,HN.out.symm,HM5.out,HB5.out⟩
       case measure=>simp[RowKit.intOf] <;> omega
      have h2b:(xk == 2)=false:=by simpa using h2
      by_cases h3:xk=3
      ·subst h3
       obtain⟨op',y,rfl⟩:∃op' y,op=op'++[y]:=by
        rcases List.eq_nil_or_concat op with h | ⟨a,b,h⟩
        ·exact absurd h (HO3.out rfl)
        ·exact⟨a,b,by rw[h,List.concat_eq_append]⟩
       obtain⟨g,ca2,hg⟩:=jLh HM.out.opn (by simp)
       simp only[Value.slice.injEq]at hg
       obtain⟨rfl,-,rfl⟩:=hg
       have HM4:=hid (HM.out.setOpn (jGX (x:=y) (by have h:=HM.out.opn;unfold jB9 at h;simpa using h)))
       have HB4:=hid HB.out
       have HN:=hid (HNX.out op' un (by unfold jAM;rw[if_neg (by simp),if_pos rfl,List.dropLast_concat]) (by unfold jBM;rw[if_neg (by simp)]))
       have jZ5:=jOE HM.out.opn
       simp only[List.length_append,List.length_singleton]at *
       have hwr:IntKind.i64.wrap (op'.length:Int)=(op'.length:Int):=by rw[IntKind.wrap_i64];omega
       have jZV:(op'.length:Int)≤(cn:Int):=by omega
       go_wp2_with (go_at_call 93;(with_reducible refine (cX Bp _ _ HM4.out.prt HM4.out.lt).mono ?_);rintro e w5 ⟨v5,rfl,hO5,hb5,jDP⟩;have HM5:=hid (HM4.out.putPart (Besd.beside jDP hb5) hO5);have HB5:=hid (HB4.out.trans (hb5.mono HM4.out.le));clear hO5 hb5 jDP)
       go_roundw
       case rel=>exact⟨k+1,Bp,us,⟨_,_,op',un⟩,hlt,by go_num,by go_num,HN.out.symm,HM5.out,HB5.out⟩
       case measure=>simp[RowKit.intOf] <;> omega
      have h3b:(xk == 3)=false:=by simpa using h3
      have h3c:(xk != 3)=true:=by simpa using h3
      by_cases h1:xk=1
      ·subst h1
       have HN:=hid (HNX.out op (un+1) (by unfold jAM;rw[if_neg (by simp),if_neg (by simp)]) (by unfold jBM;rw[if_pos (by simp)]))
       have HM4:=hid HM.out
       have HB4:=hid HB.out
       go_wp2_with (go_at_call 93;(with_reducible refine (cX Bp _ _ HM4.out.prt HM4.out.lt).mono ?_);rintro e w5 ⟨v5,rfl,hO5,hb5,jDP⟩;have HM5:=hid (HM4.out.putPart (Besd.beside jDP hb5) hO5);have HB5:=hid (HB4.out.trans (hb5.mono HM4.out.le));clear hO5 hb5 jDP)
       go_roundw
       case rel=>exact⟨k+1,Bp,us,⟨_,_,op,(un+1)⟩,hlt,by go_num,by go_num,HN.out.symm,HM5.out,HB5.out⟩
       case measure=>simp[RowKit.intOf] <;> omega
      have h1b:(xk == 1)=false:=by simpa using h1
      by_cases h5:xk=5
      ·subst h5
       have HN:=hid (HNX.out op (un+1) (by unfold jAM;rw[if_neg (by simp),if_neg (by simp)]) (by unfold jBM;rw[if_pos (by simp)]))
       have HM4:=hid HM.out
       have HB4:=hid HB.out
       go_wp2_with (go_at_call 93;(with_reducible refine (cX Bp _ _ HM4.out.prt HM4.out.lt).mono ?_);rintro e w5 ⟨v5,rfl,hO5,hb5,jDP⟩;have HM5:=hid (HM4.out.putPart (Besd.beside jDP hb5) hO5);have HB5:=hid (HB4.out.trans (hb5.mono HM4.out.le));clear hO5 hb5 jDP)
       go_roundw
       case rel=>exact⟨k+1,Bp,us,⟨_,_,op,(un+1)⟩,hlt,by go_num,by go_num,HN.out.symm,HM5.out,HB5.out⟩
       case measure=>simp[RowKit.intOf] <;> omega
      have h5b:(xk == 5)=false:=by simpa using h5
      have HN:=hid (HNX.out op un (by unfold jAM;rw[if_neg h2,if_neg h3]) (by unfold jBM;rw[if_neg (by intro h;rcases h with h | h;exact h1 h;exact h5 h)]))
      have HM4:=hid HM.out
      have HB4:=hid HB.out
      go_wp2_with (go_at_call 93;(with_reducible refine (cX Bp _ _ HM4.out.prt HM4.out.lt).mono ?_);rintro e w5 ⟨v5,rfl,hO5,hb5,jDP⟩;have HM5:=hid (HM4.out.putPart (Besd.beside jDP hb5) hO5);have HB5:=hid (HB4.out.trans (hb5.mono HM4.out.le));clear hO5 hb5 jDP)
      go_roundw
      case rel=>exact⟨k+1,Bp,us,⟨_,_,op,un⟩,hlt,by go_num,by go_num,HN.out.symm,HM5.out,HB5.out⟩
      case measure=>simp[RowKit.intOf] <;> omega
    ·obtain rfl:k=S.length:=by omega
     have hki:¬(S.length:Int)<(S.length:Int):=by omega
     have hou:=jK8 (at':=at') (S:=S) S.length (Nat.le_refl _)
     rw[←HST.out]at hou
     obtain⟨o,p,op,un⟩:=st
     dsimp only at HM hou
     have hps:jK2 at' S=o++[p]:=by unfold jK2;rw[←HST.out]
     rw[hps]at HCE HCR
     obtain⟨ao,ca,rfl⟩:=jDI HM.out.row
     obtain⟨t0,ht,qAJ,qAK,qAL⟩:=info_parts jOX
     clear hps HST
     obtain⟨aq,cq,hfq⟩:=HM.out.prt.form
     subst hfq
     have jUe:=HM.out.row
     have HW6:=hid jUe
     have qAM:=HM.out.lt
     have jZ6:=HM.out.le
     have jEg:=HB.out.size
     clear jUe
     go_wp2_with (first
      | (at_builtin;refine wpList_append_own _ rfl _ _ 47 rfl w2.heap.size 39 t0 (.slice none 0 0) 1 24 Tryz.underlying47 ht qAJ qAK qAL rfl (by decide) _ _ _ rfl (HW6.out.alloc (.cells #[.slice aq p.length cq] 39)) ⟨wr.heap.size,0,none⟩ 1 1 [.slice aq p.length cq] rfl rfl (jBH _ _ _) (fun x hx=>by simp at hx;subst hx;rfl) (by unfold maxLen;omega) (by omega) (by simp;omega) ?_;intro v6 w6 jA5 jAv jC8
         have HB6:=hid ((HB.out.alloc jEg (.cells #[.slice aq p.length cq] 39)).grown jAv (by simp;omega) (fun k hk=>(HW6.out.lt k hk).1))
         have HM6:=hid (HM.out.putOut (Besd.grown jAv) jA5)
         clear jA5 jAv jC8))
     obtain⟨ao6,ca6,hf6⟩:=jDI HM6.out.row
     subst hf6
     have HP6:=hid HM6.out.ptsO
     have HBZ:=hid (jAa HB2.out HB6.out)
     have hql:(o++[p]).length≤9001:=by rw[List.length_append,List.length_singleton];omega
     clear HM6 HB6 HM HB HW6
     generalize o++[p]=Q at *
     go_loop [18] (fun i=>∃j:Nat,j≤Q.length∧i=.int .i64 j∧Hid (∀t,t<j→¬512<(Q.getD t []).length)) (fun i=>Q.length-(RowKit.intOf i).toNat)
     case atStart=>exact⟨0,Nat.zero_le _,rfl,fun t ht=>absurd ht (Nat.not_lt_zero _)⟩
     case round =>
      obtain⟨j,hj,rfl,HL⟩:=hrel
      by_cases hjl:j<Q.length
      ·obtain⟨A,q,c,rfl,y0,_⟩:=HP6.out.at.part (Below.refl _ _) hjl
       have hji:(j:Int)<(Q.length:Int):=by omega
       have hj0:(0:Int)≤(j:Int):=by omega
       by_cases jHN:512<(Q.getD j []).length
       ·have hla:jCg Q=true:=jPO hjl jHN
        have h1:ctE l at'=3:=by rw[HCE.out,if_pos hla]
        have h2:ctR l at'=[]:=by rw[HCR.out,if_neg (by rw[h1];decide)]
        have HR:=hid (And.intro h1 h2)
        have h5i:(512:Int)<((Q.getD j []).length:Int):=by omega
        clear h1 h2 hla
        generalize Q.getD j []=part at y0 jHN h5i
        go_wp2
        go_ret2
        exact⟨⟨.slice none 0 0,by rw[HR.out.1];rfl,by rw[HR.out.2];exact jEZ.nil _⟩,HBZ.out⟩
       ·have HL2:Hid (∀t,t<j+1→¬512<(Q.getD t []).length):=fun t ht=>by
         rcases Nat.lt_succ_iff_lt_or_eq.1 ht with h1 | rfl
         ·exact HL.out t h1
         ·exact jHN
        have h5i:¬(512:Int)<((Q.getD j []).length:Int):=by omega
        generalize Q.getD j []=part at y0 jHN h5i
        go_wp2
        go_round
        case rel=>exact⟨j+1,hjl,by go_num,HL2.out⟩
        case measure=>simp[RowKit.intOf] <;> omega
      ·obtain rfl:j=Q.length:=by omega
       have hji:¬(Q.length:Int)<(Q.length:Int):=by omega
       have hla:jCg Q=false:=jSN HL.out
       have h1:ctE l at'=0:=by rw[HCE.out,if_neg (by rw[hla];simp)]
       have h2:ctR l at'=Q:=by rw[HCR.out,if_pos h1]
       have HR:=hid (And.intro h1 h2)
       clear h1 h2 hla
       go_wp2
       go_ret2
       exact⟨⟨_,by rw[HR.out.1];rfl,by rw[HR.out.2];exact HP6.out⟩,HBZ.out⟩
end Go.Proofs.YtldapapdolkiaaaGreatDoor
namespace Go.Proofs.YtldapapdolkiaaaGreatDoor
set_option maxHeartbeats 64000000
open Go Go.RowKit Go.Lib
set_option maxRecDepth 100000
def jZi (b:Bool)(e:Ending):Prop:=∃z:Int,e=.returned (.int .i64 z)∧(b=true→0≤z)∧(b=false→z<0)
theorem jQS (Q:List (List Pc))(v:Value)(w:World)(hv:jDA w v Q) :
 Calls Tryz.prog 147 #[v,.func (.func 55) #[] #[]] w fun e w'=>jZi (jCg Q) e∧w'=w:=by
 have HP:=hid hv
 obtain⟨p,cap,rfl,hlc,hcm⟩:=hv.form
 unfold maxLen at hcm
 clear hv
 go_enter Tryz.func147,Tryz.ntmps147
 go_wp2
 go_loop [5,8] (fun _ i=>∃k:Nat,k≤Q.length∧i=.int .i64 k∧Hid (∀t,t<k→¬512<(Q.getD t []).length)) (fun _ i=>Q.length-(RowKit.intOf i).toNat)
 case atStart=>exact⟨0,Nat.zero_le _,rfl,fun t ht=>absurd ht (Nat.not_lt_zero _)⟩
 case round =>
  obtain⟨k,hk,rfl,HL⟩:=hrel
  by_cases hlt:k<Q.length
  ·obtain⟨A,q,c,rfl,y0,_⟩:=HP.out.part (Below.refl _ _) hlt
   have hki:(k:Int)<(Q.length:Int):=by omega
   have hk0:(0:Int)≤(k:Int):=by omega
   have cW:=fun w2=>jGF (Q.getD k []) (.slice q (Q.getD k []).length c) w2 ⟨q,c,rfl⟩
   by_cases jHN:512<(Q.getD k []).length
   ·have HA:=hid (jPO hlt jHN)
    rw[decide_eq_true jHN]at cW
    generalize Q.getD k []=part at y0 cW
    go_wp2_with (go_at_call 55;(with_reducible refine (cW _).mono ?_);rintro e w' ⟨rfl,rfl⟩)
    go_ret
    exact⟨⟨_,rfl,fun _=>by omega,fun h=>absurd (h.symm.trans HA.out) (by simp)⟩,rfl⟩
   ·have HL2:Hid (∀t,t<k+1→¬512<(Q.getD t []).length):=fun t ht=>by
     rcases Nat.lt_succ_iff_lt_or_eq.1 ht with h1 | rfl
     ·exact HL.out t h1
     ·exact jHN
    rw[decide_eq_false jHN]at cW
    generalize Q.getD k []=part at y0 cW
    go_wp2_with (go_at_call 55;(with_reducible refine (cW _).mono ?_);rintro e w' ⟨rfl,rfl⟩)
    go_round
    case rel=>exact⟨k+1,hlt,by go_num,HL2.out⟩
    case measure=>simp[RowKit.intOf] <;> omega
  ·obtain rfl:k=Q.length:=by omega
   have hki:¬(Q.length:Int)<(Q.length:Int):=by omega
   have HA:=hid (jSN HL.out)
   go_wp2
   go_ret
   exact⟨⟨_,rfl,fun h=>absurd (HA.out.symm.trans h) (by simp),fun _=>by omega⟩,rfl⟩
theorem jRF {a b:Bool}(h:a=b):Ending.returned (.bool a)=.returned (.bool b):=by rw[h]
theorem jLu (Q:List (List Pc))(v:Value)(w:World)(hv:jDA w v Q) :
 Calls Tryz.prog 84 #[v,.func (.func 55) #[] #[]] w fun e w'=>e=.returned (.bool (jCg Q))∧w'=w:=by
 have cI:=jQS Q v w hv
 obtain⟨p,cap,rfl,hlc,hcm⟩:=hv.form
 clear hv
 generalize jCg Q=b at cI
 cases b
 ·go_enter Tryz.func84,Tryz.ntmps84
  go_wp2_with (go_at_call 147;(with_reducible refine cI.mono ?_);rintro e w2 ⟨⟨z,rfl,h1,h2⟩,hw⟩;obtain rfl:=hw.symm;have hz:=h2 rfl;clear h1 h2)
  go_ret
  exact⟨jRF (decide_eq_false (by omega)),rfl⟩
 ·go_enter Tryz.func84,Tryz.ntmps84
  go_wp2_with (go_at_call 147;(with_reducible refine cI.mono ?_);rintro e w2 ⟨⟨z,rfl,h1,h2⟩,hw⟩;obtain rfl:=hw.symm;have hz:=h1 rfl;clear h1 h2)
  go_ret
  exact⟨rfl,rfl⟩
end Go.Proofs.YtldapapdolkiaaaGreatDoor
