/- What a document's own segments give back: the parts of each block, their order. No run of any program here. A document's own segments restore it; so they do with two neighbours of one block glued. No run of any program here. With two neighbours of one block glued, segments restore their document. No run of any program here. Rows of segments that are put together anew. The law DocsRestored over any document, rules and number, given that the layer's examples hold. -/
import Derived.Test.YtldapapdolkiaaaGreatDoorSgA
import Derived.Test.YtldapapdolkiaaaGreatDoorSgD
import Derived.Test.YtldapapdolkiaaaGreatDoorGmA
import Derived.Test.YtldapapdolkiaaaGreatDoorDoA
import Derived.Test.YtldapapdolkiaaaGreatDoorBsC
namespace Go.Proofs.YtldapapdolkiaaaGreatDoor
set_option maxHeartbeats 64000000
open Go Go.RowKit Go.Lib
set_option maxRecDepth 100000
def qBI (R:List Rl)(b:Bk):List (List Pc):=if b.k=6 then [] else ctR b.l (plcs R b.l)
theorem jU8 (R:List Rl)(i:Nat)(b:Bk):jXO R i b=jB3 i (qBI R b):=by
 unfold qBI
 by_cases h:b.k=6
 ·rw[jLl h,if_pos h];rfl
 ·rw[jLj h,if_neg h]
theorem jFd (S T:List Sg)(n:Nat):jAe (S++T) n=jAe S n++jAe T n:=by
 unfold jAe
 rw[List.filter_append,List.map_append]
theorem qAK (k:Nat)(Q:List (List Pc))(n:Nat):jAe (jB3 k Q) n=if n=k then Q else []:=by
 unfold jAe jB3
 by_cases h:n=k
 ·subst h
  rw[if_pos rfl]
  induction Q with
  | nil=>rfl
  | cons q Q ih=>simp only[List.map_cons];rw[List.filter_cons_of_pos (by simp),List.map_cons,ih]
 ·rw[if_neg h]
  induction Q with
  | nil=>rfl
  | cons q Q ih=>simp only[List.map_cons];rw[List.filter_cons_of_neg (by simp;omega),ih]
theorem jQT (R:List Rl)(bs:List Bk)(n:Nat):∀k,jAe (jBZ R bs k) n=if n<k then qBI R (bs.getD n jBp) else []
 | 0=>by rw[if_neg (by omega)];rfl
 | k+1=>by
   rw[jGQ,jFd,jQT R bs n k,jU8,qAK]
   by_cases h1:n<k
   ·rw[if_pos h1,if_neg (by omega),if_pos (by omega),List.append_nil]
   ·by_cases h2:n=k
    ·subst h2
     rw[if_neg (by omega),if_pos rfl,if_pos (by omega),List.nil_append]
    ·rw[if_neg h1,if_neg h2,if_neg (by omega),List.append_nil]
def sorted (S:List Sg):Prop:=S.Pairwise fun a b=>a.b≤b.b
def fit1 (K:List Bk)(s:Sg):Prop:=0≤s.b∧s.b<(K.length:Int)∧(K.getD s.b.toNat jBp).k≠6
theorem qBU {K:List Bk}{S:List Sg}(h1:∀s ∈ S,fit1 K s)(h2:sorted S):∀m,m≤S.length→jE5 K S m=true
 | 0,_=>rfl
 | m+1,hm=>by
   have ih:=qBU h1 h2 m (by omega)
   have hf:=h1 _ (jWl (show m<S.length by omega))
   have hs:(if m=0 then 0 else (S.getD (m-1) jCf).b)≤(S.getD m jCf).b:=by
    by_cases h0:m=0
    ·rw[if_pos h0];exact hf.1
    ·rw[if_neg h0]
     have h3:=List.pairwise_iff_getElem.1 h2 (m-1) m (by omega) (by omega) (by omega)
     rw[List.getD_eq_getElem?_getD,List.getD_eq_getElem?_getD,List.getElem?_eq_getElem (by omega),List.getElem?_eq_getElem (by omega)]
     exact h3
   show (jE5 K S m && jLH K _ _)=true
   rw[ih,Bool.true_and]
   unfold jLH
   rw[decide_eq_true hs,decide_eq_true hf.2.1,decide_eq_true hf.2.2]
   rfl
theorem jUS {k:Nat}{Q:List (List Pc)}{s:Sg}(h:s ∈ jB3 k Q):s.b=(k:Int):=by
 unfold jB3 at h
 obtain⟨q,_,rfl⟩:=List.mem_map.1 h
 rfl
theorem jUR {R:List Rl}{bs:List Bk}:∀ {k:Nat} {s:Sg},s ∈ jBZ R bs k→∃i:Nat,i<k∧s.b=(i:Int)∧(bs.getD i jBp).k≠6
 | 0,s,h=>by cases h
 | k+1,s,h=>by
   rw[jGQ]at h
   rcases List.mem_append.1 h with h | h
   ·obtain⟨i,h1,h2,h3⟩:=jUR h
    exact⟨i,by omega,h2,h3⟩
   ·rw[jU8]at h
    refine⟨k,by omega,jUS h,fun e=>?_⟩
    unfold qBI at h
    rw[if_pos e]at h
    cases h
theorem jOX (R:List Rl)(bs:List Bk):∀k,sorted (jBZ R bs k)
 | 0=>List.Pairwise.nil
 | k+1=>by
   unfold sorted
   rw[jGQ,List.pairwise_append]
   refine⟨jOX R bs k,?_,fun a ha b hb=>?_⟩
   ·rw[jU8]
    refine List.Pairwise.imp_of_mem ?_ (List.pairwise_of_forall (R:=fun _ _=>True) fun _ _=>trivial)
    intro a b ha hb _
    rw[jUS ha,jUS hb]
    exact Int.le_refl _
   ·obtain⟨i,h1,h2,_⟩:=jUR ha
    rw[jU8]at hb
    rw[h2,jUS hb]
    omega
theorem qBx {R:List Rl}{bs:List Bk}:∀s ∈ jBZ R bs bs.length,fit1 bs s:=fun s hs=>by
 obtain⟨i,h1,h2,h3⟩:=jUR hs
 refine⟨by omega,by omega,?_⟩
 rw[h2,Int.toNat_natCast]
 exact h3
end Go.Proofs.YtldapapdolkiaaaGreatDoor
namespace Go.Proofs.YtldapapdolkiaaaGreatDoor
set_option maxHeartbeats 64000000
open Go Go.RowKit Go.Lib
set_option maxRecDepth 100000
theorem jX4 {b:Bk}(h:jBF b=0):jC9 b.l=true:=by
 have h1:=jJu h
 unfold jBF at h
 by_cases h2:b.k<1∨6<b.k
 ·rw[if_pos h2]at h;exact absurd h (by decide)
 ·rw[if_neg h2,if_neg (by simp[h1])]at h
  unfold inE at h
  cases hw:jC9 b.l
  ·rw[if_pos hw]at h;exact absurd h (by decide)
  ·rfl
theorem jZ5 {K:List Bk}{S:List Sg}(h:∀i,i<K.length→(K.getD i jBp).k≠6→jAe S i≠[]):∀m,m≤K.length→jFU K S m=true
 | 0,_=>rfl
 | m+1,hm=>by
   show (jFU K S m && jTr K S m)=true
   rw[jZ5 h m (by omega),Bool.true_and]
   unfold jTr
   by_cases h6:(K.getD m jBp).k=6
   ·rw[decide_eq_true h6];rfl
   ·rw[decide_eq_true (h m (by omega) h6),Bool.or_true]
theorem qBe {K:List Bk}{S:List Sg}(h:∀i,i<K.length→rbE K S i=0):∀m,m≤K.length→jJU K S m=0
 | 0,_=>rfl
 | m+1,hm=>(jJB (qBe h m (by omega))).trans (h m (by omega))
theorem restores {bs:List Bk}{S:List Sg}(h0:jFz bs=0)(h1:∀s ∈ S,fit1 bs s)(h2:sorted S)
 (h3:∀i,i<bs.length→(bs.getD i jBp).k≠6→jAe S i≠[]∧jCA (jAe S i)=0∧jCb (jAe S i)=(bs.getD i jBp).l):rsE bs S=0∧rsL bs S=bs:=by
 have hf:=(jKM h0).2
 have hsh:jJK bs S=true:=by
  unfold jJK
  rw[qBU h1 h2 S.length (Nat.le_refl _),jZ5 (fun i hi h6=>(h3 i hi h6).1) bs.length (Nat.le_refl _)]
  rfl
 have hE:rsE bs S=0:=by
  unfold rsE
  rw[if_neg (by simp[h0]),if_neg (by simp[hsh])]
  refine qBe (fun i hi=>?_) bs.length (Nat.le_refl _)
  unfold rbE
  by_cases h6:(bs.getD i jBp).k=6
  ·rw[if_pos h6]
  ·obtain⟨_,h4,h5⟩:=h3 i hi h6
   rw[if_neg h6,if_neg (by simp[h4]),h5,jX4 (hf _ (jDH hi)),if_neg (by decide)]
 refine⟨hE,?_⟩
 unfold rsL
 rw[if_pos hE]
 unfold jQB
 refine List.ext_getElem (by simp) fun i hi hi2=>?_
 rw[List.getElem_map,List.getElem_range]
 have hg:bs.getD i jBp=bs[i]:=by rw[List.getD_eq_getElem?_getD,List.getElem?_eq_getElem hi2];rfl
 unfold rbL
 by_cases h6:(bs.getD i jBp).k=6
 ·rw[if_pos h6,hg]
 ·rw[if_neg h6,(h3 i hi2 h6).2.2,hg]
theorem jXH {R:List Rl}{bs:List Bk}:∀ {m:Nat},jDV R bs m=0→∀i,i<m→jOY R (bs.getD i jBp)=0
 | 0,_,i,hi=>absurd hi (Nat.not_lt_zero i)
 | m+1,h,i,hi=>by
   have h1:jDV R bs m=0:=by
    rw[jDV]at h
    by_cases e:jDV R bs m=0
    ·exact e
    ·rw[if_pos e]at h;exact absurd h e
   rcases Nat.lt_succ_iff_lt_or_eq.1 hi with h2 | rfl
   ·exact jXH h1 i h2
   ·exact (jGV h1).symm.trans h
theorem jPp {R:List Rl}{bs:List Bk}(h:sgE bs R=0):jFz bs=0∧(∀i,i<bs.length→(bs.getD i jBp).k≠6→jED (bs.getD i jBp).l (plcs R (bs.getD i jBp).l))∧sgL bs R=jBZ R bs bs.length:=by
 have hL:sgL bs R=jBZ R bs bs.length:=by unfold sgL;rw[if_pos h]
 unfold sgE at h
 by_cases h1:jFz bs=0
 ·rw[if_neg (by simp[h1])]at h
  by_cases h2:jDw R=0
  ·rw[if_neg (by simp[h2])]at h
   refine⟨h1,fun i hi h6=>ct_ok ?_,hL⟩
   rw[←jO3 h6]
   exact jXH h i hi
  ·rw[if_pos h2]at h;exact absurd h h2
 ·rw[if_pos h1]at h;exact absurd h h1
theorem jQJ {R:List Rl}{bs:List Bk}(h:sgE bs R=0){i:Nat}(hi:i<bs.length):jAe (sgL bs R) i=qBI R (bs.getD i jBp):=by
 rw[(jPp h).2.2,jQT,if_pos hi]
theorem jVf {R:List Rl}{b:Bk}(h6:b.k≠6)(h:jED b.l (plcs R b.l)):qBI R b=(jCG (plcs R b.l) 0 [] [] (jAh b.l)).map jBs∧qBI R b≠[]:=by
 have e:qBI R b=(jCG (plcs R b.l) 0 [] [] (jAh b.l)).map jBs:=by unfold qBI;rw[if_neg h6,(ok_ct h).2]
 refine⟨e,fun e2=>?_⟩
 have:=h.count
 rw[e]at e2
 have h2:=congrArg List.length e2
 rw[List.length_map,this]at h2
 simp at h2
theorem qBa {R:List Rl}{bs:List Bk}(h:sgE bs R=0):(∀s ∈ sgL bs R,fit1 bs s)∧sorted (sgL bs R):=by
 rw[(jPp h).2.2]
 exact⟨qBx,jOX R bs _⟩
def Cuts (bs:List Bk)(S:List Sg):Prop:=(∀s ∈ S,fit1 bs s)∧sorted S∧∀i,i<bs.length→(bs.getD i jBp).k≠6→∃at':List Int,at'.length≤2500∧jED (bs.getD i jBp).l at'∧jAe S i=(jCG at' 0 [] [] (jAh (bs.getD i jBp).l)).map jBs
theorem qCg {l:List Pc}{at':List Int}(h:jED l at'):(jCG at' 0 [] [] (jAh l)).map jBs≠[]:=fun e=>by
 have:=congrArg List.length e
 rw[List.length_map,h.count]at this
 simp at this
theorem Cuts.restores {bs:List Bk}{S:List Sg}(h0:jFz bs=0)(h:Cuts bs S):rsE bs S=0∧rsL bs S=bs:=by
 obtain⟨h1,h2,h3⟩:=h
 refine _root_.Go.Proofs.YtldapapdolkiaaaGreatDoor.restores h0 h1 h2 fun i hi h6=>?_
 obtain⟨at',_,hc,e⟩:=h3 i hi h6
 rw[e]
 exact⟨qCg hc,hc.glued⟩
theorem Cuts.out {bs:List Bk}{S:List Sg}(h:Cuts bs S){n:Nat}(hn:n<bs.length→(bs.getD n jBp).k=6):jAe S n=[]:=by
 by_cases e:jAe S n=[]
 ·exact e
 ·obtain⟨s,hs,hb⟩:=qBJ.1 e
  obtain⟨g1,g2,g3⟩:=h.1 s hs
  rw[hb,Int.toNat_natCast]at g3
  exact absurd (hn (by omega)) g3
theorem qBN {L:List (List Pc)}{i:Nat}(hi:i<L.length):L.getD i [] ∈ L:=by
 rw[List.getD_eq_getElem?_getD,List.getElem?_eq_getElem hi];exact List.getElem_mem hi
theorem Cuts.few {bs:List Bk}{S:List Sg}(h:Cuts bs S)(hb:∀b ∈ bs,bulk b.l≤2500)(hl:S.length≤1000000):FewR S:=by
 refine⟨hl,fun n=>?_⟩
 by_cases hn:n<bs.length∧(bs.getD n jBp).k≠6
 ·obtain⟨at',hA,hc,e⟩:=h.2.2 n hn.1 hn.2
  have hbu:=hb _ (jDH hn.1)
  obtain⟨k1,k2⟩:=hc.bulks
  rw[e]
  refine⟨by rw[List.length_map,hc.count];omega,by omega,fun i hi=>?_⟩
  have hm:=qBN hi
  obtain⟨q,hq,e2⟩:=List.mem_map.1 hm
  have:=k2 q hq
  rw[←e2]
  omega
 ·have e:=h.out (n:=n) (fun h1=>by
   by_cases h6:(bs.getD n jBp).k=6
   ·exact h6
   ·exact absurd ⟨h1,h6⟩ hn)
  rw[e]
  exact⟨by simp,by simp[jCT],fun i hi=>absurd hi (by simp)⟩
theorem jUU {R:List Rl}{bs:List Bk}(h:sgE bs R=0)(hb:∀b ∈ bs,bulk b.l≤2500):Cuts bs (sgL bs R):=by
 obtain⟨h0,h1,_⟩:=jPp h
 obtain⟨f1,f2⟩:=qBa h
 refine⟨f1,f2,fun i hi h6=>⟨_,jK6 R (hb _ (jDH hi)),h1 i hi h6,?_⟩⟩
 rw[jQJ h hi]
 exact (jVf h6 (h1 i hi h6)).1
theorem qBy {R:List Rl}{bs:List Bk}(h:sgE bs R=0){i:Nat}(hi:i<bs.length):(jAe (sgL bs R) i≠[])↔(bs.getD i jBp).k≠6:=by
 rw[jQJ h hi]
 constructor
 ·intro hne h6
  exact hne (by unfold qBI;rw[if_pos h6])
 ·intro h6
  exact (jVf h6 ((jPp h).2.1 i hi h6)).2
end Go.Proofs.YtldapapdolkiaaaGreatDoor
namespace Go.Proofs.YtldapapdolkiaaaGreatDoor
set_option maxHeartbeats 64000000
open Go Go.RowKit Go.Lib
set_option maxRecDepth 100000
theorem split2 (S:List Sg)(k:Nat)(hk:k+1<S.length):S=S.take k++[S.getD k jCf,S.getD (k+1) jCf]++S.drop (k+2):=by
 have h1:S.drop k=S.getD k jCf :: S.drop (k+1):=by rw[List.drop_eq_getElem_cons (by omega),List.getD_eq_getElem?_getD,List.getElem?_eq_getElem (by omega)];rfl
 have h2:S.drop (k+1)=S.getD (k+1) jCf :: S.drop (k+2):=by rw[List.drop_eq_getElem_cons hk,List.getD_eq_getElem?_getD,List.getElem?_eq_getElem hk];rfl
 conv=>lhs;rw[←List.take_append_drop k S,h1,h2]
 simp
theorem jIT (s:Sg)(n:Nat):jAe [s] n=if s.b=(n:Int) then [s.l] else []:=by
 have h:=jKE [] s n
 rw[List.nil_append,qBg,List.nil_append]at h
 exact h
def jFP (S:List Sg)(k:Nat)(g:List Pc):List Sg:=S.take k++[⟨(S.getD k jCf).b,g⟩]++S.drop (k+2)
theorem glued2 {R:List Rl}{bs:List Bk}(h:sgE bs R=0)(hbk:∀b ∈ bs,bulk b.l≤2500){k:Nat}(hk:k+1<(sgL bs R).length)(hb:((sgL bs R).getD k jCf).b=((sgL bs R).getD (k+1) jCf).b) :
 jCA [((sgL bs R).getD k jCf).l,((sgL bs R).getD (k+1) jCf).l]=0 ∧
 Cuts bs (jFP (sgL bs R) k (jCb [((sgL bs R).getD k jCf).l,((sgL bs R).getD (k+1) jCf).l])):=by
 obtain⟨h0,hC,_⟩:=jPp h
 obtain⟨f1,f2⟩:=qBa h
 have hP:=fun i hi=>jQJ (R:=R) (bs:=bs) h (i:=i) hi
 generalize sgL bs R=S at *
 have hs:=split2 S k hk
 obtain⟨g1,g2,g3⟩:=f1 _ (jWl (show k<S.length by omega))
 generalize hs0:S.getD k jCf=s0 at *
 generalize hs1:S.getD (k+1) jCf=s1 at *
 obtain⟨i,hi⟩:∃i:Nat,s0.b=(i:Int):=⟨s0.b.toNat,by omega⟩
 rw[hi,Int.toNat_natCast]at g3
 have hin:i<bs.length:=by omega
 have qCt:=hC i hin g3
 obtain⟨e,_⟩:=jVf g3 qCt
 have hp:=hP i hin
 rw[e]at hp
 have hc:=qCt.count
 have hpl:=jK6 R (hbk _ (jDH hin))
 have hPl:=fun n hn=>jK6 R (hbk _ (jDH (bs:=bs) (k:=n) hn))
 have hCn:=hC
 clear hC
 generalize plcs R (bs.getD i jBp).l=at' at hp hc hpl qCt
 clear e
 have hSp:jAe S i=jAe (S.take k) i++[s0.l,s1.l]++jAe (S.drop (k+2)) i:=by
  conv=>lhs;rw[hs]
  rw[jFd,jFd,show [s0,s1]=[s0]++[s1] from rfl,jFd,jIT,jIT,if_pos hi,if_pos (hb▸hi)]
  rfl
 have hl:=congrArg List.length (hSp.symm.trans hp)
 simp only[List.length_append,List.length_cons,List.length_nil,List.length_map]at hl
 rw[hc]at hl
 obtain⟨p,hA⟩:∃p,at'=at'.take (jAe (S.take k) i).length++p :: at'.drop ((jAe (S.take k) i).length+1):=by
  refine⟨at'[(jAe (S.take k) i).length]'(by omega),?_⟩
  rw[←List.drop_eq_getElem_cons,List.take_append_drop]
 have hAl:(at'.take (jAe (S.take k) i).length).length=(jAe (S.take k) i).length:=by rw[List.length_take];omega
 generalize at'.take (jAe (S.take k) i).length=A at *
 generalize at'.drop ((jAe (S.take k) i).length+1)=B at *
 subst hA
 obtain⟨hok,X,q0,q1,q,Y,r1,r2,r3,r4,r5⟩:=qCt.glue2
 have hj:=hSp.symm.trans hp
 rw[r1,List.map_append,List.map_append]at hj
 obtain⟨j1,j2⟩:=List.append_inj (List.append_assoc ..▸List.append_assoc ..▸hj:jAe (S.take k) i++([s0.l,s1.l]++jAe (S.drop (k+2)) i)=X.map jBs++([q0,q1].map jBs++Y.map jBs)) (by rw[List.length_map];omega)
 obtain⟨j3,j4⟩:=List.append_inj j2 rfl
 simp only[List.map_cons,List.map_nil,List.cons.injEq,and_true]at j3
 rw[j3.1,j3.2,r4,r5]
 refine⟨rfl,?_⟩
 have jFu:∀s ∈ jFP S k (jBs q),∃t ∈ S,t.b=s.b:=fun s hs2=>by
  unfold jFP at hs2
  rw[hs0]at hs2
  rcases List.mem_append.1 hs2 with hs2 | hs2
  ·rcases List.mem_append.1 hs2 with hs2 | hs2
   ·exact⟨s,List.mem_of_mem_take hs2,rfl⟩
   ·rw[List.mem_singleton.1 hs2]
    exact⟨s0,by rw[←hs0];exact jWl (by omega),rfl⟩
  ·exact⟨s,List.mem_of_mem_drop hs2,rfl⟩
 refine⟨fun s hs2=>?_,?_,fun n hn h6=>?_⟩
 ·obtain⟨t,ht,e2⟩:=jFu s hs2
  have:=f1 t ht
  unfold fit1 at this ⊢
  rw[←e2]
  exact this
 ·have f3:(S.map Sg.b).Pairwise (·≤·):=List.pairwise_map.2 f2
  have f4:((jFP S k (jBs q)).map Sg.b).Pairwise (·≤·):=by
   refine f3.sublist ?_
   conv=>rhs;rw[hs]
   unfold jFP
   rw[hs0]
   simp only[List.map_append,List.map_cons,List.map_nil]
   refine List.Sublist.append (List.Sublist.append (List.Sublist.refl _) ?_) (List.Sublist.refl _)
   exact List.Sublist.cons_cons _ (List.nil_sublist _)
  exact List.pairwise_map.1 f4
 ·have hSn:jAe (jFP S k (jBs q)) n=jAe (S.take k) n++(if s0.b=(n:Int) then [jBs q] else [])++jAe (S.drop (k+2)) n:=by
   unfold jFP
   rw[jFd,jFd,jIT,hs0]
  by_cases hni:n=i
  ·subst hni
   rw[hSn,if_pos hi,j1,j4]
   have e3:X.map jBs++[jBs q]++Y.map jBs=(jCG (A++B) 0 [] [] (jAh (bs.getD n jBp).l)).map jBs:=by rw[r2];simp
   rw[e3]
   exact⟨A++B,by rw[List.length_append,List.length_cons]at hpl;rw[List.length_append];omega,hok,rfl⟩
  ·have hne:¬s0.b=(n:Int):=by omega
   have hSn2:jAe S n=jAe (S.take k) n++[]++jAe (S.drop (k+2)) n:=by
    conv=>lhs;rw[hs]
    rw[jFd,jFd,show [s0,s1]=[s0]++[s1] from rfl,jFd,jIT,jIT,if_neg hne,if_neg (by rw[←hb];exact hne)]
    rfl
   rw[hSn,if_neg hne,←hSn2,hP n hn]
   exact⟨_,hPl n hn,hCn n hn h6,(jVf h6 (hCn n hn h6)).1⟩
end Go.Proofs.YtldapapdolkiaaaGreatDoor
namespace Go.Proofs.YtldapapdolkiaaaGreatDoor
set_option maxHeartbeats 64000000
open Go Go.RowKit Go.Lib
set_option maxRecDepth 100000
theorem Cuts.bulk1 {bs:List Bk}{S:List Sg}(h:Cuts bs S)(hf:FewR S){k:Nat}(hk:k<S.length):bulk (S.getD k jCf).l≤100000:=by
 have hm:=jWl hk
 obtain⟨g1,_,_⟩:=h.1 _ hm
 obtain⟨i,hi⟩:∃i:Nat,(S.getD k jCf).b=(i:Int):=⟨(S.getD k jCf).b.toNat,by omega⟩
 have hp:(S.getD k jCf).l ∈ jAe S i:=List.mem_map.2 ⟨_,List.mem_filter.2 ⟨hm,by simpa using hi⟩,rfl⟩
 obtain⟨j,hj,e⟩:=List.getElem_of_mem hp
 have:=(hf.2 i).2.2 j hj
 rw[List.getD_eq_getElem?_getD,List.getElem?_eq_getElem hj]at this
 rw[←e]
 exact this
theorem qBl {l0 l1:List Pc}(h0:bulk l0≤100000)(h1:bulk l1≤100000):jCT [l0,l1]≤8000000∧∀i,i < [l0,l1].length→bulk (([l0,l1]:List (List Pc)).getD i [])≤100000:=by
 refine⟨by simp[jCT];omega,fun i hi=>?_⟩
 match i,hi with
 | 0,_=>exact h0
 | 1,_=>exact h1
theorem qBY {w:World}{v0 v1:Value}{l0 l1:List Pc}(h0:jBe w v0 l0)(h1:jBe w v1 l1):jDA (w.alloc (.cells #[v0,v1] 39)) (.slice (some ⟨w.heap.size,0,none⟩) 2 2) [l0,l1]:=by
 have hc:=jBV w v0 v1 39
 have hb:Below w.heap.size w (w.alloc (.cells #[v0,v1] 39)):=jAb _
 refine⟨[v0,v1],rfl,⟨_,2,rfl,Nat.le_refl _,by unfold maxLen;omega,fun _=>⟨_,rfl,by simp,fun i j hi hj=>?_⟩⟩,fun i hi=>?_⟩
 ·obtain rfl:j=0:=by omega
  match i,hi with
  | 0,_=>exact hc 0 v0 rfl
  | 1,_=>exact hc 1 v1 rfl
 ·match i,hi with
  | 0,_=>exact h0.step hb
  | 1,_=>exact h1.step hb
theorem jIq:∀ {A B:List Sg} {ua ub:List Value},ua.length=A.length→cells2g (A++B) (ua++ub)=cells2g A ua++cells2g B ub
 | [],_,[],_,_=>rfl
 | a :: A,B,u :: ua,ub,h=>by
   have:=jIq (A:=A) (B:=B) (ua:=ua) (ub:=ub) (by simpa using h)
   simp only[List.cons_append,cells2g,this]
theorem jLF:∀ {bs:List Sg} {us:List Value},(∀u ∈ us,∃ao n c,u=Value.slice ao n c)→∀x ∈ cells2g bs us,x.oneCell'=true
 | [],_,_,x,h=>by cases h
 | _ :: _,[],_,x,h=>by cases h
 | b :: bs,u :: us,hu,x,h=>by
   simp only[cells2g,List.mem_cons]at h
   rcases h with rfl | rfl | h
   ·rfl
   ·obtain⟨ao,n,c,rfl⟩:=hu _ List.mem_cons_self
    rfl
   ·exact jLF (fun y hy=>hu y (List.mem_cons_of_mem _ hy)) x h
theorem qB2 (A:Addr)(a b:Nat)(ha:0<a):(A.add a).add b=A.add (a+b):=by
 unfold Addr.add
 by_cases hb:b=0
 ·subst hb;simp
 ·have h1:¬a=0:=by omega
  have h2:¬a+b=0:=by omega
  simp[h1,hb,Nat.add_assoc]
theorem qAq {w:World}{A:Addr}{S:List Sg}{us:List Value}(hul:us.length=S.length)(hc:∀i j,i<S.length→j<2→w.cell? (A.add (i*2+j))=some (sgF S us i j))(a n:Nat)(hn:a+n≤S.length) :
 ∀j u,(cells2g ((S.drop a).take n) ((us.drop a).take n))[j]? = some u→w.cell? (A.add (a*2+j))=some u:=by
 intro j u hj
 have jBi:((us.drop a).take n).length=((S.drop a).take n).length:=by simp[hul]
 have hl:=(List.getElem?_eq_some_iff.1 hj).1
 rw[jHC jBi,List.length_take,List.length_drop]at hl
 have h1:=jIN ((S.drop a).take n) ((us.drop a).take n) (j / 2) (j % 2) jBi (by rw[List.length_take,List.length_drop];omega) (by omega)
 rw[show j / 2*2+j % 2=j by omega,hj]at h1
 have h2:=hc (a+j / 2) (j % 2) (by omega) (by omega)
 rw[show (a+j / 2)*2+j % 2=a*2+j by omega]at h2
 rw[h2,h1]
 have e1:((S.drop a).take n).getD (j / 2) jCf=S.getD (a+j / 2) jCf:=by
  rw[List.getD_eq_getElem?_getD,List.getD_eq_getElem?_getD,List.getElem?_take_of_lt (by omega),List.getElem?_drop]
 have e2:((us.drop a).take n).getD (j / 2) jJN=us.getD (a+j / 2) jJN:=by
  rw[List.getD_eq_getElem?_getD,List.getD_eq_getElem?_getD,List.getElem?_take_of_lt (by omega),List.getElem?_drop]
 unfold sgF
 rw[e1,e2]
theorem qB0 {w:World}{B:Nat}{v:Value}{S:List Sg}{us:List Value}(hul:us.length=S.length)(h:w.ownsRow B 41 2 v S.length (cells2g S us))(hp:∀i,i<S.length→jBe w (us.getD i jJN) (S.getD i jCf).l):jEy w v S:=by
 refine⟨us,hul,?_,hp⟩
 have hc:=h
 rcases h.2 with ⟨rfl,h0⟩ | ⟨g,cap,cur,rfl,hg,hh,hn,hm,_⟩
 ·exact⟨none,0,by rw[h0],by omega,by unfold maxLen;omega,fun h=>by omega⟩
 ·refine⟨some ⟨g,0,none⟩,cap,rfl,hn,hm,fun _=>⟨_,rfl,lt_of_block hh,fun i j hi hj=>?_⟩⟩
  exact World.ownsRow.cells hc (g:=g) rfl _ _ (jIN S us i j hul hi hj)
theorem qA9 {w:World}{B:Nat}{v u:Value}{S:List Sg}{us:List Value}{k:Nat}{g:List Pc}(hul:us.length=S.length)(hk:k+1<S.length)
 (h:w.ownsRow B 41 2 v (k+1+(S.length-(k+2))) (cells2g (S.take k) (us.take k)++[.int .i64 (S.getD k jCf).b,u]++cells2g (S.drop (k+2)) (us.drop (k+2))))
 (hp:∀i,i<S.length→jBe w (us.getD i jJN) (S.getD i jCf).l) (hu:jBe w u g):jEy w v (jFP S k g):=by
 have hl:(jFP S k g).length=k+1+(S.length-(k+2)):=by unfold jFP;simp;omega
 have hc:cells2g (jFP S k g) (us.take k++[u]++us.drop (k+2))=cells2g (S.take k) (us.take k)++[.int .i64 (S.getD k jCf).b,u]++cells2g (S.drop (k+2)) (us.drop (k+2)):=by
  unfold jFP
  rw[jIq (by simp[hul]),jIq (by simp[hul])]
  rfl
 refine qB0 (us:=us.take k++[u]++us.drop (k+2)) (by rw[hl];simp[hul];omega) (by rw[hl,hc];exact h) fun i hi=>?_
 rw[hl]at hi
 have hkl:(us.take k).length=k:=by rw[List.length_take];omega
 have hkl2:(S.take k).length=k:=by rw[List.length_take];omega
 unfold jFP
 rcases Nat.lt_trichotomy i k with h1 | h1 | h1
 ·rw[List.getD_eq_getElem?_getD,List.getD_eq_getElem?_getD,List.append_assoc,List.append_assoc,List.getElem?_append_left (by omega),List.getElem?_append_left (by omega),List.getElem?_take_of_lt h1,List.getElem?_take_of_lt h1,←List.getD_eq_getElem?_getD,←List.getD_eq_getElem?_getD]
  exact hp i (by omega)
 ·subst h1
  have e1:(us.take i++[u]++us.drop (i+2)).getD i jJN=u:=by rw[List.getD_eq_getElem?_getD,List.getElem?_append_left (by simp;omega),List.getElem?_append_right (by omega),hkl];simp
  have e2:(S.take i++[(⟨(S.getD i jCf).b,g⟩:Sg)]++S.drop (i+2)).getD i jCf=⟨(S.getD i jCf).b,g⟩:=by rw[List.getD_eq_getElem?_getD,List.getElem?_append_left (by simp;omega),List.getElem?_append_right (by omega),hkl2];simp
  rw[e1,e2]
  exact hu
 ·rw[List.getD_eq_getElem?_getD,List.getD_eq_getElem?_getD,List.getElem?_append_right (by simp;omega),List.getElem?_append_right (by simp;omega)]
  simp only[List.length_append,List.length_singleton,hkl,hkl2]
  rw[List.getElem?_drop,List.getElem?_drop,show k+2+(i-(k+1))=i+1 by omega,←List.getD_eq_getElem?_getD,←List.getD_eq_getElem?_getD]
  exact hp (i+1) (by omega)
end Go.Proofs.YtldapapdolkiaaaGreatDoor
namespace Go.Proofs.YtldapapdolkiaaaGreatDoor
set_option maxHeartbeats 64000000
open Go Go.RowKit Go.Lib
set_option maxRecDepth 100000
theorem jWh (bs:List Bk)(R:List Rl)(z:Int)(v vR:Value)(w:World)(hv:jDr w v bs)(hr:jB5 w vR R)(hB:Came bs)
 (hRz:∀x ∈ R,x.b.size≤140737488355328∧x.a.size≤140737488355328) (hRl:R.length≤140737488355328) (hT:Tabs w) (hC:jGn jH4 w)
 (hR:∀w',Below w.heap.size w w'→Calls Tryz.prog 10 #[] w' fun e w''=>e=.returned (.bool true)∧Below w'.heap.size w' w'') :
 Calls Tryz.prog 4 #[.agg #[v],vR,.int .i64 z] w fun e w'=>e=.returned (.bool true)∧Below w.heap.size w w':=by
 have ag:=Tryz.isAgg24
 have zg:=Tryz.sizeOf24
 have ag2:=Tryz.isAgg44
 have zg2:=Tryz.sizeOf44
 have ag3:=Tryz.isAgg41
 have zg3:=Tryz.sizeOf41
 have hg:5≤w.heap.size:=hT.2.2
 obtain⟨i0,hi,hz0,hz1,hz2⟩:=info_parts jS0
 have hsz:∀b ∈ bs,∀x ∈ b.l,x.s.size≤maxLen:=fun b hb x hx=>by have:=(hB.sizes b hb).1 x hx;unfold maxLen;omega
 have HV:=hid hv
 obtain⟨us0,_,⟨p,cap,rfl,hlc,hcm,qCk⟩,_⟩:=id hv
 have HR0:=hid qCk
 unfold maxLen at hcm
 clear qCk
 obtain⟨pR,cR0,rfl,_⟩:=id hr
 have HB0:Hid (Below (w.heap.size+1) (w.alloc (.cells #[.slice p bs.length cap] 24)) (w.alloc (.cells #[.slice p bs.length cap] 24))):=Below.refl _ _
 have cV:=fun wr (h:Below (w.heap.size+1) (w.alloc (.cells #[.slice p bs.length cap] 24)) wr)=>jVd bs _ wr (hv.step (jAm h).2) hB.sizes hB.len
 have cS:=fun wr (h:Below (w.heap.size+1) (w.alloc (.cells #[.slice p bs.length cap] 24)) wr)=>jQ8 R _ wr (hr.step (jAm h).2) hRz hRl
 have cR:=fun wr (h:Below (w.heap.size+1) (w.alloc (.cells #[.slice p bs.length cap] 24)) wr)=>hR wr (jAm h).2
 by_cases h1:600<jKZ R (min 100 R.length)
 ·have HS:=hid (show decide (600<jKZ R (min 100 R.length))=true by simpa using h1)
  clear hv hr hB hRz hRl hT hC hR hsz
  go_enter Tryz.func4,Tryz.ntmps4
  go_wp2_with (first
   | (go_at_call 7;(with_reducible refine (cV _ HB0.out).mono ?_);rintro e w2 ⟨⟨b,rfl,hb⟩,hb2⟩;have HB2:=hid (jAC HB0.out hb2);have b2:=(jAm HB2.out).1;have HSm:=hid hb;clear hb2 hb;cases b)
   | (go_at_call 8;(with_reducible refine (cS _ HB2.out).mono ?_);rintro e w3 ⟨he,hb3⟩;unfold jT9 at he;rw[HS.out]at he;subst he;have HB3:=hid (jAC HB2.out hb3);have b3:=(jAm HB3.out).1;clear hb3)
   | (go_at_call 10;(with_reducible refine (cR _ HB3.out).mono ?_);rintro e w99 ⟨rfl,jQj⟩;have jY8:=hid (jAC HB3.out jQj);clear jQj)
   | (go_at_call 10;(with_reducible refine (cR _ HB2.out).mono ?_);rintro e w99 ⟨rfl,jQj⟩;have jY8:=hid (jAC HB2.out jQj);clear jQj))
  all_goals
   go_ret
   exact⟨rfl,(jAm jY8.out).2⟩
 ·have HS:=hid (show decide (600<jKZ R (min 100 R.length))=false by simpa using h1)
  have hZ:SzR R:=jXi (by omega)
  have cA:=fun wr (h:Below (w.heap.size+1) (w.alloc (.cells #[.slice p bs.length cap] 24)) wr) (hs:Small bs)=>jLK bs R _ _ wr (hv.step (jAm h).2) (hr.step (jAm h).2) hZ hB.kinds hsz hs.bulk (hT.step (jAm h).2) (hC.below (jAm h).2 (by omega))
  unfold jDS at cA
  by_cases hE:sgE bs R=0
  ·have jNz:=(jKM (jPp hE).1).1
   have HCu:=hid (fun (hs:Small bs)=>jUU hE (hs.bulk jNz))
   have jBi:=fun (hs:Small bs)=>jIj (R:=R) (hs.bulk jNz) bs.length (Nat.le_refl _)
   rw[← (jPp hE).2.2]at jBi
   have HLn:=hid (fun (hs:Small bs)=>(by have:=jBi hs;omega:(sgL bs R).length≤1000000))
   have HBk:=hid (fun (hs:Small bs) k hk=>(jUU hE (hs.bulk jNz)).bulk1 ((jUU hE (hs.bulk jNz)).few (hs.bulk jNz) (by have:=jBi hs;omega)) (k:=k) hk)
   have HMg:=hid (fun (hs:Small bs) k hk hb=>glued2 hE (hs.bulk jNz) (k:=k) hk hb)
   have HHas:=hid (fun i hi=>qBy hE (i:=i) hi)
   have h0:=(jPp hE).1
   have cX:=fun (S:List Sg) (u:Value) wr (h:Below (w.heap.size+1) (w.alloc (.cells #[.slice p bs.length cap] 24)) wr) (hs:Small bs) (hS:jEy wr u S) (hc:Cuts bs S) (hl:S.length≤1000000)=>(show Calls Tryz.prog 14 #[.agg #[.slice p bs.length cap],u] wr fun e w'=>(∃r,e=.returned (.tuple #[.agg #[r],.int .u8 0])∧jLG 0 r bs w')∧Below wr.heap.size wr w' by
    have h:=jYj bs S _ u wr (hv.step (jAm h).2) hS hB.kinds hsz hs.bulk (hc.few (hs.bulk jNz) hl) (hT.step (jAm h).2)
    unfold jJ6 at h
    rwa [(hc.restores h0).1,(hc.restores h0).2]at h)
   have cZ:=fun (a:Value) wr (ha:jDr wr a bs) (h:Below (w.heap.size+1) (w.alloc (.cells #[.slice p bs.length cap] 24)) wr)=>jOH bs bs a _ wr ha (HV.out.step (jAm h).2)
   rw[jTW]at cZ
   have cGl:=fun (ps:List (List Pc)) (u:Value) wr (h:Below (w.heap.size+1) (w.alloc (.cells #[.slice p bs.length cap] 24)) wr) (hp:jDA wr u ps) (h1:ps.length≤3000) (h2:jCT ps≤8000000) (h3:∀i,i<ps.length→bulk (ps.getD i [])≤100000)=>jUK ps u wr hp h1 h2 h3 (hT.step (jAm h).2)
   rw[hE]at cA
   clear hv hr hB hRz hRl hT hC hR hsz hE h0 jBi
   generalize sgL bs R=S at *
   go_enter Tryz.func4,Tryz.ntmps4
   go_wp2_with (first
    | (go_at_call 7;(with_reducible refine (cV _ HB0.out).mono ?_);rintro e w2 ⟨⟨b,rfl,hb⟩,hb2⟩;have HB2:=hid (jAC HB0.out hb2);have b2:=(jAm HB2.out).1;have HSm:=hid hb;clear hb2 hb;cases b)
    | (go_at_call 8;(with_reducible refine (cS _ HB2.out).mono ?_);rintro e w3 ⟨he,hb3⟩;unfold jT9 at he;rw[HS.out]at he;subst he;have HB3:=hid (jAC HB2.out hb3);have b3:=(jAm HB3.out).1;clear hb3)
    | (go_at_call 11;(with_reducible refine (cA _ HB3.out (HSm.out (by first | exact rfl | exact trivial))).mono ?_);rintro e w5 ⟨⟨r5,rfl,hr5⟩,hb5⟩;obtain⟨us5,qBA,⟨p5,c5,rfl,hle5,hcm5,qBB⟩,qCl⟩:=id hr5;have HR5:=hid hr5;have qCx:=hid qBB;have HUP:=hid qCl;have HUL:=hid qBA;have HB5:=hid (jAC HB3.out hb5);have b5:=(jAm HB5.out).1;clear hb5 hr5 qBB qCl qBA)
    | (go_at_call 14;(with_reducible refine (cX S _ _ HB5.out (HSm.out (by first | exact rfl | exact trivial)) HR5.out (HCu.out (HSm.out (by first | exact rfl | exact trivial))) (HLn.out (HSm.out (by first | exact rfl | exact trivial)))).mono ?_);rintro e w8 ⟨⟨r8,rfl,hr8⟩,hb8⟩;obtain⟨p8,c8,rfl⟩:=hr8.form;have HR8:=hid hr8;have HB8:=hid (jAC HB5.out hb8);have HQ8:=hid (HR5.out.step hb8);have hx9:=jAb (w:=w8) (.cells #[.slice p8 bs.length c8] 24);have HB9:=hid (jAC HB8.out hx9);have b9:=(jAm HB9.out).1;have HR9:=hid (HR8.out.step hx9);have HL9:=hid (jAa hb8 hx9);have HD9:=hid (jGg w8 (.slice p8 bs.length c8) 24);have HK9:=hid (heap_alloc_new w8 (.cells #[.slice p8 bs.length c8] 24));clear hb8 hr8 hx9)
    | (go_at_call 16;(with_reducible refine (cZ _ _ HR9.out.at HB9.out).mono ?_);rintro e w10 ⟨rfl,qCm⟩;have qCb:=hid (jAC HB9.out qCm);have b10:=(jAm qCb.out).1;have qCu:=hid (jAa HL9.out qCm);have HD10:=hid (HD9.out.step qCm);have HK10:=hid (jF3 qCm HK9.out);clear qCm)
    | (go_at_call 10;(with_reducible refine (cR _ HB2.out).mono ?_);rintro e w99 ⟨rfl,jQj⟩;have jY8:=hid (jAC HB2.out jQj);clear jQj))
   all_goals try (go_ret;exact⟨rfl,(jAm jY8.out).2⟩)
   have hW:=(jAm qCb.out).2
   have HW:=hid hW
   have x10:=HD10.out.1
   have HSM:=hid (HSm.out (by first | exact rfl | exact trivial))
   have hSL:S.length≤1000000:=HLn.out HSM.out
   clear hW
   go_loop [11] (fun i=>∃k:Nat,k≤bs.length∧i=.int .i64 k) (fun i=>bs.length-(RowKit.intOf i).toNat)
   case atStart=>exact⟨0,Nat.zero_le _,rfl⟩
   case round =>
    obtain⟨k,hk,rfl⟩:=hrel
    by_cases hlt:k<bs.length
    ·have hkI:(k:Int)<(bs.length:Int):=by omega
     have hk0:(0:Int)≤(k:Int):=by omega
     obtain⟨A,rfl,hA,jAj⟩:=HR0.out (by omega)
     obtain⟨y0,_⟩:=jBv hA jAj hlt HW.out
     have HH:=hid (HHas.out k hlt)
     clear jAj
     generalize (bs.getD k jBp).k=kk at *
     go_wp2
     go_loop [12,13] (fun h i=>∃j:Nat,j≤S.length∧i=.int .i64 j∧h=.bool (decide (jAe (S.take j) k≠[]))) (fun _ i=>S.length-(RowKit.intOf i).toNat)
     case atStart=>exact⟨0,Nat.zero_le _,rfl,by simp[jAe]⟩
     case round =>
      obtain⟨j,hj,rfl,rfl⟩:=hrel
      by_cases hjl:j<S.length
      ·have hjI:(j:Int)<(S.length:Int):=by omega
       have hj0:(0:Int)≤(j:Int):=by omega
       obtain⟨A1,rfl,hA1,jEG⟩:=qCx.out (by omega)
       obtain⟨x0,x1⟩:=jCS hA1 jEG hjl qCu.out
       have HPS:=hid (jKo hjl k)
       clear jEG x1
       generalize hdd:decide (jAe (S.take j) k≠[])=dd at *
       have HDD:=hid hdd
       generalize S.getD j jCf=x at *
       obtain⟨xb,xl⟩:=x
       simp only at x0
       clear hdd
       cases dd
       ·by_cases hxb:xb=(k:Int)
        ·have HQ:Hid (decide (jAe (S.take (j+1)) k≠[])=true):=by
          show decide _=true
          rw[HPS.out,if_pos hxb];simp
         subst hxb
         clear HPS HDD
         go_wp2
         go_round
         case rel=>exact⟨j+1,hjl,by go_num,by rw[HQ.out];try simp⟩
         case measure=>simp[RowKit.intOf] <;> omega
        ·have HQ:Hid (decide (jAe (S.take (j+1)) k≠[])=false):=by
          show decide _=false
          rw[HPS.out,if_neg hxb];exact HDD.out
         have hxb2:(xb == (k:Int))=false:=by simpa using hxb
         clear HPS HDD hxb
         go_wp2
         go_round
         case rel=>exact⟨j+1,hjl,by go_num,by rw[HQ.out];try simp[hxb2]⟩
         case measure=>simp[RowKit.intOf] <;> omega
       ·have HQ:Hid (decide (jAe (S.take (j+1)) k≠[])=true):=by
         show decide _=true
         rw[HPS.out]
         split
         ·simp
         ·exact HDD.out
        clear HPS HDD
        go_wp2
        go_round
        case rel=>exact⟨j+1,hjl,by go_num,by rw[HQ.out]⟩
        case measure=>simp[RowKit.intOf] <;> omega
      ·obtain rfl:j=S.length:=by omega
       have hjI:¬(S.length:Int)<(S.length:Int):=by omega
       rw[List.take_length]
       by_cases h6:kk=6
       ·have hd:decide (jAe S k≠[])=false:=decide_eq_false fun h=>HH.out.1 h h6
        rw[hd]
        subst h6
        clear HH hd
        go_wp2
        go_round
        case rel=>exact⟨k+1,hlt,by go_num⟩
        case measure=>simp[RowKit.intOf] <;> omega
       ·have hd:decide (jAe S k≠[])=true:=decide_eq_true (HH.out.2 h6)
        have h6b:(kk == 6)=false:=by simpa using h6
        rw[hd]
        clear HH hd
        go_wp2
        go_round
        case rel=>exact⟨k+1,hlt,by go_num⟩
        case measure=>simp[RowKit.intOf] <;> omega
    ·obtain rfl:k=bs.length:=by omega
     have hkI:¬(bs.length:Int)<(bs.length:Int):=by omega
     by_cases h2:S.length<2
     ·have h2I:(S.length:Int)<2:=by omega
      go_wp2_with (first
       | (go_at_call 10;(with_reducible refine (cR _ qCb.out).mono ?_);rintro e w99 ⟨rfl,jQj⟩;have jY8:=hid (jAC qCb.out jQj);clear jQj))
      go_ret
      exact⟨rfl,(jAm jY8.out).2⟩
     ·have h2I:¬(S.length:Int)<2:=by omega
      obtain⟨n1,hn1⟩:∃n1,n1+1=S.length:=⟨S.length-1,by omega⟩
      have hw1:IntKind.i64.wrap ((S.length:Int)-1)=(n1:Int):=by rw[IntKind.wrap_i64];omega
      have hnz:¬(n1:Int)=0:=by omega
      have hnp:(0:Int)<(n1:Int):=by omega
      obtain⟨t,ht⟩:∃t,z.tmod (n1:Int)=t:=⟨_,rfl⟩
      have ht1:=Int.tmod_lt_of_pos z hnp
      have ht2:=Int.lt_tmod_of_pos z hnp
      rw[ht]at ht1 ht2
      have hw2:IntKind.i64.wrap (t+(S.length:Int))=t+(S.length:Int):=by rw[IntKind.wrap_i64];omega
      obtain⟨s,hs⟩:∃s,t+(n1:Int)=s:=⟨_,rfl⟩
      have hw3:IntKind.i64.wrap (t+(S.length:Int)-1)=s:=by rw[IntKind.wrap_i64];omega
      have hs0:0≤s:=by omega
      obtain⟨k,hk⟩:∃k:Nat,s.tmod (n1:Int)=(k:Int):=⟨(s.tmod (n1:Int)).toNat,by have:=Int.tmod_nonneg (n1:Int) hs0;omega⟩
      have hkl:k<n1:=by have:=Int.tmod_lt_of_pos s hnp;rw[hk]at this;omega
      have hk1:IntKind.i64.wrap ((k:Int)+1)=((k+1:Nat):Int):=by rw[IntKind.wrap_i64];omega
      have hk0:(0:Int)≤(k:Int):=by omega
      have hk2:(k:Int)<(S.length:Int):=by omega
      have hk3:((k+1:Nat):Int)<(S.length:Int):=by omega
      have hk4:(0:Int)≤((k+1:Nat):Int):=by omega
      have hk5:(0:Int)≤(k:Int)+1:=by omega
      have hk6:(k:Int)+1<(S.length:Int):=by omega
      have hk7:(0:Int)≤(k:Int)+1∧(k:Int)+1<(S.length:Int):=by omega
      obtain⟨A1,rfl,hA1,jEG⟩:=qCx.out (by omega)
      have HCW:=hid (fun (wy:World) (h:Below w5.heap.size w5 wy) i j hi hj=>(h.cell (p:=A1.add (i*2+j)) (by rw[add_block];exact hA1)).trans (jEG i j hi hj))
      have HC0:=hid (fun (wx:World) h=>jCS (wr:=wx) hA1 jEG (show k<S.length by omega) h)
      have HC1:=hid (fun (wx:World) h=>jCS (wr:=wx) hA1 jEG (show k+1<S.length by omega) h)
      obtain⟨y0,y1⟩:=HC0.out _ qCu.out
      obtain⟨u0,u1⟩:=HC1.out _ qCu.out
      clear hs ht1 ht2 hs0 hnp
      by_cases hbb:(S.getD k jCf).b=(S.getD (k+1) jCf).b
      ·have HM:=hid (HMg.out HSM.out k (by omega) hbb)
       rw[←hbb]at u0
       have hpk:=HUP.out k (by omega)
       have qCv:=HUP.out (k+1) (by omega)
       have qCh:∀y ∈ us5,∃ao n c,y=Value.slice ao n c:=fun y hy=>by
        obtain⟨i,hi,rfl⟩:=List.getElem_of_mem hy
        obtain⟨ao,ca,e⟩:=jBT (HUP.out i (by have:=HUL.out;omega))
        rw[List.getD_eq_getElem?_getD,List.getElem?_eq_getElem hi]at e
        exact⟨_,_,_,e⟩
       have HOne:=hid qCh
       obtain⟨q0,e0,f0⟩:=jBT hpk
       obtain⟨q1,e1,f1⟩:=jBT qCv
       rw[f0]at y1 hpk HC0
       rw[f1]at u1 qCv HC1
       have HP0:=hid hpk
       have HP1:=hid qCv
       clear f0 f1 hpk qCv qCh
       have HBB:=hid hbb
       clear hbb
       go_wp2
       go_quiet (fail)
       go_wp2
       obtain⟨wx,hwx⟩:∃wx,wx=w10.drewN nq:=⟨_,rfl⟩
       have hbx:Below w10.heap.size w10 wx:=by rw[hwx];exact jDM w10 nq
       have HBX:=hid (jAC qCb.out hbx)
       have HLX:=hid (jAa qCu.out hbx)
       have HKX:=hid (jF3 hbx HK10.out)
       obtain⟨_,z1⟩:=HC0.out wx HLX.out
       obtain⟨_,t1⟩:=HC1.out wx HLX.out
       rw[←hwx]
       clear hwx hbx y0 y1 u0 u1 x10
       have h2s:=qBl (HBk.out HSM.out k (by omega)) (HBk.out HSM.out (k+1) (by omega))
       generalize hL0:(S.getD k jCf).l=l0 at *
       generalize hL1:(S.getD (k+1) jCf).l=l1 at *
       clear hL0 hL1
       have HBA:=hid (HBX.out.alloc (jRm HBX.out) (.cells #[.slice q0 l0.length e0,.slice q1 l1.length e1] 39))
       have HLA:=hid (jAa HLX.out (jAb (w:=wx) (.cells #[.slice q0 l0.length e0,.slice q1 l1.length e1] 39)))
       have HKA:=hid (jF3 (jAb (w:=wx) (.cells #[.slice q0 l0.length e0,.slice q1 l1.length e1] 39)) HKX.out)
       have cG0:=cGl [l0,l1] (.slice (some ⟨wx.heap.size,0,none⟩) 2 2) ((wx.alloc (.cells #[.slice q0 l0.length e0,.slice q1 l1.length e1] 39)).drew) HBA.out.drew ((qBY (w:=wx) (HP0.out.step HLX.out) (HP1.out.step HLX.out)).step (jDM _ 1)) (by simp) h2s.1 h2s.2
       rw[HM.out.1]at cG0
       refine jCM (fun w'=>w'.cell? { block:=(A1.add (k*2)).block,off:=(A1.add (k*2)).off+1 }=some (.slice q0 l0.length e0)∧w'.cell? { block:=(A1.add ((k+1)*2)).block,off:=(A1.add ((k+1)*2)).off+1 }=some (.slice q1 l1.length e1)) [4,10,11] (by kernel_rfl) ⟨z1,t1⟩ (fun hHeld=>?_)
       refine jAK (i:=0) (v:=?va1x0) rfl (by kernel_rfl) (by kernel_rfl) (by kernel_rfl) (by kernel_rfl) (fun _ _ _ h=>h) (Or.inl ⟨by rfl,?hy1x0⟩) (fun _=>hHeld) ?re1x0
       case hy1x0=>(intro w9 _;go_simp;try with_reducible rfl)
       refine jAK (i:=1) (v:=?va2x1) rfl (by kernel_rfl) (by kernel_rfl) (by kernel_rfl) (by kernel_rfl) (fun _ _ _ h=>h) (Or.inl ⟨by rfl,?hy2x1⟩) (fun _=>hHeld) ?re2x1
       case hy2x1=>(intro w9 _;go_simp;try with_reducible rfl)
       refine jAK (i:=2) (v:=?va3x2) rfl (by kernel_rfl) (by kernel_rfl) (by kernel_rfl) (by kernel_rfl) (fun _ _ _ h=>h) (Or.inl ⟨by rfl,?hy3x2⟩) (fun _=>hHeld) ?re3x2
       case hy3x2=>(intro w9 _;go_simp;try with_reducible rfl)
       refine jAK (i:=3) (v:=?va4x3) rfl (by kernel_rfl) (by kernel_rfl) (by kernel_rfl) (by kernel_rfl) (fun _ _ _ h=>h) (Or.inl ⟨by rfl,?hy4x3⟩) (fun _=>hHeld) ?re4x3
       case hy4x3=>(intro w9 _;go_simp;try with_reducible rfl)
       refine jBn (i:=4) 11 (v:=?va5x4) rfl (by kernel_rfl) (by kernel_rfl) (by kernel_rfl) (by kernel_rfl) (fun _ _ _ h=>h) (Or.inl ⟨by rfl,?hy5x4⟩) hHeld ?re5x4
       case hy5x4=>(intro w9 hSw;(try dsimp only at hSw);go_simp;try with_reducible rfl)
       refine jAK (i:=5) (v:=?va6x5) rfl (by kernel_rfl) (by kernel_rfl) (by kernel_rfl) (by kernel_rfl) (fun _ _ _ h=>h) (Or.inl ⟨by rfl,?hy6x5⟩) (fun _=>hHeld) ?re6x5
       case hy6x5=>(intro w9 _;go_simp;try with_reducible rfl)
       refine jAK (i:=6) (v:=?va7x6) rfl (by kernel_rfl) (by kernel_rfl) (by kernel_rfl) (by kernel_rfl) (fun _ _ _ h=>h) (Or.inl ⟨by rfl,?hy7x6⟩) (fun _=>hHeld) ?re7x6
       case hy7x6=>(intro w9 _;go_simp;try with_reducible rfl)
       refine jAK (i:=7) (v:=?va8x7) rfl (by kernel_rfl) (by kernel_rfl) (by kernel_rfl) (by kernel_rfl) (fun _ _ _ h=>h) (Or.inl ⟨by rfl,?hy8x7⟩) (fun _=>hHeld) ?re8x7
       case hy8x7=>(intro w9 _;go_simp;try with_reducible rfl)
       refine jAK (i:=8) (v:=?va9x8) rfl (by kernel_rfl) (by kernel_rfl) (by kernel_rfl) (by kernel_rfl) (fun _ _ _ h=>h) (Or.inl ⟨by rfl,?hy9x8⟩) (fun _=>hHeld) ?re9x8
       case hy9x8=>(intro w9 _;go_simp;try with_reducible rfl)
       refine jAK (i:=9) (v:=?va10x9) rfl (by kernel_rfl) (by kernel_rfl) (by kernel_rfl) (by kernel_rfl) (fun _ _ _ h=>h) (Or.inl ⟨by rfl,?hy10x9⟩) (fun _=>hHeld) ?re10x9
       case hy10x9=>(intro w9 _;go_simp;try with_reducible rfl)
       refine jBn (i:=10) 11 (v:=?va11x10) rfl (by kernel_rfl) (by kernel_rfl) (by kernel_rfl) (by kernel_rfl) (fun _ _ _ h=>h) (Or.inl ⟨by rfl,?hy11x10⟩) hHeld ?re11x10
       case hy11x10=>(intro w9 hSw;(try dsimp only at hSw);go_simp;try with_reducible rfl)
       refine jAY (rs:=[11]) (by kernel_rfl) (by simp) ?_
       refine jAF.cons rfl (fun K hK=>?_) jAF.nil
       go_simp
       refine hK.out _ _ (fun h=>Bool.noConfusion (h.symm.trans (by kernel_rfl:_=false))) ?_
       clear hK K hHeld
       refine jAY (rs:=[12]) (by kernel_rfl) (by simp) ?_
       refine jAF.cons rfl (fun K hK=>?_) jAF.nil
       go_simp
       (go_at_call 17;(with_reducible refine cG0.mono ?_);rintro e w12 ⟨⟨u12,rfl,qCy⟩,qCi⟩;obtain⟨a12,d12,rfl⟩:=qCy.form;have HU12:=hid qCy;have HB12:=hid (jAC HBA.out.drew qCi);have qBW:=hid (jAa HLA.out.drew qCi);have HK12:=hid (jF3 qCi HKA.out);clear qCi qCy)
       refine hK.out _ _ (fun h=>Bool.noConfusion (h.symm.trans (by kernel_rfl:_=false))) ?_
       clear hK K
       refine jAY (rs:=[13]) (by kernel_rfl) (by simp) ?_
       refine jAF.cons rfl (fun K hK=>?_) jAF.nil
       go_simp
       refine hK.out _ _ (fun h=>Bool.noConfusion (h.symm.trans (by kernel_rfl:_=false))) ?_
       clear hK K
       refine jAK (i:=14) (v:=?va12x14) rfl (by kernel_rfl) (by kernel_rfl) (by kernel_rfl) (by kernel_rfl) (fun _ _ _ h=>h) (Or.inl ⟨by rfl,?hy12x14⟩) (fun h=>Bool.noConfusion (h.symm.trans (by kernel_rfl:_=false))) ?re12x14
       case hy12x14=>(intro w9 _;go_simp;try with_reducible rfl)
       refine jAK (i:=15) (v:=?va13x15) rfl (by kernel_rfl) (by kernel_rfl) (by kernel_rfl) (by kernel_rfl) (fun _ _ _ h=>h) (Or.inl ⟨by rfl,?hy13x15⟩) (fun h=>Bool.noConfusion (h.symm.trans (by kernel_rfl:_=false))) ?re13x15
       case hy13x15=>(intro w9 _;go_simp;try with_reducible rfl)
       refine jAY (rs:=[16]) (by kernel_rfl) (by simp) ?_
       refine jAF.cons rfl (fun K hK=>?_) jAF.nil
       go_simp
       refine hK.out _ _ (fun h=>Bool.noConfusion (h.symm.trans (by kernel_rfl:_=false))) ?_
       clear hK K
       refine jAY (rs:=[17]) (by kernel_rfl) (by simp) ?_
       refine jAF.cons rfl (fun K hK=>?_) jAF.nil
       go_simp
       refine hK.out _ _ (fun h=>Bool.noConfusion (h.symm.trans (by kernel_rfl:_=false))) ?_
       clear hK K
       refine jEw (by kernel_rfl) ?_ _
       have HE0:=hid (World.ownsRow_lit (base:=w12.heap.size) (size:=2) (e:=41) w12 #[] 0 (Nat.le_refl _) (by unfold maxLen;omega) rfl)
       have qBA:=HUL.out
       have hlk:(cells2g (S.take k) (us5.take k)).length=k*2:=by rw[jHC (by simp[qBA])];simp;omega
       have hlk2:(cells2g (S.drop (k+2)) (us5.drop (k+2))).length=(S.length-(k+2))*2:=by rw[jHC (by simp[qBA])];simp
       have qCn:Hid (∀wy,Below w5.heap.size w5 wy→∀j u,(cells2g (S.take k) (us5.take k))[j]? = some u→wy.cell? (A1.add j)=some u):=fun wy h=>by
        have h2:=qAq (w:=wy) (A:=A1) qBA (fun i j hi hj=>HCW.out wy h i j hi hj) 0 k (by omega)
        simpa using h2
       have qCz:Hid (∀wy,Below w5.heap.size w5 wy→∀j u,(cells2g (S.drop (k+2)) (us5.drop (k+2)))[j]? = some u→wy.cell? ((A1.add ((k+2)*2)).add j)=some u):=fun wy h j u hj=>by
        have h2:=qAq (w:=wy) (A:=A1) qBA (fun i j hi hj=>HCW.out wy h i j hi hj) (k+2) (S.length-(k+2)) (by omega)
        rw[List.take_of_length_le (by simp),List.take_of_length_le (by simp;omega)]at h2
        rw[qB2 _ _ _ (by omega)]
        exact h2 j u hj
       have H1a:Hid (∀y ∈ cells2g (S.take k) (us5.take k),y.oneCell'=true):=jLF fun y hy=>HOne.out y (List.mem_of_mem_take hy)
       have H1b:Hid (∀y ∈ cells2g (S.drop (k+2)) (us5.drop (k+2)),y.oneCell'=true):=jLF fun y hy=>HOne.out y (List.mem_of_mem_drop hy)
       have HMR:=hid (fun (wy:World) (B:Nat) (v u:Value) (g:List Pc)=>@qA9 wy B v u S us5 k g qBA (by omega))
       generalize hb0:(S.getD k jCf).b=b0 at *
       clear hb0
       generalize jCb [l0,l1]=G at *
       have hz0G:=HU12.out.at
       have HGS:=hid hz0G
       have H1c:Hid (∀y ∈ ([.int .i64 b0,.slice a12 G.length d12]:List Value),y.oneCell'=true):=by intro u hu;simp at hu;rcases hu with rfl | rfl <;> rfl
       have q1:=hid (show 0+k≤maxLen by unfold maxLen;omega)
       have q2:=hid (show (0+k)*32≤140737488355328 by omega)
       have q3:=hid (show k+1≤maxLen by unfold maxLen;omega)
       have q4:=hid (show (k+1)*32≤140737488355328 by omega)
       have q5:=hid (show k+1+(S.length-(k+2))≤maxLen by unfold maxLen;omega)
       have q6:=hid (show (k+1+(S.length-(k+2)))*32≤140737488355328 by omega)
       have hk8:IntKind.i64.wrap ((k:Int)+2)=(k:Int)+2:=by rw[IntKind.wrap_i64];omega
       have hk9:(k:Int)+2≤(S.length:Int):=by omega
       have hk10:(0:Int)≤(k:Int)+2:=by omega
       have hk11:(k:Int)≤(c5:Int):=by omega
       have hk12:(k:Int)≤(S.length:Int):=by omega
       have hk13:(S.length:Int)≤(c5:Int):=by omega
       clear hz0G cG0 cA cV cS cGl
       have hML:(jFP S k G).length≤1000000:=by unfold jFP;simp;omega
       by_cases jUu:c5=k+2
       ·have HNil:Hid (∀ (wy:World) j u,(cells2g (S.drop (k+2)) (us5.drop (k+2)))[j]? = some u→wy.cell? (A1.add j)=some u):=fun wy j u hj=>by
         have h1:=(List.getElem?_eq_some_iff.1 hj).1
         omega
        have HZ0:=hid (show S.length-(k+2)=0 by omega)
        subst jUu
        go_wp2_with (first
         | (at_builtin;refine wpList_append_own _ rfl _ _ 26 rfl w12.heap.size 41 i0 _ 2 32 Tryz.underlying26 hi hz0 hz1 hz2 rfl (by decide) _ _ _ rfl HE0.out A1 k _ (cells2g (S.take k) (us5.take k)) rfl hlk (qCn.out _ (jAa qBW.out (jAb _))) H1a.out q1.out q2.out (jAb (w:=w12) (.cells #[] 41)).size ?_;intro v13 w13 jNi jSF qBC;rw[Nat.zero_add,List.nil_append]at jNi;obtain⟨a13,d13,rfl⟩:=jDI jNi
            have qBD:=(jAb (w:=w12) (.cells #[] 41)).grown jSF (jAb (w:=w12) (.cells #[] 41)).size (fun b e=>(HE0.out.lt b e).1)
            have HB13:=hid qBD
            have qCA:=hid (jAa qBW.out qBD)
            obtain⟨y13,_⟩:=HC0.out w13 qCA.out
            have qCo:=hid (jNi.alloc (.cells #[.int .i64 b0,.slice a12 G.length d12] 41))
            have qCp:=hid (Nat.le_trans qBD.size (jAb (w:=w13) (.cells #[.int .i64 b0,.slice a12 G.length d12] 41)).size)
            have qCB:=hid (jAa qBD (jAb (w:=w13) (.cells #[.int .i64 b0,.slice a12 G.length d12] 41)))
            clear jNi jSF qBC qBD)
         | (at_builtin;refine wpList_append_own _ rfl _ _ 26 rfl w12.heap.size 41 i0 _ 2 32 Tryz.underlying26 hi hz0 hz1 hz2 rfl (by decide) _ _ _ rfl qCo.out ⟨w13.heap.size,0,none⟩ 1 1 [.int .i64 b0,.slice a12 G.length d12] rfl rfl (jBV _ _ _ _) H1c.out q3.out q4.out qCp.out ?_;intro v14 w14 jSZ jS8 qBE;obtain⟨a14,d14,rfl⟩:=jDI jSZ
            have qB5:=qCB.out.grown jS8 qCp.out (fun b e=>(qCo.out.lt b e).1)
            have qB6:=hid qB5
            have HL14:=hid (jAa qBW.out qB5)
            have qCq:=hid jSZ
            clear jSZ jS8 qBE qB5)
         | (at_builtin;refine wpList_append_own _ rfl _ _ 26 rfl w12.heap.size 41 i0 _ 2 32 Tryz.underlying26 hi hz0 hz1 hz2 rfl (by decide) _ _ _ rfl qCq.out A1 (S.length-(k+2)) 0 (cells2g (S.drop (k+2)) (us5.drop (k+2))) rfl hlk2 (HNil.out _) H1b.out q5.out q6.out qB6.out.size ?_;intro v15 w15 jTb jTf qBF;obtain⟨a15,d15,rfl⟩:=jDI jTb
            have qBG:=qB6.out.grown jTf qB6.out.size (fun b e=>(qCq.out.lt b e).1)
            have qB7:=hid (jAC HB12.out qBG)
            have qCC:=hid (jAa qBW.out qBG)
            have qCD:=HMR.out w15 _ _ _ G jTb (fun i hi=>(HUP.out i hi).step qCC.out) (HGS.out.step qBG);rw[HZ0.out,Nat.add_zero]at qCD;have qCE:=hid qCD;clear qCD
            have qCF:=hid (jF3 qBG HK12.out)
            have b15:=(jAm qB7.out).1
            clear jTb jTf qBF qBG)
         | (go_at_call 14;(with_reducible refine (cX (jFP S k G) _ _ qB7.out HSM.out qCE.out HM.out.2 hML).mono ?_);rintro e w17 ⟨⟨r17,rfl,qB8⟩,qB9⟩;obtain⟨p17,c17,rfl⟩:=qB8.form;have qCG:=hid (jAC qB7.out qB9);have qBH:=jF3 qB9 qCF.out;have c17b:=jAT qBH;have f17:=Lib.frozen_of_heap qBH 0
            have qCa:=hid (qCG.out.setCell (p:=⟨w8.heap.size,0,none⟩) (jRm HB8.out) (.slice p17 bs.length c17))
            have xa:(w17.setCell ⟨w8.heap.size,0,none⟩ (.slice p17 bs.length c17)).cell? ⟨w8.heap.size,0,none⟩=some (.slice p17 bs.length c17):=jAT (jBm qBH _)
            have xb:=(jAm qCa.out).1
            have qCH:=hid (show jLG 0 (.slice p17 bs.length c17) bs (w17.setCell ⟨w8.heap.size,0,none⟩ (.slice p17 bs.length c17)) from qB8.kept (jBr _ _ _ _) qBH (by decide) (by decide))
            clear qB8 qB9 qBH)
         | (go_at_call 16;(with_reducible refine (cZ _ _ qCH.out.at qCa.out).mono ?_);rintro e w19 ⟨rfl,qCr⟩;have qCs:=hid (jAC qCa.out qCr);clear qCr)
         | (go_at_call 10;(with_reducible refine (cR _ qCs.out).mono ?_);rintro e w99 ⟨rfl,jQj⟩;have jY8:=hid (jAC qCs.out jQj);clear jQj))
        go_ret
        exact⟨rfl,(jAm jY8.out).2⟩
       ·have jZ1:¬(c5:Int)=(k:Int)+2:=by omega
        have hcap3:c5-(k+2)≠0:=by omega
        go_wp2_with (first
         | (at_builtin;refine wpList_append_own _ rfl _ _ 26 rfl w12.heap.size 41 i0 _ 2 32 Tryz.underlying26 hi hz0 hz1 hz2 rfl (by decide) _ _ _ rfl HE0.out A1 k _ (cells2g (S.take k) (us5.take k)) rfl hlk (qCn.out _ (jAa qBW.out (jAb _))) H1a.out q1.out q2.out (jAb (w:=w12) (.cells #[] 41)).size ?_;intro v13 w13 jNi jSF qBC;rw[Nat.zero_add,List.nil_append]at jNi;obtain⟨a13,d13,rfl⟩:=jDI jNi
            have qBD:=(jAb (w:=w12) (.cells #[] 41)).grown jSF (jAb (w:=w12) (.cells #[] 41)).size (fun b e=>(HE0.out.lt b e).1)
            have HB13:=hid qBD
            have qCA:=hid (jAa qBW.out qBD)
            obtain⟨y13,_⟩:=HC0.out w13 qCA.out
            have qCo:=hid (jNi.alloc (.cells #[.int .i64 b0,.slice a12 G.length d12] 41))
            have qCp:=hid (Nat.le_trans qBD.size (jAb (w:=w13) (.cells #[.int .i64 b0,.slice a12 G.length d12] 41)).size)
            have qCB:=hid (jAa qBD (jAb (w:=w13) (.cells #[.int .i64 b0,.slice a12 G.length d12] 41)))
            clear jNi jSF qBC qBD)
         | (at_builtin;refine wpList_append_own _ rfl _ _ 26 rfl w12.heap.size 41 i0 _ 2 32 Tryz.underlying26 hi hz0 hz1 hz2 rfl (by decide) _ _ _ rfl qCo.out ⟨w13.heap.size,0,none⟩ 1 1 [.int .i64 b0,.slice a12 G.length d12] rfl rfl (jBV _ _ _ _) H1c.out q3.out q4.out qCp.out ?_;intro v14 w14 jSZ jS8 qBE;obtain⟨a14,d14,rfl⟩:=jDI jSZ
            have qB5:=qCB.out.grown jS8 qCp.out (fun b e=>(qCo.out.lt b e).1)
            have qB6:=hid qB5
            have HL14:=hid (jAa qBW.out qB5)
            have qCq:=hid jSZ
            clear jSZ jS8 qBE qB5)
         | (at_builtin;refine wpList_append_own _ rfl _ _ 26 rfl w12.heap.size 41 i0 _ 2 32 Tryz.underlying26 hi hz0 hz1 hz2 rfl (by decide) _ _ _ rfl qCq.out (A1.add ((k+2)*2)) (S.length-(k+2)) (c5-(k+2)) (cells2g (S.drop (k+2)) (us5.drop (k+2))) rfl hlk2 (qCz.out _ HL14.out) H1b.out q5.out q6.out qB6.out.size ?_;intro v15 w15 jTb jTf qBF;obtain⟨a15,d15,rfl⟩:=jDI jTb
            have qBG:=qB6.out.grown jTf qB6.out.size (fun b e=>(qCq.out.lt b e).1)
            have qB7:=hid (jAC HB12.out qBG)
            have qCC:=hid (jAa qBW.out qBG)
            have qCE:=hid (HMR.out w15 _ _ _ G jTb (fun i hi=>(HUP.out i hi).step qCC.out) (HGS.out.step qBG))
            have qCF:=hid (jF3 qBG HK12.out)
            have b15:=(jAm qB7.out).1
            clear jTb jTf qBF qBG)
         | (go_at_call 14;(with_reducible refine (cX (jFP S k G) _ _ qB7.out HSM.out qCE.out HM.out.2 hML).mono ?_);rintro e w17 ⟨⟨r17,rfl,qB8⟩,qB9⟩;obtain⟨p17,c17,rfl⟩:=qB8.form;have qCG:=hid (jAC qB7.out qB9);have qBH:=jF3 qB9 qCF.out;have c17b:=jAT qBH;have f17:=Lib.frozen_of_heap qBH 0
            have qCa:=hid (qCG.out.setCell (p:=⟨w8.heap.size,0,none⟩) (jRm HB8.out) (.slice p17 bs.length c17))
            have xa:(w17.setCell ⟨w8.heap.size,0,none⟩ (.slice p17 bs.length c17)).cell? ⟨w8.heap.size,0,none⟩=some (.slice p17 bs.length c17):=jAT (jBm qBH _)
            have xb:=(jAm qCa.out).1
            have qCH:=hid (show jLG 0 (.slice p17 bs.length c17) bs (w17.setCell ⟨w8.heap.size,0,none⟩ (.slice p17 bs.length c17)) from qB8.kept (jBr _ _ _ _) qBH (by decide) (by decide))
            clear qB8 qB9 qBH)
         | (go_at_call 16;(with_reducible refine (cZ _ _ qCH.out.at qCa.out).mono ?_);rintro e w19 ⟨rfl,qCr⟩;have qCs:=hid (jAC qCa.out qCr);clear qCr)
         | (go_at_call 10;(with_reducible refine (cR _ qCs.out).mono ?_);rintro e w99 ⟨rfl,jQj⟩;have jY8:=hid (jAC qCs.out jQj);clear jQj))
        go_ret
        exact⟨rfl,(jAm jY8.out).2⟩
      ·have hbb2:((S.getD k jCf).b == (S.getD (k+1) jCf).b)=false:=by simpa using hbb
       have hbb3:((S.getD k jCf).b != (S.getD (k+1) jCf).b)=true:=by simpa using hbb
       generalize (S.getD k jCf).b=x0 at *
       generalize (S.getD (k+1) jCf).b=x1 at *
       clear hbb
       go_wp2
       go_quiet (fail)
       have HB11:=hid (jAC qCb.out (jDM w10 nq))
       go_wp2_with (first
        | (go_at_call 10;(with_reducible refine (cR _ HB11.out).mono ?_);rintro e w99 ⟨rfl,jQj⟩;have jY8:=hid (jAC HB11.out jQj);clear jQj))
       go_ret
       exact⟨rfl,(jAm jY8.out).2⟩
  ·have HX9:=hid (show sgL bs R=[] by unfold sgL;rw[if_neg hE])
   rw[HX9.out]at cA
   generalize sgE bs R=Z at *
   have hZ2:(Z == 0)=false:=by simpa using hE
   clear hv hr hB hRz hRl hT hC hR hsz hE
   go_enter Tryz.func4,Tryz.ntmps4
   go_wp2_with (first
    | (go_at_call 7;(with_reducible refine (cV _ HB0.out).mono ?_);rintro e w2 ⟨⟨b,rfl,hb⟩,hb2⟩;have HB2:=hid (jAC HB0.out hb2);have b2:=(jAm HB2.out).1;have HSm:=hid hb;clear hb2 hb;cases b)
    | (go_at_call 8;(with_reducible refine (cS _ HB2.out).mono ?_);rintro e w3 ⟨he,hb3⟩;unfold jT9 at he;rw[HS.out]at he;subst he;have HB3:=hid (jAC HB2.out hb3);have b3:=(jAm HB3.out).1;clear hb3)
    | (go_at_call 11;(with_reducible refine (cA _ HB3.out (HSm.out (by first | exact rfl | exact trivial))).mono ?_);rintro e w5 ⟨⟨r5,rfl,hr5⟩,hb5⟩;obtain⟨us5,qBA,⟨p5,c5,rfl,hle5,hcm5,qBB⟩,qCl⟩:=id hr5;have HR5:=hid hr5;have qCx:=hid qBB;have HUP:=hid qCl;have HUL:=hid qBA;have HB5:=hid (jAC HB3.out hb5);have b5:=(jAm HB5.out).1;clear hb5 hr5 qBB qCl qBA)
    | (go_at_call 10;(with_reducible refine (cR _ HB5.out).mono ?_);rintro e w99 ⟨rfl,jQj⟩;have jY8:=hid (jAC HB5.out jQj);clear jQj)
    | (go_at_call 10;(with_reducible refine (cR _ HB2.out).mono ?_);rintro e w99 ⟨rfl,jQj⟩;have jY8:=hid (jAC HB2.out jQj);clear jQj))
   all_goals
    go_ret
    exact⟨rfl,(jAm jY8.out).2⟩
end Go.Proofs.YtldapapdolkiaaaGreatDoor
