/- Steps and units with places clipped: a round's body gets any element. Breaks, by the program. Breaks, by the program: any rules, any list. -/
import Derived.Test.YtldapapdolkiaaaGreatDoorBrD
namespace Go.Proofs.YtldapapdolkiaaaGreatDoor
set_option maxHeartbeats 64000000
open Go Go.RowKit Go.Lib
set_option maxRecDepth 100000
attribute [local go_sem] Oper.semAt_some
def jEe (n:Nat):Nat:=if n≤90000 then n else 0
theorem jPZ {n:Nat}(h:n≤90000):jEe n=n:=if_pos h
theorem jVl (n:Nat):jEe n≤90000:=by unfold jEe;split <;> omega
def jTK (y:Nat × Pc):Array Value:=#[.int .i64 (jEe y.1:Nat),pcV (clip y.2)]
theorem jPj {p:Nat}{k:Int}{s:ByteArray}{c:Bool}(hp:p≤90000)(h:s.size≤16):jTK (p,⟨k,s,c⟩)=#[.int .i64 (p:Int),.agg #[.int .u8 k,.string s,.bool c]]:=by
 unfold jTK
 rw[jEi (show (⟨k,s,c⟩:Pc).s.size≤16 from h),jPZ (show (p,(⟨k,s,c⟩:Pc)).1≤90000 from hp)]
 rfl
def jVJ (u:Nat × (Int × Nat)):Array Value:=#[.int .i64 (jEe u.1:Nat),unV u.2]
theorem jRZ (n:Nat)(hn:1≤n)(lb B Bn:Nat)(l:List Pc)(p:Option Addr)(cap:Nat)(J Jx:List (Nat × Pc)→World→Prop)
 (jDx:∀i,i<l.length→(l.getD i nil).k=1→jBK (l.getD i nil).s=true) (hsz:∀i,i<l.length→(l.getD i nil).s.size≤1000000) (hnm:∀i,i<l.length→(l.getD i nil).k≠1→(l.getD i nil).s.size≤16) (hN:(jAh l).length≤90000)
 (hY:∀pre y W1,J pre W1→pre.length<(placed 0 (jAh l)).length→YieldAt Fence.wide (n-1) Tryz.prog lb (jTK y) W1 fun e W' =>
   (e=.returned (.bool true)∧J (pre++[y]) W'∧KpS B W1 W')∨(e=.returned (.bool false)∧Jx (pre++[y]) W'))
 (W:World) (hJ:AbidesFrom W.heap.size J) (hBx:W.heap[Bn]? = some (.cells #[.slice p l.length cap] 39 (0,0))) (hBW:B≤W.heap.size) (hGB:5≤B) (hT:Lib.Utf8Tabs 2 3 W)
 (hl:l.length≤cap) (hc:cap≤maxLen) (jA4:0<l.length→∃A,p=some A∧A.block<B∧∀i j,i<l.length→j<3→W.cell? (A.add (i*3+j))=some (pcF l i j)) (h0:J [] W) :
 CallsIn Fence.wide n Tryz.prog 143 #[.func (.yield lb) #[] #[],.pointer (some ⟨Bn,0,none⟩)] W fun e W'=>(∃v,e=.returned v) ∧
  ((∃ys,ys=placed 0 (jAh l)∧J ys W')∨(∃pre,pre <+: placed 0 (jAh l)∧Jx pre W')):=by
 unfold maxLen at hc
 have ag:=Tryz.isAgg76
 have zg:=Tryz.sizeOf76
 have c0:W.cell? ⟨Bn,0,none⟩=some (.slice p l.length cap):=(Lib.cell_of_heap hBx 0).trans rfl
 have HJ:=hid hJ
 have HY:=hid hY
 have HV:=hid jDx
 have HT:=hid hT
 have HR:=hid jA4
 have HZ:=hid hsz
 have HNM:=hid hnm
 have HS0:=hid (show placed 0 (jAh l)=[]++placed 0 (jAh (l.drop 0)) by rw[List.drop_zero];rfl)
 have H0:=hid h0
 have HN:=hid (show (placed 0 (jAh l)).length≤90000 by rw[jCK];exact hN)
 clear hJ hY jDx hT jA4 hBx h0 hsz hN hnm
 generalize hS:placed 0 (jAh l)=S at *
 clear hS
 refine callsIn_of_wp Tryz.func143 rfl trivial ?_ rfl
 simp only[Tryz.ntmps143,List.size_toArray,List.length_cons,List.length_nil,Nat.reduceAdd,Nat.reduceSub,Array.replicate_succ,Array.replicate_zero,List.push_toArray,List.append_toArray,List.nil_append,List.cons_append]
 gi_wp2
 gi_loopw [3,11] (fun v3 v11 wr=>∃ (i place:Nat) (pre:List (Nat × Pc)),v3=.int .i64 place∧v11=.int .i64 i∧i≤l.length∧place≤pre.length∧Hid (S=pre++placed place (jAh (l.drop i)))∧Hid (J pre wr)∧Hid (Below B W wr)) (fun _ v11 _=>l.length-(RowKit.intOf v11).toNat)
 case atStart=>exact⟨0,0,[],rfl,rfl,Nat.zero_le _,Nat.le_refl _,HS0.out,H0.out,Below.refl _ _⟩
 case round =>
  obtain⟨i,place,pre,rfl,rfl,hi,hpl,HS,HJP,HST⟩:=hrel
  obtain⟨wo,hwo⟩:∃wo,wo=wr:=⟨_,rfl⟩
  subst hwo
  have jW3:=hid (show pre.length≤90000 by have h1:=HN.out;rw[HS.out,List.length_append]at h1;omega)
  by_cases hlt:i<l.length
  ·obtain⟨A,rfl,hA,jAj⟩:=HR.out (by omega)
   obtain⟨x0,x1,x2⟩:=jAU hA jAj hlt HST.out
   have hszo:=HST.out.size
   have HSD:=hid (HS.out.trans (congrArg (fun q=>pre++placed place q) (jI5 hlt)))
   have hv:=HV.out i hlt
   have hzz:=HZ.out i hlt
   have hnn:=HNM.out i hlt
   clear jAj HS
   generalize l.getD i nil=x at x0 x1 x2 HSD hv hzz hnn
   have HR1:=hid (rfl:jAh (l.drop (i+1))=jAh (l.drop (i+1)))
   generalize hRR:jAh (l.drop (i+1))=R at HSD
   have HRR:=hid hRR
   clear hRR HR1
   have HX1:=hid (show (wo.alloc (pcC x)).heap[wo.heap.size]? = some (pcC x) from heap_alloc_new wo (pcC x))
   have HB1:=hid (show Below B W (wo.alloc (pcC x)) from HST.out.trans ((jAb (w:=wo) (pcC x)).mono (by omega)))
   have HJ1:=hid (jFk HJ.out HJP.out (jAb (w:=wo) (pcC x)))
   have hs1:(wo.alloc (pcC x)).heap.size=wo.heap.size+1:=by simp
   obtain⟨k,s,c⟩:=x
   dsimp only at x0 x1 x2 hv hzz hnn
   unfold pcC at hs1
   by_cases hk:k=1
   ·subst hk
    have ht:=hid (hv rfl)
    obtain⟨y0,y1,y2⟩:=jCF HX1.out
    dsimp only at y0 y1 y2
    unfold pcC at HX1 HB1 HJ1 y0 y1 y2
    have jON:=hid (show S=pre++placed place ((jAi s).map jFp++R) by rw[HSD.out];unfold unP;rw[if_pos rfl])
    clear hv HSD
    gi_wp2
    generalize wo.alloc (.cells #[.int .u8 1,.string s,.bool c] 76)=W1 at *
    gi_loopw [3,6] (fun v3 v6 wr=>∃ (place:Nat) (pre:List (Nat × Pc)) (t:ByteArray),v3=.int .i64 place∧v6=.string t∧place≤pre.length∧t.size≤1000000∧Hid (wr.heap[wo.heap.size]? = some (pcC ⟨1,s,c⟩))∧Hid (jBK t=true)∧Hid (S=pre++placed place ((jAi t).map jFp++R))∧Hid (J pre wr)∧Hid (Below B W wr)) (fun _ v6 _=>strN v6)
    case atStart=>exact⟨place,pre,s,rfl,rfl,hpl,hzz,HX1.out,ht.out,jON.out,HJ1.out,HB1.out⟩
    case round =>
     clear HX1 HB1 HJ1 y0 y1 y2 jON ht hpl jW3
     obtain⟨place,pre,t,rfl,rfl,hpl,htz,HX,ht,HS,HJP,HST⟩:=hrel
     have jW3:pre.length≤90000:=by have h1:=HN.out;rw[HS.out,List.length_append]at h1;omega
     obtain⟨y0,y1,y2⟩:=jCF HX.out
     dsimp only at y0 y1 y2
     have jZ8:=HST.out.size
     by_cases hp:0<t.size
     ·have hne:t.toList.isEmpty=false:=by
       rw[Lib.toList_data]
       cases h:t.data.toList with
       | nil=>exact absurd (by rw[Lib.size_eq,h];rfl) (Nat.pos_iff_ne_zero.1 hp)
       | cons _ _=>rfl
      have cD:=utf8_DecodeRuneInString t wr (jCt HT.out (by omega) (by omega) HST.out)
      have hdg:Lib.decodeGo t=Utf8.decode t 0:=by unfold Lib.decodeGo;rw[if_neg (by omega)]
      rw[hdg]at cD
      obtain⟨he1,_,_,hdl⟩:=jGj hp (by rw[←jGA];exact ht.out)
      have hd4:(t.extract 0 (Utf8.decode t 0).2).size≤16:=by rw[←he1];exact Nat.le_trans (jD9 _) (by decide)
      have hpm:place≤90000:=by omega
      have HY1:=hid (fun W1 h1 h2=>jPj (p:=place) (k:=1) (c:=false) hpm hd4▸HY.out pre (place,⟨1,t.extract 0 (Utf8.decode t 0).2,false⟩) W1 h1 h2)
      have HS1:=hid (HS.out.trans (congrArg (pre++·) (jJs (place:=place) (R:=R) hp ht.out)))
      have HT1:=hid (jIG hp ht.out)
      have hwd:=width_pos t 0
      have hq:IntKind.i64.wrap ((place:Int)+1)=((place+1:Nat):Int):=by rw[IntKind.wrap_i64];omega
      clear HS hdg he1 hd4
      generalize (Utf8.decode t 0).1=r at *
      generalize (Utf8.decode t 0).2=d at *
      have hdI:(d:Int)≤(t.size:Int):=by omega
      have hd0:(0:Int)≤(d:Int):=by omega
      gi_wp2_with (refine⟨trivial,?_⟩;gi_at_call 141;(with_reducible refine (callsIn_wide.2 cD).mono ?_);rintro e w2 ⟨rfl,hb2⟩;have HJ2:=hid (jFk HJ.out HJP.out hb2);have HX2:=hid ((hb2.block _ (lt_of_block HX.out)).trans HX.out);have qAN:=hid (HST.out.trans (hb2.mono (by omega)));obtain⟨fn,tmps,assign,body,hy,hR⟩:=HY1.out w2 HJ2.out (jPR HS1.out);clear hb2)
      refine hR.mono ?_
      rintro e W3 (⟨rfl,hJ3,hk3⟩ | ⟨rfl,jJY⟩)
      ·have HJ3:=hid hJ3
       have HX3:=hid (hk3.2.2.same _ _ HX2.out (jCv _))
       have jWw:=hid (qAN.out.trans hk3.1)
       clear hJ3 hk3
       gi_wp2
       go_roundw
       case rel=>exact⟨place+1,pre++[(place,(⟨1,t.extract 0 d,false⟩:Pc))],t.extract d t.size,by go_num,rfl,by simp;omega,by rw[ByteArray.size_extract];omega,HX3.out,HT1.out,by rw[List.append_assoc];exact HS1.out,HJ3.out,jWw.out⟩
       case measure=>simp[strN];omega
      ·gi_wp2
       refine bodyPost_ret (results_none rfl _ _ _) rfl ?_
       exact⟨⟨_,rfl⟩,.inr ⟨_,jNe HS1.out,jJY⟩⟩
     ·have hne:t.toList.isEmpty=true:=by
       rw[Lib.toList_data]
       have:t.data.toList=[]:=List.eq_nil_of_length_eq_zero (by rw[←Lib.size_eq];omega)
       rw[this];rfl
      have HS1:=hid (show S=pre++placed place (jAh (l.drop (i+1))) by rw[HS.out,jGk hp,HRR.out];rfl)
      clear HS
      gi_wp2
      refine⟨fun _ h=>(by cases h),?_⟩
      gi_wp2
      go_roundw
      case rel=>exact⟨i+1,place,pre,rfl,by go_num,by omega,hpl,HS1.out,HJP.out,HST.out⟩
      case measure=>simp[RowKit.intOf];omega
   ·have jON:=hid (show S=pre++(place,(⟨k,s,c⟩:Pc)) :: placed (jBM place ⟨k,s,c⟩) R by rw[HSD.out];unfold unP;rw[if_neg hk];rfl)
    obtain⟨y0,y1,y2⟩:=jCF HX1.out
    dsimp only at y0 y1 y2
    unfold pcC at HX1 HB1 HJ1 y0 y1 y2
    have hkb:(k == 1)=false:=beq_eq_false_iff_ne.2 hk
    have hkn:(k != 1)=true:=by simp[hk]
    have hq:IntKind.i64.wrap ((place:Int)+1)=((place+1:Nat):Int):=by have:=jW3.out;rw[IntKind.wrap_i64];omega
    clear hv HSD
    gi_wp2
    generalize wo.alloc (.cells #[.int .u8 k,.string s,.bool c] 76)=W1 at *
    gi_loopw [3] (fun v3 wr=>v3=.int .i64 place∧wr=W1) (fun _ _=>0)
    case atStart=>exact⟨rfl,rfl⟩
    case round =>
     obtain⟨rfl,rfl⟩:=hrel
     obtain⟨fn,tmps,assign,body,hy,hR⟩:=(jPj (p:=place) (k:=k) (c:=c) (by have:=jW3.out;omega) (hnn hk)▸HY.out pre (place,⟨k,s,c⟩) wr HJ1.out (jPR jON.out))
     have HX1p:=hid (show wr.heap[wo.heap.size]? = some (pcC ⟨k,s,c⟩) from HX1.out)
     gi_wp2
     refine hR.mono ?_
     rintro e W3 (⟨rfl,hJ3,hk3⟩ | ⟨rfl,jJY⟩)
     ·have HJ3:=hid hJ3
      have HX3:=hk3.2.2.same _ _ HX1p.out (jCv _)
      have jWw:=hid (HB1.out.trans hk3.1)
      obtain⟨z0,z1,z2⟩:=jCF HX3
      dsimp only at z0 z1 z2
      clear hJ3 hk3 HX3
      by_cases h5:k=5
      ·have h5b:(k == 5)=true:=by simp[h5]
       have HS3:=hid (show S=(pre++[(place,(⟨k,s,c⟩:Pc))])++placed (place+1) (jAh (l.drop (i+1))) by rw[jON.out,HRR.out,List.append_assoc];unfold jBM;rw[if_pos (.inr h5)];rfl)
       gi_wp2
       go_roundw
       case rel=>exact⟨i+1,place+1,pre++[(place,(⟨k,s,c⟩:Pc))],by go_num,by go_num,by omega,by simp;omega,HS3.out,HJ3.out,jWw.out⟩
       case measure=>simp[RowKit.intOf];omega
      ·have h5b:(k == 5)=false:=by simp[h5]
       have HS3:=hid (show S=(pre++[(place,(⟨k,s,c⟩:Pc))])++placed place (jAh (l.drop (i+1))) by rw[jON.out,HRR.out,List.append_assoc];unfold jBM;rw[if_neg (by rintro (h | h);exact hk h;exact h5 h)];rfl)
       gi_wp2
       go_roundw
       case rel=>exact⟨i+1,place,pre++[(place,(⟨k,s,c⟩:Pc))],rfl,by go_num,by omega,by simp;omega,HS3.out,HJ3.out,jWw.out⟩
       case measure=>simp[RowKit.intOf];omega
     ·gi_wp2
      refine bodyPost_ret (results_none rfl _ _ _) rfl ?_
      exact⟨⟨_,rfl⟩,.inr ⟨_,jNe jON.out,jJY⟩⟩
  ·have HE:=hid (show pre=S by rw[HS.out,List.drop_of_length_le (by omega)];simp[jAh,placed])
   gi_wp2
   go_end0
   exact⟨⟨_,rfl⟩,.inl ⟨pre,HE.out,HJP.out⟩⟩
theorem jMf (n:Nat)(hn:1≤n)(B Bn:Nat)(l:List Pc)(p:Option Addr)(cap:Nat)(w:World)
 (jDx:∀i,i<l.length→(l.getD i nil).k=1→jBK (l.getD i nil).s=true) (hsz:∀i,i<l.length→(l.getD i nil).s.size≤1000000) (hnm:∀i,i<l.length→(l.getD i nil).k≠1→(l.getD i nil).s.size≤16) (hN:(jAh l).length≤90000)
 (hBx:w.heap[Bn]? = some (.cells #[.slice p l.length cap] 39 (0,0))) (hBW:B≤w.heap.size) (hGB:5≤B) (hT:Lib.Utf8Tabs 2 3 w) (hv:jAO B w (.slice p l.length cap) l.length 3 (pcF l)) :
 SeqStopsK Fence.wide n Tryz.prog 143 #[.pointer (some ⟨Bn,0,none⟩)] jTK (KpS B) (fun ys=>ys=placed 0 (jAh l)) (fun pre=>pre <+: placed 0 (jAh l)) (placed 0 (jAh l)).length w:=by
 intro lb J Jx W hW hJ hJx hY h0
 obtain⟨q,cap',e,h1,h2,h3⟩:=hv.below (hW.mono hBW)
 injection e with e1 e2 e3
 subst e1 e3
 exact jRZ n hn lb B Bn l p cap J Jx jDx hsz hnm hN hY W hJ ((hW.block _ (lt_of_block hBx)).trans hBx) (Nat.le_trans hBW hW.size) hGB (Utf8Tabs_below hT hW) h1 h2 h3 h0
theorem jNJ (f:Nat→Int)(n:Nat)(hn:5≤n)(B Bn:Nat)(l:List Pc)(p:Option Addr)(cap:Nat)(w:World)
 (jDx:∀i,i<l.length→(l.getD i nil).k=1→jBK (l.getD i nil).s=true) (hsz:∀i,i<l.length→(l.getD i nil).s.size≤1000000) (hnm:∀i,i<l.length→(l.getD i nil).k≠1→(l.getD i nil).s.size≤16) (hN:(jAh l).length≤90000)
 (hBx:w.heap[Bn]? = some (.cells #[.slice p l.length cap] 39 (0,0))) (hBW:B≤w.heap.size) (hGB:5≤B) (hT:Lib.Utf8Tabs 2 3 w) (hC:jGn f w) (hv:jAO B w (.slice p l.length cap) l.length 3 (pcF l)) :
 jKN n Tryz.prog 140 #[.pointer (some ⟨Bn,0,none⟩)] jVJ (KpS B) (fun ys=>ys=jAV f (placed 0 (jAh l))) (fun pre=>pre <+: jAV f (placed 0 (jAh l))) (placed 0 (jAh l)).length w:=by
 intro lb J Jx W hW hJ hJx hY h0
 have hBx:=(hW.block _ (lt_of_block hBx)).trans hBx
 have hBW:=Nat.le_trans hBW hW.size
 have hT:=Utf8Tabs_below hT hW
 have hC:=hC.below hW (by omega)
 have hv:=hv.below (hW.mono (by omega))
 have c0:W.cell? ⟨Bn,0,none⟩=some (.slice p l.length cap):=(Lib.cell_of_heap hBx 0).trans rfl
 have hbn:Bn<W.heap.size:=lt_of_block hBx
 have hn1:1≤n:=by omega
 have cS:=fun w=>jIw p l.length cap w
 have ag:=Tryz.isAgg76
 have zg:=Tryz.sizeOf76
 refine callsIn_of_wp_marks Tryz.func140 rfl trivial ?_ rfl
 simp only[Tryz.ntmps140,List.size_toArray,List.length_cons,List.length_nil,Nat.reduceAdd,Nat.reduceSub,Array.replicate_succ,Array.replicate_zero,List.push_toArray,List.append_toArray,List.nil_append,List.cons_append]
 gi_wp2_with (refine⟨trivial,?_⟩;gi_at_call 81;(with_reducible refine (callsIn_wide.2 (cS _)).mono ?_);rintro e w3 ⟨rfl,rfl⟩)
 have hs0:((W.alloc (.cells #[.func (.yield lb) #[] #[]] 199)).alloc (.cells #[.slice p l.length cap] 39)).heap.size=W.heap.size+2:=by simp
 have HF0:=hid (show ((W.alloc (.cells #[.func (.yield lb) #[] #[]] 199)).alloc (.cells #[.slice p l.length cap] 39)).heap[W.heap.size]? = some (.cells #[.func (.yield lb) #[] #[]] 199 (0,0)) by rw[Below.heap_alloc _ _ _ (by simp)];exact heap_alloc_new W _)
 have HX0:=hid (show ((W.alloc (.cells #[.func (.yield lb) #[] #[]] 199)).alloc (.cells #[.slice p l.length cap] 39)).heap[W.heap.size+1]? = some (.cells #[.slice p l.length cap] 39 (0,0)) by
  have:=heap_alloc_new (W.alloc (.cells #[.func (.yield lb) #[] #[]] 199)) (.cells #[.slice p l.length cap] 39)
  rwa [show (W.alloc (.cells #[.func (.yield lb) #[] #[]] 199)).heap.size=W.heap.size+1 by simp]at this)
 have HB0:=hid (jAa (jAb (w:=W) (.cells #[.func (.yield lb) #[] #[]] 199)) (jAb (w:=W.alloc (.cells #[.func (.yield lb) #[] #[]] 199)) (.cells #[.slice p l.length cap] 39)))
 have HJ0:=hid (jCq hJ h0 HB0.out)
 generalize (W.alloc (.cells #[.func (.yield lb) #[] #[]] 199)).alloc (.cells #[.slice p l.length cap] 39)=Wr at *
 have cT:=jMf (n-1) (by omega) B (W.heap.size+1) l p cap Wr jDx hsz hnm hN HX0.out (by omega) hGB (Utf8Tabs_below hT HB0.out) (hv.below (HB0.out.mono hBW))
 refine wpIn_rangeFunc_ownH rfl (by omega) (gf:=143) (lb:=#[.pointer (some ⟨W.heap.size+1,0,none⟩)]) rfl trivial (enters_of Tryz.func143 (by kernel_rfl) rfl)
  cT KpS.t (KpS.b (by omega)) (Below.refl _ _) (fun _=>rfl)
  (fun pre W'=>J (jAV f pre) W'∧Below B W W'∧W'.heap[W.heap.size]? = some (.cells #[.func (.yield lb) #[] #[]] 199 (0,0)))
  (fun c pre W'=>c=.ret∧Jx (jAV f pre) W')
  (fun pre X Y row ⟨h1,h2,h3⟩ hg hr=>⟨hJ _ X Y row h1 hg (fun r e=>⟨by have:=(hr r e).1;omega,(hr r e).2⟩),h2.grown hg (Nat.le_trans hBW (by have:=lt_of_block h3;omega)) (fun k e=>by have:=(hr k e).1;omega),(hg.block _ (lt_of_block h3) (fun e=>by have:=(hr _ e.symm).1;omega)).trans h3⟩)
  (fun c pre X Y row ⟨h1,h2⟩ hg hr=>⟨h1,hJx _ X Y row h2 hg (fun r e=>⟨by have:=(hr r e).1;omega,(hr r e).2⟩)⟩)
  ⟨HJ0.out,HB0.out.mono hBW,HF0.out⟩
  (fun y a' W'=>(∃b4:Nat,a'={ tmps:=#[.func (.yield lb) #[] #[],.pointer (some ⟨Bn,0,none⟩),.pointer (some ⟨W.heap.size,0,none⟩),.int .i64 (jEe y.1:Nat),.pointer (some ⟨b4,0,none⟩),undef,undef,undef,.slice p l.length cap,.func (.func 143) #[] #[.pointer (some ⟨W.heap.size+1,0,none⟩)],.int .i64 (jEe y.1:Nat),pcV (clip y.2),undef,undef,undef,undef,undef,undef,undef,undef,undef,undef,undef,undef,undef,undef,undef,undef,undef,undef,undef,undef,undef],defers:=[] }∧W'.heap[b4]? = some (pcC (clip y.2))))
  (fun y a' _ X Y row ⟨b4,h1,h2⟩ hg hr=>⟨b4,h1,(hg.block _ (lt_of_block h2) (fun e=>by obtain⟨o,ho,hc⟩:=(hr _ e.symm).2;rw[h2]at ho;cases ho;cases hc)).trans h2⟩)
  ?assign ?body ?done ?stop
 case assign =>
  rintro l1 pre y W1 K ⟨h1,h2,h3⟩ hK
  have HK:=hid hK
  have HB1:=hid (jAb (w:=W1) (pcC (clip y.2)))
  have HN1:=hid (heap_alloc_new W1 (pcC (clip y.2)))
  have HI1:=hid (jCq hJ h1 HB1.out)
  have hs1:=h2.size
  have hl3:=lt_of_block h3
  have HF1:=hid ((HB1.out.block _ hl3).trans h3)
  have HL1:=hid (h2.trans (HB1.out.mono (by omega)))
  clear hK h1 h2 h3
  unfold jTK
  generalize clip y.2=q at *
  obtain⟨k,s,c⟩:=q
  unfold pcC at HB1 HN1 HI1 HF1 HL1
  unfold pcV
  gi_wp2
  exact HK.out _ _ (KeepsFrom.of_below HB1.out) (KpS.of_below (by omega) HB1.out) ⟨HI1.out,HL1.out,HF1.out⟩ ⟨_,rfl,HN1.out⟩
 case body =>
  rintro lp pre y a' W1 hlp ⟨r0,hr0⟩ ⟨h1,h2,h3⟩ ⟨b4,rfl,h4⟩ hlt
  have HY:=hid hY
  have HC1:=hid (hC.below h2 (by omega))
  have HT1:=hid (jCt hT (B:=B) (by omega) (by omega) h2)
  have HJ1:=hid h1
  have HF1:=hid h3
  have hf1:W1.cell? ⟨W.heap.size,0,none⟩=some (.func (.yield lb) #[] #[]):=(Lib.cell_of_heap h3 0).trans rfl
  have hl3:=lt_of_block h3
  have jYF:=h2.size
  have HU:=hid (jKG f pre y)
  have HLT:=hid (Nat.lt_of_le_of_lt (jG7 f pre) hlt)
  have HL1:=hid h2
  have HJW:=hid hJ
  have cI:=jMQ (clip y.2) W1
  have hb4:=lt_of_block h4
  have hn2:1≤n-1:=by omega
  have hn3:1≤n-1-1:=by omega
  have hn4:1≤n-1-1-1:=by omega
  obtain⟨z0,z1,z2⟩:=jCF h4
  have H4:=hid h4
  clear hY hC hT h1 h2 h3 h0 hJ hJx cT hr0 HJ0 HB0 HF0 HX0 hlt h4
  unfold jJL at HU
  generalize clip y.2=q at *
  by_cases ht:jCl q=true
  ·have HU1:=hid (show jAV f (pre++[y])=jAV f pre by rw[HU.out,if_pos ht,List.append_nil])
   rw[ht]at cI
   clear HU
   obtain⟨k,s,c⟩:=q
   unfold pcV at cI ⊢
   dsimp only at z0 z1 z2 cI
   gi_wp2_with (refine⟨trivial,?_⟩;gi_at_call 121;(with_reducible refine (CallsIn.inRound lp (callsIn_wide.2 cI)).mono ?_);rintro e w2 ⟨rfl,hb2⟩;have HB2:=hid hb2;clear hb2)
   exact⟨KeepsFrom.of_below HB2.out,KpS.of_below (by omega) HB2.out,by rw[HU1.out];exact jCq HJW.out HJ1.out HB2.out,HL1.out.trans (HB2.out.mono (by omega)),(HB2.out.block _ hl3).trans HF1.out⟩
  ·have HU1:=hid (show jAV f (pre++[y])=jAV f pre++[(y.1,uOf f q)] by rw[HU.out,if_neg ht])
   have htf:jCl q=false:=by simpa using ht
   rw[htf]at cI
   clear HU ht htf
   obtain⟨k,s,c⟩:=q
   unfold pcV at cI ⊢
   dsimp only at z0 z1 z2 cI
   have au:=Tryz.isAgg198
   have zu:=Tryz.sizeOf198
   by_cases hk:k=1
   ·subst hk
    have cD:=fun w' (hb:Below W1.heap.size W1 w')=>utf8_DecodeRuneInString s w' (Utf8Tabs_below HT1.out hb)
    have HUO:=hid (show uOf f ⟨1,s,c⟩=(jRx f (Lib.decodeGo s).1,(Lib.decodeGo s).1) from if_pos rfl)
    rw[HUO.out]at HU1
    clear HUO
    generalize (Lib.decodeGo s).1=r at *
    generalize (Lib.decodeGo s).2=d at *
    gi_wp2_with (first
     | (refine⟨trivial,?_⟩;gi_at_call 121;(with_reducible refine (CallsIn.inRound lp (callsIn_wide.2 cI)).mono ?_);rintro e w2 ⟨rfl,hb2⟩;have HB2:=hid hb2;have y0:=(hb2.cell (p:=⟨b4,0,none⟩) hb4).trans z0;have y1:=(hb2.cell (p:=⟨b4,1,none⟩) hb4).trans z1;have qAP:=Nat.lt_of_lt_of_le hb4 hb2.size;have jYI:=Nat.lt_of_lt_of_le hl3 hb2.size;have hs2:=hb2.size;have HBX:=hid (jAa hb2 (jAb (w:=w2) (.cells #[.int .u8 5,.int .i32 0] 198)));have HNX:=hid (heap_alloc_new w2 (.cells #[.int .u8 5,.int .i32 0] 198));clear hb2)
     | (refine⟨trivial,?_⟩;gi_at_call 141;(with_reducible refine (CallsIn.inRound lp (callsIn_wide.2 (cD _ HBX.out))).mono ?_);rintro e w4 ⟨rfl,hb4'⟩;have hu4:=(hb4'.block _ (lt_of_block HNX.out)).trans HNX.out;have d0:=(Lib.cell_of_heap hu4 0).trans rfl;have d1:=(Lib.cell_of_heap hu4 1).trans rfl;have f0:=Lib.frozen_of_heap hu4 0;have f1:=Lib.frozen_of_heap hu4 1;have HB4:=hid (jAa HBX.out hb4');have cK:=jHJ f r w4 (HC1.out.below HB4.out (by omega));have hf4:=(HB4.out.cell (p:=⟨W.heap.size,0,none⟩) hl3).trans hf1;have hs4:=HB4.out.size;have HB5:=hid ((HB4.out.setCell (p:=⟨w2.heap.size,0,none⟩) hs2 (.int .u8 (jRx f r))).setCell (p:=⟨w2.heap.size,1,none⟩) hs2 (.int .i32 (r:Int)));have HJ5:=hid (jCq HJW.out HJ1.out HB5.out);obtain⟨fn,tmps,assign,body,hy,hR⟩:=HY.out (jAV f pre) (y.1,(jRx f r,r)) _ HJ5.out HLT.out;unfold jVJ unV at hy;dsimp only at hy;clear hb4')
     | (refine⟨trivial,?_⟩;gi_at_call 128;(with_reducible refine (CallsIn.inRound lp (callsIn_wide.2 cK)).mono ?_);rintro e w5 ⟨rfl,rfl⟩))
    refine (jEk hR).mono ?_
    rintro e W3 (⟨rfl,hJ3,hk3,hf3⟩ | ⟨rfl,jJY,hf3⟩)
    ·have H3:=hid (And.intro hJ3 (And.intro hk3 hf3))
     clear hJ3 hk3 hf3 hR
     gi_wp2
     exact⟨(KeepsFrom.of_below HB5.out).trans (jCk H3.out.2.2 (by omega)),(KpS.of_below (by omega) HB5.out).t H3.out.2.1,by rw[HU1.out];exact H3.out.1,HL1.out.trans ((HB5.out.mono (by omega)).trans H3.out.2.1.1),H3.out.2.1.2.2.same _ _ ((HB5.out.block _ hl3).trans HF1.out) (.inr rfl)⟩
    ·have H3:=hid (And.intro jJY hf3)
     clear jJY hf3 hR
     gi_wp2
     exact⟨(KeepsFrom.of_below HB5.out).trans (jCk H3.out.2 (by omega)),rfl,by rw[HU1.out];exact H3.out.1⟩
   ·have hkb:(k == 1)=false:=beq_eq_false_iff_ne.2 hk
    have HUO:=hid (show uOf f ⟨k,s,c⟩=(5,0) from if_neg hk)
    rw[HUO.out]at HU1
    clear HUO
    gi_wp2_with (refine⟨trivial,?_⟩;gi_at_call 121;(with_reducible refine (CallsIn.inRound lp (callsIn_wide.2 cI)).mono ?_);rintro e w2 ⟨rfl,hb2⟩;have HB2:=hid hb2;have hf2:=(hb2.cell (p:=⟨W.heap.size,0,none⟩) hl3).trans hf1;have y0:=(hb2.cell (p:=⟨b4,0,none⟩) hb4).trans z0;have qAP:=Nat.lt_of_lt_of_le hb4 hb2.size;have jYI:=Nat.lt_of_lt_of_le hl3 hb2.size;have HBX:=hid (jAa hb2 (jAb (w:=w2) (.cells #[.int .u8 5,.int .i32 0] 198)));have HJX:=hid (jCq HJW.out HJ1.out HBX.out);obtain⟨fn,tmps,assign,body,hy,hR⟩:=HY.out (jAV f pre) (y.1,(5,0)) _ HJX.out HLT.out;unfold jVJ unV at hy;dsimp only at hy;rw[show ((0:Nat):Int)=0 from rfl]at hy;clear hb2)
    refine (jEk hR).mono ?_
    rintro e W3 (⟨rfl,hJ3,hk3,hf3⟩ | ⟨rfl,jJY,hf3⟩)
    ·have H3:=hid (And.intro hJ3 (And.intro hk3 hf3))
     clear hJ3 hk3 hf3 hR
     gi_wp2
     exact⟨(KeepsFrom.of_below HBX.out).trans (jCk H3.out.2.2 (by omega)),(KpS.of_below (by omega) HBX.out).t H3.out.2.1,by rw[HU1.out];exact H3.out.1,HL1.out.trans ((HBX.out.mono (by omega)).trans H3.out.2.1.1),H3.out.2.1.2.2.same _ _ ((HBX.out.block _ hl3).trans HF1.out) (.inr rfl)⟩
    ·have H3:=hid (And.intro jJY hf3)
     clear jJY hf3 hR
     gi_wp2
     exact⟨(KeepsFrom.of_below HBX.out).trans (jCk H3.out.2 (by omega)),rfl,by rw[HU1.out];exact H3.out.1⟩
 case done =>
  rintro D ys Wd hD rfl ⟨h1,h2,h3⟩ hK
  have HK:=hid hK
  have H1:=hid h1
  have HJ:=hid hJ
  clear hK h1 hJ hJx hY
  gi_wp2
  exact jBE (fun W'=>J (jAV f (placed 0 (jAh l))) W') Wr.heap.size (fun W1 D1 h hD1 hk1=>HJ.out.putObj _ h (by omega) hk1 rfl) (fun W1 h=>⟨_,results_none rfl _ _ _,⟨_,rfl⟩,.inl ⟨_,rfl,h⟩⟩) [D] _ H1.out ((jBx.nil _ _).cons hD (by simp) HK.out)
 case stop =>
  rintro D c pre Wd hD jRD ⟨rfl,h1⟩ hK
  have HK:=hid hK
  have H1:=hid h1
  have HJ:=hid hJx
  clear hK h1 hJ hJx hY
  gi_wp2
  exact jBE (fun W'=>Jx (jAV f pre) W') Wr.heap.size (fun W1 D1 h hD1 hk1=>HJ.out.putObj _ h (by omega) hk1 rfl) (fun W1 h=>⟨_,results_none rfl _ _ _,⟨_,rfl⟩,.inr ⟨_,jKB f jRD,h⟩⟩) [D] _ H1.out ((jBx.nil _ _).cons hD (by simp) HK.out)
end Go.Proofs.YtldapapdolkiaaaGreatDoor
namespace Go.Proofs.YtldapapdolkiaaaGreatDoor
set_option maxHeartbeats 64000000
open Go Go.RowKit Go.Lib
set_option maxRecDepth 100000
attribute [local go_sem] Oper.semAt_some
def jJe (x:Rl)(L:List Un)(q:Nat):Bool:=jEr L ((q:Int)-(ftW (items x.b):Nat)) (items x.b) && jEr L (q:Int) (items x.a)
def jB7:List Rl→List Un→Nat→Bool
 | [],_,_=>false
 | x :: R,L,q=>if jJe x L q=true then x.k else jB7 R L q
theorem jMF {L:List Un}{q:Nat}(hq:q≤L.length):∀R,jB7 R L q=jCp R L q
 | []=>rfl
 | x :: R=>by
   unfold jB7 jCp
   rw[jMF hq R]
   unfold jJe
   rw[jTP x L q hq]
def jEH (R:List Rl)(L:List Un)(pre:List (Nat × (Int × Nat))):List Nat:=(pre.map fun x=>jEe x.1).filter fun q=>decide (0<q) && jB7 R L q
theorem jRI (R:List Rl)(L:List Un)(pre:List (Nat × (Int × Nat)))(x:Nat × (Int × Nat)):jEH R L (pre++[x])=jEH R L pre++(if (decide (0<jEe x.1) && jB7 R L (jEe x.1))=true then [jEe x.1] else []):=by
 unfold jEH
 rw[List.map_append,List.filter_append]
 congr 1
 cases h:(decide (0<jEe x.1) && jB7 R L (jEe x.1)) <;> simp[h]
theorem jT0 (R:List Rl)(L:List Un)(pre:List (Nat × (Int × Nat))):(jEH R L pre).length≤pre.length:=by
 unfold jEH
 exact Nat.le_trans (List.length_filter_le _ _) (by rw[List.length_map];exact Nat.le_refl _)
theorem jWa {R:List Rl}{l:List Pc}(h:∀x ∈ l,jA8 x=0)(hn:(jCa l).length≤90000):jEH R (jCa l) (jAV jH4 (placed 0 (jAh l)))=jGN R (jCa l):=by
 have h1:=jMp jH4 (jAh l) 0 (jSH h)
 have hu:=congrArg List.length (jHM (f:=jH4) (fun _ _=>rfl) h)
 rw[List.length_map,List.length_map]at hu
 unfold jEH jGN
 have e1:(jAV jH4 (placed 0 (jAh l))).map (fun x=>jEe x.1)=List.range (jCa l).length:=by
  rw[show (fun x:Nat × (Int × Nat)=>jEe x.1)=jEe ∘ Prod.fst from rfl,←List.map_map,h1,hu,List.range_eq_range']
  have key:∀xs:List Nat,(∀y ∈ xs,y≤90000)→xs.map jEe=xs:=fun xs hx=>by
   induction xs with
   | nil=>rfl
   | cons y xs ih=>rw[List.map_cons,jPZ (hx y (List.mem_cons_self ..)),ih (fun z hz=>hx z (List.mem_cons_of_mem _ hz))]
  exact key _ fun y hy=>by have:=List.mem_range'_1.1 hy;omega
 rw[e1]
 refine List.filter_congr fun q hq=>?_
 rw[jMF (Nat.le_of_lt (List.mem_range.1 hq))]
def jDO (us:List Nat):List Value:=us.map fun p:Nat=>.int .i64 (p:Int)
theorem jKb (us vs:List Nat):jDO (us++vs)=jDO us++jDO vs:=by unfold jDO;exact List.map_append
def jJT (B b:Nat)(us:List Nat)(W:World):Prop:=∃v,W.heap[b]? = some (.cells #[v] 78 (0,0))∧W.ownsRow B 3 1 v us.length (jDO us)
theorem jJT.turned {B b base:Nat}{us:List Nat}{X Y:World}{row:Option Nat}(h:jJT B b us X)(hg:X.grownBy Y row)(hr:∀r,row=some r→base≤r∧∃o:Obj,X.heap[r]? = some o∧o.isCells=false):jJT B b us Y:=by
 obtain⟨v,h1,h2⟩:=h
 have hk:Keeps (fun o=>o.isCells=true) X Y:=⟨hg.size,fun k o hk ho=>(hg.block k (lt_of_block hk) (fun e=>by obtain⟨_,q,hq,hqc⟩:=hr k e.symm;rw[hk]at hq;cases hq;rw[ho]at hqc;cases hqc)).trans hk⟩
 exact⟨v,hk.same _ _ h1 rfl,hk.row h2 fun _=>rfl⟩
theorem jJT.step {B b:Nat}{us:List Nat}{W W':World}(h:jJT B b us W)(hb:Below W.heap.size W W'):jJT B b us W':=by
 obtain⟨v,h1,h2⟩:=h
 have hk:=Keeps.below (C:=fun _=>True) hb
 exact⟨v,hk.same _ _ h1 trivial,hk.row h2 fun _=>trivial⟩
theorem jJT.put {B b:Nat}{us:List Nat}{W W2:World}{v0 v':Value}{u:Nat}{o:Obj}(hbx:W.heap[b]? = some (.cells #[v0] 78 (0,0)))(jAN:W.ownsRow B 3 1 v0 us.length (jDO us))(hB:B≤b)(hg:(W.alloc o).grownBy W2 v0.ownBlock)(hr:W2.ownsRow B 3 1 v' (us.length+1) (jDO us++[.int .i64 (u:Int)])) :
 jJT B b (us++[u]) (W2.setCell ⟨b,0,none⟩ v')∧Acc B W (W2.setCell ⟨b,0,none⟩ v'):=by
 have hBW:B≤W.heap.size:=by have:=lt_of_block hbx;omega
 have hl:=lt_of_block hbx
 have jYJ:(W.alloc o).heap[b]? = some (.cells #[v0] 78 (0,0)):=(Below.heap_alloc _ _ _ hl).trans hbx
 have jLC:(W.alloc o).ownsRow B 3 1 v0 us.length (jDO us):=jAN.alloc _
 have h2:W2.heap[b]? = some (.cells #[v0] 78 (0,0)):=(hg.block b (lt_of_block jYJ) (fun e=>jAI jLC jYJ (by decide) e.symm)).trans jYJ
 have hk:Keeps jFt (W.alloc o) W2:=Keeps.grown jLC hg (fun _=>jA3 (by decide) (by decide))
 have hn:∀ (k:Nat) (q:Obj),(W.alloc o).heap[k]? = some q→q.isCells=false→W2.heap[k]? = some q:=fun k q hk hq=>(hg.block k (lt_of_block hk) (fun e=>by
  rcases jLC.2 with ⟨rfl,_⟩ | ⟨g,cap,cur,rfl,_,hgg,_⟩
  ·simp[Value.ownBlock]at e
  ·simp only[Value.ownBlock,Option.some.injEq]at e
   subst e
   rw[hgg]at hk;cases hk;cases hq)).trans hk
 have hb2:Below B (W.alloc o) W2:=(Below.refl _ _).grown hg (by simp;omega) (fun k e=>(jLC.lt k e).1)
 have hz:Keeps (fun q=>match q with | .cells _ t _=>t≠78 | _=>True) W2 (W2.setCell ⟨b,0,none⟩ v') :=
  (Keeps.refl _ _).setCell h2 (fun h=>h rfl) 0 _
 refine⟨⟨v',by rw[jBC h2];rfl,?_⟩,(Acc.step hBW (jAb o)).trans (Acc.trans ⟨hb2,hn,hk⟩ (Acc.set h2 hB (jA3 (by decide) (by decide)) 0 _))⟩
 rw[List.length_append,List.length_singleton,jKb]
 exact hz.row hr fun _=>(show 3≠78 by decide)
theorem jOe {u:Cr}{L:List Un}{v:Value}{p:Nat}{w:World}(hE:rlE u.x=0)(hu:jK7 w u.vb (items u.x.b)∧jK7 w u.va (items u.x.a))(hU:jGh w v L)(hok:∀u ∈ L,okU u)(hm:L.length≤50000)(hp:p≤90000) :
 Calls Tryz.prog 78 #[.agg #[u.vb,.int .i64 (ftW (items u.x.b):Nat),u.va,.int .i64 (ftW (items u.x.a):Nat),.bool u.x.k],v,.int .i64 (p:Int)] w fun e w'=>e=.returned (.bool (jJe u.x L p))∧Below w.heap.size w w':=by
 obtain⟨h1,h2⟩:=rl_ok hE
 obtain⟨l1,n1⟩:=jPP h1
 obtain⟨l2,n2⟩:=jPP h2
 exact jMd (items u.x.b) (items u.x.a) u.x.k L v u.vb u.va p w hU hu.1.tests hu.2.tests hok n1 n2 hm (by omega) (by omega) hp
theorem jOA {R:List Rl}{us:List Cr}(hm:us.map Cr.x=R){k:Nat}(hk:k<us.length)(L:List Un)(q:Nat):jB7 (R.drop k) L q=(if jJe (us.getD k jFN).x L q=true then (us.getD k jFN).x.k else jB7 (R.drop (k+1)) L q):=by
 subst hm
 rw[←List.map_drop,←List.map_drop,List.drop_eq_getElem_cons hk,List.map_cons,List.getD_eq_getElem?_getD,List.getElem?_eq_getElem hk]
 rfl
theorem jZh {R:List Rl}{us:List Cr}(hm:us.map Cr.x=R)(h:∀i,i<R.length→rlE (R.getD i jHI)=0){k:Nat}(hk:k<us.length):rlE (us.getD k jFN).x=0:=by
 subst hm
 have:=h k (by rw[List.length_map];exact hk)
 rw[List.getD_eq_getElem?_getD,List.getElem?_map,List.getElem?_eq_getElem hk]at this
 rw[List.getD_eq_getElem?_getD,List.getElem?_eq_getElem hk]
 exact this
theorem jPk {W:World}{Bn t:Nat}{a b c d e:Value}(h:W.heap[Bn]? = some (.cells #[a,b,c,d,e] t (0,0))):W.cell? ⟨Bn,0,none⟩=some a∧W.cell? ⟨Bn,1,none⟩=some b∧W.cell? ⟨Bn,2,none⟩=some c∧W.cell? ⟨Bn,3,none⟩=some d∧W.cell? ⟨Bn,4,none⟩=some e :=
 ⟨(Lib.cell_of_heap h 0).trans rfl,(Lib.cell_of_heap h 1).trans rfl,(Lib.cell_of_heap h 2).trans rfl,(Lib.cell_of_heap h 3).trans rfl,(Lib.cell_of_heap h 4).trans rfl⟩
theorem jR0:(Tryz.prog.info? 3).map (fun i=>(i.zero,i.size,i.bytes))=some (some (.int .i64 0),1,8):=by kernel_rfl
theorem jJf:∃i,Tryz.prog.info? 3=some i∧i.zero=some (.int .i64 0)∧i.size=1∧i.bytes=8:=by
 have h:=jR0
 cases hq:Tryz.prog.info? 3 with
 | none=>rw[hq]at h;cases h
 | some i=>rw[hq]at h;simp only[Option.map_some,Option.some.injEq,Prod.mk.injEq]at h;exact⟨i,rfl,h.1,h.2.1,h.2.2⟩
theorem Acc.low {B B':Nat}{W W':World}(h:Acc B' W W')(hB:B≤B'):Acc B W W':=⟨h.bel.mono hB,h.non,h.calm⟩
theorem jK7.form {w:World}{v:Value}{X:List Ft}(h:jK7 w v X):∃q c,v=.slice q X.length c:=by
 obtain⟨us,h2,_,_⟩:=h
 exact jEb h2
theorem jXa {R:List Rl}(h:jDw R=0):R.length≤64:=by
 unfold jDw at h
 split at h
 ·cases h
 ·omega
theorem jNP (R:List Rl)(l:List Pc)(vR v:Value)(w:World)(hr:jB5 w vR R)(hz:SzR R)(hv:jBe w v l)(hb:bulk l≤10000)(hT:Tabs w)(hC:jGn jH4 w)(h1:jDw R=0)(h2:jAu l=0) :
 Calls Tryz.prog 36 #[vR,v] w fun e w'=>(∃r,e=.returned (.tuple #[r,.int .u8 0])∧w'.ownsRow w.heap.size 3 1 r (jGN R (jCa l)).length (jDO (jGN R (jCa l))))∧Below w.heap.size w w':=by
 have ab:=Tryz.isAgg133
 have zb:=Tryz.sizeOf133
 have HV:=hid hv
 have HT:=hid hT
 have HC:=hid hC
 have hG:=hT.2.2
 have cR:=jCd R vR w hr hz hT
 unfold jM3 at cR
 rw[h1]at cR
 have cP:=fun w' hp ht=>jB6 l v w' hp (jGc (by omega)) ht
 simp only[h2]at cP
 have cG:=fun w' hp ht hc=>jNA jH4 (fun _ _=>rfl) l v w' hp h2 hb ht hc
 obtain⟨pR,capR,rfl,hlR,hcR,jOP⟩:=hr
 obtain⟨p,cap,rfl,hl,hc,jA4⟩:=hv
 clear jA4 jOP hT hC hz
 unfold maxLen at hc hcR
 have cU:=fun w=>jFO p l.length cap w
 have hnU:(jCa l).length≤10000:=by have h:=jHA l;rw[jLr];unfold jAW;omega
 have jDx:=jCV h2
 have HUO:=hid (jZM (jE3 h2))
 have HOA:=hid (jWa (R:=R) (jE3 h2) (by omega))
 have HRL:=hid (jZT h1)
 have hNs:(jAh l).length≤10000:=Nat.le_trans (jFo l) hb
 refine (callsIn_wide (n:=9)).1 ?_
 refine callsIn_of_wp_marks Tryz.func36 rfl trivial ?_ rfl
 simp only[Tryz.ntmps36,List.size_toArray,List.length_cons,List.length_nil,Nat.reduceAdd,Nat.reduceSub,Array.replicate_succ,Array.replicate_zero,List.push_toArray,List.append_toArray,List.nil_append,List.cons_append]
 gi_wp2
 refine (wpIn_wide (n:=9)).2 (wp_scope_straight ((wpIn_wide (n:=9)).1 ?_))
 gi_wp2_with (first
  | (refine⟨trivial,?_⟩;gi_at_call 75;(with_reducible refine (callsIn_wide.2 cR).mono ?_);rintro e w3 ⟨⟨vr,rfl,_,h3⟩,hb3⟩;obtain⟨us,hm3,ho3⟩:=h3 (by first | trivial | rfl);obtain⟨q3,c3,rfl⟩:=jEb ho3.1;have HM3:=hid hm3;have HO3:=hid (ho3.step (jAb (.cells #[.slice q3 us.length c3] 121)));have H63:=hid (heap_alloc_new w3 (.cells #[.slice q3 us.length c3] 121));have HB3:=hid (jAa hb3 (jAb (.cells #[.slice q3 us.length c3] 121)));clear h3 hb3 hm3 ho3)
  | (refine⟨trivial,?_⟩;gi_at_call 49;(with_reducible refine (callsIn_wide.2 (cP _ (jBe.step HB3.out HV.out) (HT.out.step HB3.out))).mono ?_);rintro e w4 ⟨rfl,hb4⟩;have HO4:=hid (HO3.out.step hb4);have H64:=hid ((hb4.block _ (lt_of_block H63.out)).trans H63.out);have HB4:=hid (jAa HB3.out hb4);clear hb4)
  | (refine⟨trivial,?_⟩;gi_at_call 76;(with_reducible refine (callsIn_wide.2 (cG _ (jBe.step HB4.out HV.out) (HT.out.step HB4.out) (HC.out.below HB4.out (by omega)))).mono ?_);rintro e w5 ⟨⟨r5,rfl,hu5⟩,hb5⟩;obtain⟨qu,cu,rfl,hlu,hcu⟩:=hu5.form;have HU5:=hid hu5;have HO5:=hid (HO4.out.step hb5);have H65:=hid ((hb5.block _ (lt_of_block H64.out)).trans H64.out);have HB5:=hid (jAa HB4.out hb5);clear hb5 hu5)
  | (refine⟨trivial,?_⟩;gi_at_call 77;(with_reducible refine (callsIn_wide.2 (cU _)).mono ?_);rintro e w6 ⟨rfl,rfl⟩))
 refine wpIn_label ?_
 gi_wp2_with (refine⟨trivial,?_⟩;gi_at_call 77;(with_reducible refine (callsIn_wide.2 (cU _)).mono ?_);rintro e w6 ⟨rfl,rfl⟩)
 have h9a:(w5.alloc (.cells #[.slice qu (jCa l).length cu] 124)).heap.size=w5.heap.size+1:=by simp
 have h10a:((w5.alloc (.cells #[.slice qu (jCa l).length cu] 124)).alloc (.cells #[.slice none 0 0] 78)).heap.size=w5.heap.size+2:=by simp
 have hw35:=lt_of_block H65.out
 have hws:w.heap.size≤w5.heap.size:=HB5.out.size
 have hbA:=jAb (w:=w5) (.cells #[.slice qu (jCa l).length cu] 124)
 have hbB:=jAb (w:=w5.alloc (.cells #[.slice qu (jCa l).length cu] 124)) (.cells #[.slice none 0 0] 78)
 have hbC:=jAb (w:=(w5.alloc (.cells #[.slice qu (jCa l).length cu] 124)).alloc (.cells #[.slice none 0 0] 78)) (.cells #[.slice p l.length cap] 39)
 have HBR:=hid (jAa (jAa hbA hbB) hbC)
 have H9:=hid (((jAa hbB hbC).block _ (by rw[h9a];omega)).trans (heap_alloc_new w5 (.cells #[.slice qu (jCa l).length cu] 124)))
 have jY3:=heap_alloc_new (w5.alloc (.cells #[.slice qu (jCa l).length cu] 124)) (.cells #[.slice none 0 0] 78)
 rw[h9a]at jY3
 have H10:=hid ((hbC.block _ (by rw[h10a];omega)).trans jY3)
 have jY4:=heap_alloc_new ((w5.alloc (.cells #[.slice qu (jCa l).length cu] 124)).alloc (.cells #[.slice none 0 0] 78)) (.cells #[.slice p l.length cap] 39)
 rw[h10a]at jY4
 have HX0:=hid jY4
 have hsr:(((w5.alloc (.cells #[.slice qu (jCa l).length cu] 124)).alloc (.cells #[.slice none 0 0] 78)).alloc (.cells #[.slice p l.length cap] 39)).heap.size=w5.heap.size+3:=by simp
 clear hbA hbB hbC jY3 jY4 h9a h10a
 generalize ((w5.alloc (.cells #[.slice qu (jCa l).length cu] 124)).alloc (.cells #[.slice none 0 0] 78)).alloc (.cells #[.slice p l.length cap] 39)=Wr at *
 have HB6:=hid (jAa HB5.out HBR.out)
 have cT:=jNJ jH4 (9-1) (by omega) w.heap.size (w5.heap.size+2) l p cap Wr (fun i hi h=>jHc (jDx i hi) h) (fun i hi=>by have:=jBJ hi;omega) (fun i hi h=>jDL (jDx i hi) h) (by omega) HX0.out (by omega) hG (Utf8Tabs_below HT.out.2.1 HB6.out) (HC.out.below HB6.out (by omega)) (HV.out.below HB6.out)
 have hpl:(placed 0 (jAh l)).length≤10000:=by rw[jCK];exact hNs
 refine jKr (gf:=140) (lb:=#[.pointer (some ⟨w5.heap.size+2,0,none⟩)]) rfl (enters_of Tryz.func140 (by kernel_rfl) rfl)
  cT KpS.t (KpS.b (by omega)) (Below.refl _ _) (fun _=>rfl)
  (fun (pre:List (Nat × (Int × Nat))) W'=>Below w5.heap.size w5 W'∧W'.heap[w5.heap.size]? = some (.cells #[.slice qu (jCa l).length cu] 124 (0,0))∧jJT w5.heap.size (w5.heap.size+1) (jEH R (jCa l) pre) W')
  (fun _ _ _=>False)
  (fun pre X Y row ⟨g1,g2,g3⟩ hg hr=>⟨g1.grown hg g1.size (fun k e=>by have:=(hr k e).1;omega),(hg.block _ (lt_of_block g2) (fun e=>by have:=(hr _ e.symm).1;omega)).trans g2,g3.turned hg hr⟩)
  (fun c pre X Y row h=>h.elim)
  ⟨HBR.out,H9.out,⟨_,H10.out,World.ownsRow_nil _ _ _ _⟩⟩
  (fun y=>{ tmps:=#[.slice pR R.length capR,.slice p l.length cap,undef,undef,.slice none 0 0,.int .u8 0,.pointer (some ⟨w3.heap.size,0,none⟩),.int .u8 0,.int .u8 0,.pointer (some ⟨w5.heap.size,0,none⟩),.pointer (some ⟨w5.heap.size+1,0,none⟩),.int .i64 (jEe y.1:Nat),undef,undef,.tuple #[.slice q3 us.length c3,.int .u8 0],.slice pR R.length capR,.tuple #[.slice q3 us.length c3,.int .u8 0],.slice q3 us.length c3,.int .u8 0,.int .u8 0,.bool false,undef,.slice p l.length cap,.int .u8 0,.int .u8 0,.bool false,undef,.slice p l.length cap,.slice qu (jCa l).length cu,.slice p l.length cap,.func (.func 140) #[] #[.pointer (some ⟨w5.heap.size+2,0,none⟩)],.int .i64 (jEe y.1:Nat),unV y.2,undef,undef,undef,undef,undef,undef,undef,undef,undef,undef,undef,undef,undef,undef,undef,undef,undef,undef,undef,undef,undef],defers:=[] }) ?assign ?body ?done ?stop
 case assign =>
  intro l1 y W K hK
  unfold jVJ
  gi_wp2
  simpa using hK
 case body =>
  rintro lp pre y W' ⟨g1,g2,g3⟩ hlt
  obtain⟨q,hq⟩:∃q,jEe y.1=q:=⟨_,rfl⟩
  have hq9:q≤90000:=hq▸jVl y.1
  have HOU:=hid (hq▸jRI R (jCa l) pre y)
  rw[hq]
  have HO5':=hid (HO5.out.step g1)
  have HU5':=hid (HU5.out.step g1)
  have hs1:=g1.size
  have h6w:=(g1.block _ hw35).trans H65.out
  have c6:W'.cell? ⟨w3.heap.size,0,none⟩=some (.slice q3 us.length c3):=(Lib.cell_of_heap h6w 0).trans rfl
  have c9:W'.cell? ⟨w5.heap.size,0,none⟩=some (.slice qu (jCa l).length cu):=(Lib.cell_of_heap g2 0).trans rfl
  have G1:=hid g1
  have G2:=hid g2
  have G3:=hid g3
  have hw9:=lt_of_block g2
  clear g1 g2 g3 h6w
  by_cases h0:q=0
  ·subst h0
   have HE:=hid (show jEH R (jCa l) (pre++[y])=jEH R (jCa l) pre by rw[HOU.out];simp)
   gi_wp2
   exact⟨KeepsFrom.of_below (Below.refl _ _),(Acc.refl _ _).kp,G1.out,G2.out,HE.out▸G3.out⟩
  ·have hqI:¬(q:Int)=0:=by omega
   have h0q:0<q:=by omega
   have hqb:((q:Int) == 0)=false:=by simpa using h0
   gi_wp2
   try rw[hqb]
   gi_loopw [37] (fun v37 wr=>∃k:Nat,v37=.int .i64 k∧k≤us.length∧Hid (Below W'.heap.size W' wr)∧Hid (jB7 R (jCa l) q=jB7 (R.drop k) (jCa l) q)) (fun v37 _=>us.length-(RowKit.intOf v37).toNat)
   case atStart=>exact⟨0,rfl,Nat.zero_le _,Below.refl _ _,rfl⟩
   case round =>
    obtain⟨k,rfl,hk,HBk,HRk⟩:=hrel
    by_cases jKI:k<us.length
    ·have hki:(k:Int)<(us.length:Int):=by omega
     have hk0:(0:Int)≤(k:Int):=by omega
     have HOk:=hid (HO5'.out.step HBk.out)
     obtain⟨A,cA,eA,hAb,x0,x1,x2,x3,x4⟩:=HOk.out.get jKI
     injection eA with eA1 eA2 eA3
     subst eA1 eA3
     clear eA2
     have hD:=jOA HM3.out jKI (jCa l) q
     have hRL:=jZh HM3.out HRL.out jKI
     have jFu:us.getD k jFN ∈ us:=by rw[List.getD_eq_getElem?_getD,List.getElem?_eq_getElem jKI];exact List.getElem_mem jKI
     have hUM:=HOk.out.2 _ jFu
     have c9k:=((HBk.out.block _ hw9).trans G2.out)
     have c9r:wr.cell? ⟨w5.heap.size,0,none⟩=some (.slice qu (jCa l).length cu):=(Lib.cell_of_heap c9k 0).trans rfl
     generalize us.getD k jFN=u at *
     obtain⟨vb,va,x⟩:=u
     dsimp only at *
     obtain⟨qb,cb,rfl⟩:=hUM.1.form
     obtain⟨qa,ca,rfl⟩:=hUM.2.form
     have hk64:k+1≤64:=by have e1:=congrArg List.length HM3.out;rw[List.length_map]at e1;have e2:=jXa h1;omega
     have hwk:IntKind.i64.wrap ((k:Int)+1)=((k+1:Nat):Int):=by rw[IntKind.wrap_i64];omega
     have h9lt:w5.heap.size<wr.heap.size:=Nat.lt_of_lt_of_le hw9 HBk.out.size
     have hbx:=jAb (w:=wr) (.cells #[(.slice qb (items x.b).length cb),.int .i64 (ftW (items x.b):Nat),(.slice qa (items x.a).length ca),.int .i64 (ftW (items x.a):Nat),.bool x.k] 133)
     have HX:=hid (heap_alloc_new wr (.cells #[(.slice qb (items x.b).length cb),.int .i64 (ftW (items x.b):Nat),(.slice qa (items x.a).length ca),.int .i64 (ftW (items x.a):Nat),.bool x.k] 133))
     have hkk:=Keeps.below (C:=fun _=>True) hbx
     have cF:=jOe (u:=⟨(.slice qb (items x.b).length cb),(.slice qa (items x.a).length ca),x⟩) (L:=jCa l) (v:=.slice qu (jCa l).length cu) (p:=q) hRL ⟨hUM.1.keeps hkk (fun _=>trivial) (fun _=>trivial) (fun _=>trivial),hUM.2.keeps hkk (fun _=>trivial) (fun _=>trivial) (fun _=>trivial)⟩ ((HU5'.out.step HBk.out).step hbx) HUO.out (by omega) hq9
     have HRD:=hid (HRk.out.trans hD)
     clear hkk hUM jFu hRL hD HRk c9k
     cases hz:jJe x (jCa l) q
     ·rw[hz]at cF
      have jY5:=hid (HRD.out.trans (by simp[hz]):jB7 R (jCa l) q=jB7 (R.drop (k+1)) (jCa l) q)
      clear HRD
      gi_wp2_with (refine⟨trivial,?_⟩;gi_at_call 78;(with_reducible refine (CallsIn.inRound lp (callsIn_wide.2 cF)).mono ?_);rintro e w8 ⟨rfl,hb8⟩;have hbb:=jAa hbx hb8;have HB8:=hid (jAa HBk.out hbb);clear hb8 hbb)
      go_roundw
      case rel=>exact⟨k+1,by go_num,by omega,HB8.out,jY5.out⟩
      case measure=>simp[RowKit.intOf];omega
     ·rw[hz]at cF
      have jY5:=hid (HRD.out.trans (show _=x.k by rw[hz];rfl))
      clear HRD
      cases hk2:x.k
      ·rw[hk2]at jY5 cF HX hbx
       have HE:=hid (show jEH R (jCa l) (pre++[y])=jEH R (jCa l) pre by rw[HOU.out,jY5.out];simp)
       gi_wp2_with (refine⟨trivial,?_⟩;gi_at_call 78;(with_reducible refine (CallsIn.inRound lp (callsIn_wide.2 cF)).mono ?_);rintro e w8 ⟨rfl,hb8⟩;have hbb:=jAa hbx hb8;have HB8:=hid (jAa HBk.out hbb);have z4:=(jPk ((hb8.block _ (lt_of_block HX.out)).trans HX.out)).2.2.2.2;clear hb8 hbb)
       exact⟨KeepsFrom.of_below HB8.out,(Acc.step (by omega) HB8.out).kp,G1.out.trans (HB8.out.mono hs1),(HB8.out.block _ hw9).trans G2.out,HE.out▸G3.out.step HB8.out⟩
      ·rw[hk2]at jY5 cF HX hbx
       have HE:=hid (show jEH R (jCa l) (pre++[y])=jEH R (jCa l) pre++[q] by rw[HOU.out,jY5.out];simp[h0q])
       obtain⟨i0,hi0,hz0,hz1,hz2⟩:=jJf
       have hol:(jEH R (jCa l) pre).length≤10000:=Nat.le_trans (jT0 _ _ _) (by omega)
       generalize jEH R (jCa l) pre=O at *
       gi_wp2_with (first
        | (refine⟨trivial,?_⟩;gi_at_call 78;(with_reducible refine (CallsIn.inRound lp (callsIn_wide.2 cF)).mono ?_);rintro e w8 ⟨rfl,hb8⟩;have hbb:=jAa hbx hb8;have HB8:=hid (jAa HBk.out hbb);have z4:=(jPk ((hb8.block _ (lt_of_block HX.out)).trans HX.out)).2.2.2.2;obtain⟨v0,hb0,qAa⟩:=G3.out.step HB8.out;have z5:w8.cell? ⟨w5.heap.size+1,0,none⟩=some v0:=(Lib.cell_of_heap hb0 0).trans rfl;have z6:=Lib.frozen_of_heap hb0 0;have HB0:=hid hb0;have jYK:=hid qAa;have H98:=hid ((HB8.out.block _ hw9).trans G2.out);have hs8:=HB8.out.size;clear hb0 qAa;clear hb8 hbb)
        | (gi_at_builtin;refine wpListIn_append_own _ rfl _ _ 78 rfl w5.heap.size 3 i0 _ 1 8 Tryz.underlying78 hi0 hz0 hz1 hz2 rfl (by decide) _ _ _ rfl (jYK.out.alloc _) ⟨w8.heap.size,0,none⟩ 1 1 [.int .i64 (q:Int)] rfl rfl (cell_one_new _ _ _) (fun u hu=>by simp at hu;rcases hu with rfl;rfl) (by unfold maxLen;omega) (by omega) (by simp;omega) ?_;intro v9 w9 jCy jBL jFS;obtain⟨q9,c9',rfl⟩:=jD4 jCy;have HP:=hid (jJT.put (u:=q) HB0.out jYK.out (by omega) jBL jCy);have hb9:w9.heap[w5.heap.size+1]? = some (.cells #[v0] 78 (0,0)):=(jBL.block _ (Nat.lt_of_lt_of_le (lt_of_block HB0.out) (jAb _).size) (fun e=>jAI (jYK.out) HB0.out (by decide) e.symm)).trans ((Below.heap_alloc _ _ _ (lt_of_block HB0.out)).trans HB0.out);have H99:=hid ((jBL.block w5.heap.size (Nat.lt_of_lt_of_le (lt_of_block H98.out) (jAb _).size) (fun e=>jAI (jYK.out) H98.out (by decide) e.symm)).trans ((Below.heap_alloc _ _ _ (lt_of_block H98.out)).trans H98.out));have l9:w9.cell? ⟨w5.heap.size+1,0,none⟩=some v0:=(Lib.cell_of_heap hb9 0).trans rfl;have m9:=Lib.frozen_of_heap hb9 0;clear jCy jBL jFS hb9))
       exact⟨(KeepsFrom.of_below HB8.out).trans (HP.out.2.from),(KpS.t (Acc.step (by omega) HB8.out).kp ((HP.out.2.low hws).kp)),(G1.out.trans (HB8.out.mono hs1)).trans HP.out.2.bel,(Below.heap_setCell _ _ _ _ (show w5.heap.size≠w5.heap.size+1 by omega)).trans H99.out,HE.out▸HP.out.1⟩
    ·have hki:¬(k:Int)<(us.length:Int):=by omega
     have HE:=hid (show jEH R (jCa l) (pre++[y])=jEH R (jCa l) pre by
      rw[HOU.out,HRk.out,List.drop_of_length_le (by rw[←HM3.out,List.length_map];omega)]
      simp[jB7])
     gi_wp2
     exact⟨KeepsFrom.of_below HBk.out,(Acc.step (by omega) HBk.out).kp,G1.out.trans (HBk.out.mono hs1),(HBk.out.block _ hw9).trans G2.out,HE.out▸G3.out.step HBk.out⟩
 case done =>
  rintro D ys Wd hD rfl ⟨g1,g2,v0,hb0,jAN⟩ hK
  have HK:=hid hK
  have G1:=hid g1
  have hc0:Wd.cell? ⟨w5.heap.size+1,0,none⟩=some v0:=(Lib.cell_of_heap hb0 0).trans rfl
  have jAN:=jAN
  rw[HOA.out]at jAN
  have HO:=hid (jCu jAN hws)
  clear hK g1 g2 hb0 jAN
  gi_wp2
  exact jBE (fun W'=>Below w.heap.size w W'∧W'.ownsRow w.heap.size 3 1 v0 (jGN R (jCa l)).length (jDO (jGN R (jCa l)))) Wr.heap.size (fun W1 D1 h hD1 hk1=>⟨h.1.trans (belowK_b (w:=w) (Nat.le_refl _) W1 D1 _ _ (by omega) hk1 rfl rfl),(Keeps.putObj (C:=fun o=>o.isCells=true) hk1 (by simp[Obj.isCells])).row h.2 (fun _=>rfl)⟩) (fun W1 h=>⟨_,results_tmp2 rfl _ _ _,⟨_,rfl,h.2⟩,h.1⟩) [D] _ ⟨jAa HB5.out G1.out,HO.out⟩ ((jBx.nil _ _).cons hD (by simp) HK.out)
 case stop =>
  rintro D c pre Wd hD jRD h
  exact h.elim
end Go.Proofs.YtldapapdolkiaaaGreatDoor
namespace Go.Proofs.YtldapapdolkiaaaGreatDoor
set_option maxHeartbeats 64000000
open Go Go.RowKit Go.Lib
set_option maxRecDepth 100000
theorem jFf {B:Nat}{v:Value}{us:List Nat}{w:World}(h:w.ownsRow B 3 1 v us.length (jDO us)):jC0 w v (us.map fun p:Nat=>(p:Int)):=by
 have hc:=h
 unfold jC0
 rw[List.length_map]
 rcases h.2 with ⟨rfl,h0⟩ | ⟨g,cap,cur,rfl,hg,hh,hn,hm,_⟩
 ·exact⟨none,0,by rw[h0],by omega,by unfold maxLen;omega,fun h=>by omega⟩
 ·refine⟨some ⟨g,0,none⟩,cap,rfl,hn,hm,fun _=>⟨_,rfl,lt_of_block hh,fun i j hi hj=>?_⟩⟩
  obtain rfl:j=0:=by omega
  refine World.ownsRow.cells hc (g:=g) rfl _ _ ?_
  unfold jDO
  dsimp only
  rw[Nat.mul_one,Nat.add_zero,List.getElem?_map,List.getElem?_eq_getElem hi,List.getD_eq_getElem?_getD,List.getElem?_map,List.getElem?_eq_getElem hi]
  rfl
theorem jQX (R:List Rl)(l:List Pc)(vR v:Value)(w:World)(hr:jB5 w vR R)(hz:SzR R)(hv:jBe w v l)(hb:bulk l≤10000)(hT:Tabs w)(hC:jGn jH4 w) :
 Calls Tryz.prog 36 #[vR,v] w fun e w'=>(∃r,e=.returned (.tuple #[r,.int .u8 (brE R l)])∧jC0 w' r ((brR R l).map fun p:Nat=>(p:Int)))∧Below w.heap.size w w':=by
 by_cases h1:jDw R=0
 ·by_cases h2:jAu l=0
  ·have hE:brE R l=0:=by unfold brE;rw[if_neg (by simp[h1])];exact h2
   refine (jNP R l vR v w hr hz hv hb hT hC h1 h2).mono ?_
   rintro e w' ⟨⟨r,rfl,h⟩,hb⟩
   refine⟨⟨r,by rw[hE],?_⟩,hb⟩
   unfold brR
   rw[if_pos hE]
   exact jFf h
  ·have HE:=hid (show brE R l=jAu l by unfold brE;rw[if_neg (by simp[h1])])
   have HR:=hid (show brR R l=[] by unfold brR;rw[HE.out,if_neg h2])
   have cR:=jCd R vR w hr hz hT
   unfold jM3 at cR
   rw[h1]at cR
   have cP:=fun w' hp ht=>jB6 l v w' hp (jGc (by omega)) ht
   have HV:=hid hv
   have HT:=hid hT
   obtain⟨pR,capR,rfl,hlR,hcR,jOP⟩:=hr
   obtain⟨p,cap,rfl,hl,hc,jA4⟩:=hv
   clear jA4 jOP hT hC hz
   generalize jAu l=Z at *
   have h2':(Z != 0)=true:=by simpa using h2
   go_enter Tryz.func36,Tryz.ntmps36
   go_wp2
   refine wp_scope_straight ?_
   go_wp2_with (first
    | (go_at_call 75;(with_reducible refine cR.mono ?_);rintro e w3 ⟨⟨vr,rfl,⟨q3,m3,c3,rfl⟩,h3⟩,hb3⟩;have HB3:=hid (jAa hb3 (jAb (.cells #[.slice q3 m3 c3] 121)));clear h3 hb3)
    | (go_at_call 49;(with_reducible refine (cP _ (jBe.step HB3.out HV.out) (HT.out.step HB3.out)).mono ?_);rintro e w4 ⟨rfl,hb4⟩;have HB4:=hid (jAa HB3.out hb4);clear hb4))
   try dsimp only[Exit.noGoto]
   go_ret2
   exact⟨⟨_,by rw[HE.out];rfl,by rw[HR.out];exact jFf (B:=0) (us:=[]) (World.ownsRow_nil _ _ _ _)⟩,HB4.out⟩
 ·have HE:=hid (show brE R l=jDw R by unfold brE;rw[if_pos h1])
  have HR:=hid (show brR R l=[] by unfold brR;rw[HE.out,if_neg h1])
  have cR:=jCd R vR w hr hz hT
  unfold jM3 at cR
  obtain⟨pR,capR,rfl,hlR,hcR,jOP⟩:=hr
  obtain⟨p,cap,rfl,hl,hc,jA4⟩:=hv
  clear jA4 jOP hT hC hz
  generalize jDw R=Z at *
  have h1':(Z != 0)=true:=by simpa using h1
  go_enter Tryz.func36,Tryz.ntmps36
  go_wp2
  refine wp_scope_straight ?_
  go_wp2_with (go_at_call 75;(with_reducible refine cR.mono ?_);rintro e w3 ⟨⟨vr,rfl,⟨q3,m3,c3,rfl⟩,h3⟩,hb3⟩;have HB3:=hid (jAa hb3 (jAb (.cells #[.slice q3 m3 c3] 121)));clear h3 hb3)
  try dsimp only[Exit.noGoto]
  go_ret2
  exact⟨⟨_,by rw[HE.out];rfl,by rw[HR.out];exact jFf (B:=0) (us:=[]) (World.ownsRow_nil _ _ _ _)⟩,HB3.out⟩
end Go.Proofs.YtldapapdolkiaaaGreatDoor
