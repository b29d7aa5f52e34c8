/- A range over an iterator that ranges over another one itself: its caller's word is stronger (what is no cells may be turned beyond where the iterator began), and so is what it is told. The units of a list: the program's iterator over them, which ranges over the steps; how many there are. How many units a list has, by the program. Names from the last one to the first: the library's iterator over a stack. Cut by the program, as data: a fold over the steps of a list; it is the specification's. No run of any program here. The memory of Cut, by the program: the places left, the finished parts, the joiner, what is open, each in a block of its own. -/
import Derived.Test.YtldapapdolkiaaaGreatDoorCuA
import Derived.Sort.LoopGhostIn
import Derived.Maps.AppendAt
import Derived.Scope
import Derived.Test.YtldapapdolkiaaaGreatDoorGlC
import Derived.Test.YtldapapdolkiaaaGreatDoorGlD
import Derived.OwnWalkIn
import Derived.OrdersIn
namespace Go.Proofs.YtldapapdolkiaaaGreatDoor
set_option maxHeartbeats 64000000
open Go Go.RowKit Go.Lib
set_option maxRecDepth 100000
def jKN {α:Type}(n:Nat)(P:Program)(g:Nat)(lb:Array Value)(encs:α→Array Value)(Kp:World→World→Prop)(S Sp:List α→Prop)(N:Nat)(w:World):Prop :=
 ∀ (l:Nat) (J Jx:List α→World→Prop) (W:World),Below w.heap.size w W→OwnFrom W.heap.size J→OwnFrom W.heap.size Jx →
  (∀pre x W1,J pre W1→pre.length<N→YieldAt Fence.wide (n-1) P l (encs x) W1 fun e W' =>
    (e=.returned (.bool true)∧J (pre++[x]) W'∧Kp W1 W'∧KeepsFrom W.heap.size W1 W')∨(e=.returned (.bool false)∧Jx (pre++[x]) W'∧KeepsFrom W.heap.size W1 W')) →
  J [] W →
  CallsIn Fence.wide n P g (#[.func (.yield l) #[] #[]]++lb) W fun e W'=>(∃v,e=.returned v)∧((∃xs,S xs∧J xs W')∨(∃pre,Sp pre∧Jx pre W'))
theorem jE2 {X Y:World}{row:Option Nat}{b k:Nat}{o:Obj}(hk:X.heap[k]? = some o)(hlt:k<b)(hg:X.grownBy Y row)(hr:∀r,row=some r→b≤r∧∃q:Obj,X.heap[r]? = some q∧q.isCells=false):Y.heap[k]? = some o :=
 (hg.block k (lt_of_block hk) (fun e=>by have:=(hr k e.symm).1;omega)).trans hk
theorem KeepsFrom.putObj {b l:Nat}{W:World}{o:Obj}(hl:l<b):KeepsFrom b W (W.putObj l o):=⟨by simp,fun k _ hb hk _=>(World.putObj_heap_other (by omega)).trans hk⟩
theorem jKr {α:Type}{n:Nat}{P:Program}{g:Operand}{ps:Array Tmp}{assign body:Code}{Q:Exit→Act→World→Prop}{a:Act}{w:World}
 {gf:Nat} {lb:Array Value} (hg:a.eval g=.func (.func gf) #[] lb) (eg:∀args w,(callFunc gf args).run P w=.ok (.enter gf args) w)
 {encs:α→Array Value} {Kp:World→World→Prop} {S Sp:List α→Prop} {N:Nat} {w0:World} (hseq:jKN (n-1) P gf lb encs Kp S Sp N w0)
 (hKt:∀ {A B C:World},Kp A B→Kp B C→Kp A C) (hKb:∀ (W:World) (l:Nat) (o o':Obj),w.heap.size≤l→W.heap[l]? = some o→o.isCells=false→o.isWalk=false→Kp W (W.putObj l o')) (hb0:Below w0.heap.size w0 w) (hps:∀x,(encs x).size=ps.size)
 (I:List α→World→Prop) (Ix:Code→List α→World→Prop) (hI:OwnFrom w.heap.size I) (hIx:∀c,OwnFrom w.heap.size (Ix c)) (h0:I [] w) (a₁:α→Act)
 (jOO:∀ (l:Nat) (x:α) (W:World) (K:Act→World→Prop),K (a₁ x) W →
   assign.wpIn (Fence.wide.inRound l) (n-1-1) P (Exit.then K (fun _ _ _=>False)) { tmps:=(ps.zip (encs x)).foldl (fun t (p,v)=>t.setIfInBounds p v) a.tmps,defers:=[] } W)
 (jNq:∀ (l:Nat) (pre:List α) (x:α) (W:World),I pre W→pre.length<N→body.wpIn (Fence.wide.inRound l) (n-1-1) P (ownPostG w.heap.size Kp I Ix (pre++[x]) W) (a₁ x) W)
 (jYG:∀ (D:Nat) (xs:List α) (W:World),w.heap.size≤D→S xs→I xs W→W.heap[D]? = some (.deferred (some []))→Q .normal { a with defers:={ target:=.collected D,args:=#[] } :: a.defers } W)
 (jYH:∀ (D:Nat) (c:Code) (pre:List α) (W:World),w.heap.size≤D→Sp pre→Ix c pre W→W.heap[D]? = some (.deferred (some []))→c.wpIn Fence.wide n P Q { a with defers:={ target:=.collected D,args:=#[] } :: a.defers } W) :
 (Code.rangeFunc g ps assign body).wpIn Fence.wide n P Q a w:=by
 refine wpIn_rangeFunc fun fn _=>?_
 obtain⟨rc,hrc⟩:∃rc:LoopState→Option Code→Loop,rc=fun st pe=>{ state:=st,pending:=pe,fn,tmps:=a.tmps,params:=ps,assign,body,defers:=w.heap.size }:=⟨_,rfl⟩
 have hz:(w.alloc (.deferred (some []))).heap.size=w.heap.size+1:=World.size_alloc ..
 obtain⟨V,hV⟩:∃V,V=(w.alloc (.deferred (some []))).alloc (.loop (rc .ready none)):=⟨_,rfl⟩
 have hVs:V.heap.size=w.heap.size+2:=by rw[hV,World.size_alloc,hz]
 have hVl:V.heap[w.heap.size+1]? = some (.loop (rc .ready none)):=by rw[hV,←hz];exact World.alloc_heap_new ..
 have hVd:V.heap[w.heap.size]? = some (.deferred (some [])):=by rw[hV];exact (Below.heap_alloc _ _ _ (by omega)).trans (World.alloc_heap_new w _)
 have hVb:Below w0.heap.size w0 V:=by rw[hV];exact hb0.trans ((((Below.refl _ w).alloc (Nat.le_refl _) _).alloc (by omega) _).mono hb0.size)
 have hVi:I [] V:=by rw[hV];exact hI.alloc _ (hI.alloc _ h0)
 refine⟨w.heap.size+1,[{ target:=.collected w.heap.size,args:=#[] }],V,{ target:=.fn (.func gf) lb,args:=#[.func (.yield (w.heap.size+1)) #[] #[]] },V,gf,
  #[.func (.yield (w.heap.size+1)) #[] #[]]++lb,V,?_,?_,?_,?_,(fun h=>by cases h),?_⟩
 ·rw[hV,hrc];exact run_enterLoop_outer _ _ _ _ _
 ·simp only[resolve,hg]
  simp[go_sem]
 ·exact fun _ _=>trivial
 ·simp[invoke,go_sem,eg]
 ·have low:∀ {X:World} {row:Option Nat},(∀r,row=some r→V.heap.size≤r∧∃q:Obj,X.heap[r]? = some q∧q.isCells=false)→∀r,row=some r→w.heap.size≤r∧∃q:Obj,X.heap[r]? = some q∧q.isCells=false :=
   fun h r e=>⟨by have:=(h r e).1;omega,(h r e).2⟩
  refine (hseq (w.heap.size+1)
   (fun pre W=>I pre W∧W.heap[w.heap.size+1]? = some (.loop (rc .ready none))∧W.heap[w.heap.size]? = some (.deferred (some [])))
   (fun pre W=>∃c,Ix c pre W∧W.heap[w.heap.size+1]? = some (.loop (rc .done (some c)))∧W.heap[w.heap.size]? = some (.deferred (some [])))
   V hVb (fun s X Y row hs hgr hr=>⟨hI s X Y row hs.1 hgr (low hr),jE2 hs.2.1 (by omega) hgr hr,jE2 hs.2.2 (by omega) hgr hr⟩)
   (fun s X Y row ⟨c,h1,h2,h3⟩ hgr hr=>⟨c,hIx c s X Y row h1 hgr (low hr),jE2 h2 (by omega) hgr hr,jE2 h3 (by omega) hgr hr⟩)
   ?_ ⟨hVi,hVl,hVd⟩).mono ?_
  ·rintro pre x W ⟨hi,hl,hd⟩ jBi
   have hy:=run_yield (P:=P) (args:=encs x) hl (by rw[hrc];exact hps x)
   rw[hrc]at hy
   have hlt:=lt_of_block hl
   refine⟨fn,_,assign,body,hy,roundIn_of_wpIn trivial (jOO _ x W _ ?_)⟩
   refine⟨_,run_beginRound hl (by rw[hrc]),?_⟩
   have hl2:(W.putObj (w.heap.size+1) (.loop { rc .ready none with state:=.busy })).heap[w.heap.size+1]? = some (.loop { rc .ready none with state:=.busy }):=World.putObj_heap_same hlt
   have hd2:(W.putObj (w.heap.size+1) (.loop { rc .ready none with state:=.busy })).heap[w.heap.size]? = some (.deferred (some [])):=(World.putObj_heap_other (by omega)).trans hd
   have hk2:Kp W (W.putObj (w.heap.size+1) (.loop { rc .ready none with state:=.busy })):=hKb _ _ _ _ (by omega) hl rfl rfl
   have hf2:KeepsFrom V.heap.size W (W.putObj (w.heap.size+1) (.loop { rc .ready none with state:=.busy })):=KeepsFrom.putObj (by omega)
   refine wpIn_mono (jNq _ pre x _ (hI.putObj _ hi (by omega) hl rfl) jBi) ?_
   have fin:∀ (jump:Option Code) (W3:World),KeepsFrom w.heap.size (W.putObj (w.heap.size+1) (.loop { rc .ready none with state:=.busy })) W3 →
    ∃W4,(Instr.endRound (w.heap.size+1) jump).run P W3=.ok (.bool jump.isNone) W4∧W4=W3.putObj (w.heap.size+1) (.loop (rc (if jump.isNone then .ready else .done) jump))∧(∃o,W3.heap[w.heap.size+1]? = some o∧o.isCells=false∧o.isWalk=false) ∧
    W4.heap[w.heap.size+1]? = some (.loop (rc (if jump.isNone then .ready else .done) jump))∧W4.heap[w.heap.size]? = some (.deferred (some []))∧KeepsFrom V.heap.size W W4:=fun jump W3 hk3=>by
    have hl3:=hk3.same _ _ (by omega) hl2 rfl
    have hr3:=run_endRound (P:=P) jump hl3
    rw[hrc]at hr3
    refine⟨_,by rw[hrc];exact hr3,rfl,⟨_,hl3,rfl,rfl⟩,World.putObj_heap_same (lt_of_block hl3),(World.putObj_heap_other (by omega)).trans (hk3.same _ _ (Nat.le_refl _) hd2 rfl),(hf2.trans ?_).trans (KeepsFrom.putObj (by omega))⟩
    exact⟨hk3.size,fun k o hk ho hc=>hk3.same k o (by omega) ho hc⟩
   rintro e a3 W3 hp
   cases e with
   | normal =>
     obtain⟨hk3,qAO,hi3⟩:=hp
     obtain⟨W4,hr,rfl,⟨o,ho,hc,hw⟩,hl4,hd4,hf4⟩:=fin none W3 hk3
     exact⟨_,_,hr,.inl ⟨rfl,⟨hI.putObj _ hi3 (by omega) ho hc,hl4,hd4⟩,hKt (hKt hk2 qAO) (hKb _ _ _ _ (by omega) ho hc hw),hf4⟩⟩
   | ret =>
     obtain⟨hk3,hi3⟩:=hp
     obtain⟨W4,hr,rfl,⟨o,ho,hc,hw⟩,hl4,hd4,hf4⟩:=fin (some .ret) W3 hk3
     exact⟨_,_,hr,.inr ⟨rfl,⟨.ret,(hIx _).putObj _ hi3 (by omega) ho hc,hl4,hd4⟩,hf4⟩⟩
   | exit id =>
     obtain⟨hk3,hi3⟩:=hp
     obtain⟨W4,hr,rfl,⟨o,ho,hc,hw⟩,hl4,hd4,hf4⟩:=fin (some (.exit id)) W3 hk3
     exact⟨_,_,hr,.inr ⟨rfl,⟨.exit id,(hIx _).putObj _ hi3 (by omega) ho hc,hl4,hd4⟩,hf4⟩⟩
   | goto t =>
     obtain⟨hk3,hi3⟩:=hp
     obtain⟨W4,hr,rfl,⟨o,ho,hc,hw⟩,hl4,hd4,hf4⟩:=fin (some (.goto t)) W3 hk3
     exact⟨_,_,hr,.inr ⟨rfl,⟨.goto t,(hIx _).putObj _ hi3 (by omega) ho hc,hl4,hd4⟩,hf4⟩⟩
   | panic ch=>exact hp.elim
   | outgrown=>exact hp.elim
  ·rintro e W2 ⟨⟨v,rfl⟩,(⟨xs,hS,hi,hl,hd⟩ | ⟨pre,hSp,c,hi,hl,hd⟩)⟩
   ·exact⟨none,_,by have:=run_endLoop (P:=P) hl (by rw[hrc];simp);rw[hrc]at this;exact this,jYG _ xs _ (Nat.le_refl _) hS (hI.putObj _ hi (by omega) hl rfl) ((World.putObj_heap_other (by omega)).trans hd)⟩
   ·exact⟨some c,_,by have:=run_endLoop (P:=P) hl (by rw[hrc];simp);rw[hrc]at this;exact this,jYH _ c pre _ (Nat.le_refl _) hSp ((hIx c).putObj _ hi (by omega) hl rfl) ((World.putObj_heap_other (by omega)).trans hd)⟩
end Go.Proofs.YtldapapdolkiaaaGreatDoor
namespace Go.Proofs.YtldapapdolkiaaaGreatDoor
set_option maxHeartbeats 64000000
open Go Go.RowKit Go.Lib
set_option maxRecDepth 100000
attribute [local go_sem] Oper.semAt_some
def jCl (x:Pc):Bool:=decide (x.k=2) || decide (x.k=3) || decide (x.k=4)
theorem jMQ (x:Pc)(w:World):Calls Tryz.prog 121 #[pcV x] w fun e w'=>e=.returned (.bool (jCl x))∧Below w.heap.size w w':=by
 obtain⟨k,s,c⟩:=x
 unfold jCl pcV
 have ag:=Tryz.isAgg76
 have zg:=Tryz.sizeOf76
 by_cases h2:k=2 <;> by_cases h3:k=3 <;> by_cases h4:k=4
 all_goals first
 | (exfalso;omega)
 | (go_enter Tryz.func121,Tryz.ntmps121
    go_wp2
    go_ret
    exact⟨jAc (by simp[h2,h3,h4]),jAb _⟩)
def jGn (f:Nat→Int)(w:World):Prop:=∀c,c<128→w.cell? ⟨1,c,none⟩=some (.int .u8 (f c))
theorem jGn.below {f:Nat→Int}{B:Nat}{w w':World}(h:jGn f w)(hb:Below B w w')(hB:1<B):jGn f w':=fun c hc=>by
 rw[hb.cell (p:=⟨1,c,none⟩) hB];exact h c hc
def jRx (f:Nat→Int)(r:Nat):Int:=if 127<r then 1 else f r
theorem jHJ (f:Nat→Int)(r:Nat)(w:World)(hC:jGn f w) :
 Calls Tryz.prog 128 #[.int .i32 (r:Int)] w fun e w'=>e=.returned (.int .u8 (jRx f r))∧w'=w:=by
 by_cases h:127<r
 ·have hI:(127:Int)<(r:Int):=by omega
  have hc:jRx f r=1:=if_pos h
  have HC:=hid hc;clear hc
  go_enter Tryz.func128,Tryz.ntmps128
  go_wp2
  go_ret
  exact⟨jAQ HC.out.symm,rfl⟩
 ·have hI:¬(127:Int)<(r:Int):=by omega
  have h1:=hC r (by omega)
  have hc:jRx f r=f r:=if_neg h
  rw[hc]
  generalize f r=z at h1
  clear hC
  go_enter Tryz.func128,Tryz.ntmps128
  go_wp2
  go_ret
  exact⟨rfl,rfl⟩
def uOf (f:Nat→Int)(x:Pc):Int × Nat:=if x.k=1 then (jRx f (Lib.decodeGo x.s).1,(Lib.decodeGo x.s).1) else (5,0)
def unV (u:Int × Nat):Value:=.agg #[.int .u8 u.1,.int .i32 (u.2:Int)]
def jZu (u:Nat × (Int × Nat)):Array Value:=#[.int .i64 (u.1:Int),unV u.2]
def jJL (f:Nat→Int)(y:Nat × Pc):List (Nat × (Int × Nat)):=if jCl (clip y.2)=true then [] else [(y.1,uOf f (clip y.2))]
def jAV (f:Nat→Int)(S:List (Nat × Pc)):List (Nat × (Int × Nat)):=S.flatMap (jJL f)
theorem jKG (f:Nat→Int)(S:List (Nat × Pc))(y:Nat × Pc):jAV f (S++[y])=jAV f S++jJL f y:=by unfold jAV;simp
theorem jG7 (f:Nat→Int):∀S:List (Nat × Pc),(jAV f S).length≤S.length
 | []=>Nat.le_refl _
 | y :: S=>by
   have h:=jG7 f S
   unfold jAV at h ⊢
   rw[List.flatMap_cons,List.length_append,List.length_cons]
   have h1:(jJL f y).length≤1:=by unfold jJL;split <;> simp
   omega
theorem jKB (f:Nat→Int){A S:List (Nat × Pc)}(h:A <+: S):jAV f A <+: jAV f S:=by
 obtain⟨R,rfl⟩:=h
 unfold jAV
 rw[List.flatMap_append]
 exact List.prefix_append _ _
theorem jEk {n m l l':Nat}{P:Program}{f:FuncId}{tmps:Array Value}{assign body:Code}{w:World}{R:Ending→World→Prop}(h:RoundIn Fence.wide n P l f tmps assign body w R):RoundIn (Fence.wide.inRound l') m P l f tmps assign body w R :=
 ⟨trivial,fun c cs _=>h.2 c cs (room_wide _)⟩
def jWN (D:Nat):Deferred:={ target:=.collected D,args:=#[] }
def jBx (B:Nat)(Ds:List Nat)(W:World):Prop:=Ds.Nodup∧∀D ∈ Ds,B≤D∧W.heap[D]? = some (.deferred (some []))
theorem jBx.nil (B:Nat)(W:World):jBx B [] W:=⟨List.nodup_nil,fun _ h=>by cases h⟩
theorem jBx.cons {B D:Nat}{Ds:List Nat}{W:World}(h:jBx B Ds W)(hD:B≤D)(hn:D ∉ Ds)(hW:W.heap[D]? = some (.deferred (some []))):jBx B (D :: Ds) W :=
 ⟨List.nodup_cons.2 ⟨hn,h.1⟩,fun E hE=>(List.mem_cons.1 hE).elim (fun e=>e▸⟨hD,hW⟩) (h.2 E)⟩
theorem jBx.step {B:Nat}{Ds:List Nat}{W W':World}(h:jBx B Ds W)(hb:Below W.heap.size W W'):jBx B Ds W' :=
 ⟨h.1,fun D hD=>⟨(h.2 D hD).1,(hb.block D (lt_of_block (h.2 D hD).2)).trans (h.2 D hD).2⟩⟩
theorem jBx.others {B:Nat}{Ds:List Nat}{W W':World}(h:jBx B Ds W)(hb:KeepsOthers W W'):jBx B Ds W' :=
 ⟨h.1,fun D hD=>⟨(h.2 D hD).1,hb.same D _ (h.2 D hD).2 rfl⟩⟩
theorem jBx.lt {B:Nat}{Ds:List Nat}{W:World}(h:jBx B Ds W):∀D ∈ Ds,D<W.heap.size:=fun D hD=>lt_of_block (h.2 D hD).2
theorem jBE {P:Program}{n:Nat}{fn:Func}{tmps:Array Value}{R:Ending→World→Prop}(I:World→Prop)(B:Nat)(hI:∀W D,I W→B≤D→W.heap[D]? = some (.deferred (some []))→I (W.putObj D (.deferred none)))
  (hR:∀W,I W→LeavesIn Fence.wide n P fn tmps R [] .returning W):∀ (Ds:List Nat) (W:World),I W→jBx B Ds W→LeavesInM Fence.wide n P fn tmps R (Ds.map jWN) .returning W
 | [],W,hi,_=>hR W hi
 | D :: Ds,W,hi,hm=>by
   obtain⟨h1,h2⟩:=hm.2 D (List.mem_cons_self ..)
   refine⟨by simp,.inl ⟨D,W.putObj D (.deferred none),rfl,run_takeDeferred h2,?_⟩⟩
   refine jBE I B hI hR Ds _ (hI W D hi h1 h2) ⟨(List.nodup_cons.1 hm.1).2,fun E hE=>?_⟩
   obtain⟨k1,k2⟩:=hm.2 E (List.mem_cons_of_mem _ hE)
   refine⟨k1,(World.putObj_heap_other ?_).trans k2⟩
   rintro rfl
   exact (List.nodup_cons.1 hm.1).1 hE
theorem KeepsFrom.of_below {b:Nat}{W W':World}(hb:Below W.heap.size W W'):KeepsFrom b W W':=⟨hb.size,fun k _ _ hk _=>(hb.block k (lt_of_block hk)).trans hk⟩
theorem jCk {b b':Nat}{W W':World}(h:KeepsFrom b W W')(hb:b≤b'):KeepsFrom b' W W':=⟨h.size,fun k o hk ho hc=>h.same k o (by omega) ho hc⟩
theorem jCq {α:Type}{J:List α→World→Prop}{base:Nat}(hJ:OwnFrom base J){pre:List α}{X Y:World}(h:J pre X)(hb:Below X.heap.size X Y):J pre Y :=
 hJ pre X Y none h (grownBy_below (show X.grownBy X none from ⟨rfl,rfl,rfl,Nat.le_refl _,fun _ _ _=>rfl⟩) hb) (fun r e=>by cases e)
theorem jFO (p:Option Addr)(n c:Nat)(w:World):Calls Tryz.prog 77 #[.slice p n c] w fun e w'=>e=.returned (.func (.func 140) #[] #[.pointer (some ⟨w.heap.size,0,none⟩)])∧w'=w.alloc (.cells #[.slice p n c] 39):=by
 go_enter Tryz.func77,Tryz.ntmps77
 go_wp2
 go_ret
 exact⟨rfl,rfl⟩
theorem jJ8 (f:Nat→Int)(n:Nat)(hn:5≤n)(B Bn:Nat)(l:List Pc)(p:Option Addr)(cap:Nat)(w:World)
 (jDx:∀i,i<l.length→(l.getD i nil).k=1→jBK (l.getD i nil).s=true) (hsz:∀i,i<l.length→(l.getD i nil).s.size≤1000000) (hnm:∀i,i<l.length→(l.getD i nil).k≠1→(l.getD i nil).s.size≤16) (hN:(jAh l).length≤1000000)
 (hBx:w.heap[Bn]? = some (.cells #[.slice p l.length cap] 39 (0,0))) (hBW:B≤w.heap.size) (hGB:5≤B) (hT:Lib.Utf8Tabs 2 3 w) (hC:jGn f w) (hv:jAO B w (.slice p l.length cap) l.length 3 (pcF l)) :
 jKN n Tryz.prog 140 #[.pointer (some ⟨Bn,0,none⟩)] jZu (KpS B) (fun ys=>ys=jAV f (placed 0 (jAh l))) (fun pre=>pre <+: jAV f (placed 0 (jAh l))) (placed 0 (jAh l)).length w:=by
 intro lb J Jx W hW hJ hJx hY h0
 have hBx:=(hW.block _ (lt_of_block hBx)).trans hBx
 have hBW:=Nat.le_trans hBW hW.size
 have hT:=Utf8Tabs_below hT hW
 have hC:=hC.below hW (by omega)
 have hv:=hv.below (hW.mono (by omega))
 have c0:W.cell? ⟨Bn,0,none⟩=some (.slice p l.length cap):=(Lib.cell_of_heap hBx 0).trans rfl
 have hbn:Bn<W.heap.size:=lt_of_block hBx
 have hn1:1≤n:=by omega
 have cS:=fun w=>jIw p l.length cap w
 have ag:=Tryz.isAgg76
 have zg:=Tryz.sizeOf76
 refine callsIn_of_wp_marks Tryz.func140 rfl trivial ?_ rfl
 simp only[Tryz.ntmps140,List.size_toArray,List.length_cons,List.length_nil,Nat.reduceAdd,Nat.reduceSub,Array.replicate_succ,Array.replicate_zero,List.push_toArray,List.append_toArray,List.nil_append,List.cons_append]
 gi_wp2_with (refine⟨trivial,?_⟩;gi_at_call 81;(with_reducible refine (callsIn_wide.2 (cS _)).mono ?_);rintro e w3 ⟨rfl,rfl⟩)
 have hs0:((W.alloc (.cells #[.func (.yield lb) #[] #[]] 199)).alloc (.cells #[.slice p l.length cap] 39)).heap.size=W.heap.size+2:=by simp
 have HF0:=hid (show ((W.alloc (.cells #[.func (.yield lb) #[] #[]] 199)).alloc (.cells #[.slice p l.length cap] 39)).heap[W.heap.size]? = some (.cells #[.func (.yield lb) #[] #[]] 199 (0,0)) by rw[Below.heap_alloc _ _ _ (by simp)];exact heap_alloc_new W _)
 have HX0:=hid (show ((W.alloc (.cells #[.func (.yield lb) #[] #[]] 199)).alloc (.cells #[.slice p l.length cap] 39)).heap[W.heap.size+1]? = some (.cells #[.slice p l.length cap] 39 (0,0)) by
  have:=heap_alloc_new (W.alloc (.cells #[.func (.yield lb) #[] #[]] 199)) (.cells #[.slice p l.length cap] 39)
  rwa [show (W.alloc (.cells #[.func (.yield lb) #[] #[]] 199)).heap.size=W.heap.size+1 by simp]at this)
 have HB0:=hid (jAa (jAb (w:=W) (.cells #[.func (.yield lb) #[] #[]] 199)) (jAb (w:=W.alloc (.cells #[.func (.yield lb) #[] #[]] 199)) (.cells #[.slice p l.length cap] 39)))
 have HJ0:=hid (jCq hJ h0 HB0.out)
 generalize (W.alloc (.cells #[.func (.yield lb) #[] #[]] 199)).alloc (.cells #[.slice p l.length cap] 39)=Wr at *
 have cT:=jJm (n-1) (by omega) B (W.heap.size+1) l p cap Wr jDx hsz hnm hN HX0.out (by omega) hGB (Utf8Tabs_below hT HB0.out) (hv.below (HB0.out.mono hBW))
 refine wpIn_rangeFunc_ownH rfl (by omega) (gf:=143) (lb:=#[.pointer (some ⟨W.heap.size+1,0,none⟩)]) rfl trivial (enters_of Tryz.func143 (by kernel_rfl) rfl)
  cT KpS.t (KpS.b (by omega)) (Below.refl _ _) (fun _=>rfl)
  (fun pre W'=>J (jAV f pre) W'∧Below B W W'∧W'.heap[W.heap.size]? = some (.cells #[.func (.yield lb) #[] #[]] 199 (0,0)))
  (fun c pre W'=>c=.ret∧Jx (jAV f pre) W')
  (fun pre X Y row ⟨h1,h2,h3⟩ hg hr=>⟨hJ _ X Y row h1 hg (fun r e=>⟨by have:=(hr r e).1;omega,(hr r e).2⟩),h2.grown hg (Nat.le_trans hBW (by have:=lt_of_block h3;omega)) (fun k e=>by have:=(hr k e).1;omega),(hg.block _ (lt_of_block h3) (fun e=>by have:=(hr _ e.symm).1;omega)).trans h3⟩)
  (fun c pre X Y row ⟨h1,h2⟩ hg hr=>⟨h1,hJx _ X Y row h2 hg (fun r e=>⟨by have:=(hr r e).1;omega,(hr r e).2⟩)⟩)
  ⟨HJ0.out,HB0.out.mono hBW,HF0.out⟩
  (fun y a' W'=>(∃b4:Nat,a'={ tmps:=#[.func (.yield lb) #[] #[],.pointer (some ⟨Bn,0,none⟩),.pointer (some ⟨W.heap.size,0,none⟩),.int .i64 (y.1:Int),.pointer (some ⟨b4,0,none⟩),undef,undef,undef,.slice p l.length cap,.func (.func 143) #[] #[.pointer (some ⟨W.heap.size+1,0,none⟩)],.int .i64 (y.1:Int),pcV (clip y.2),undef,undef,undef,undef,undef,undef,undef,undef,undef,undef,undef,undef,undef,undef,undef,undef,undef,undef,undef,undef,undef],defers:=[] }∧W'.heap[b4]? = some (pcC (clip y.2))))
  (fun y a' _ X Y row ⟨b4,h1,h2⟩ hg hr=>⟨b4,h1,(hg.block _ (lt_of_block h2) (fun e=>by obtain⟨o,ho,hc⟩:=(hr _ e.symm).2;rw[h2]at ho;cases ho;cases hc)).trans h2⟩)
  ?assign ?body ?done ?stop
 case assign =>
  rintro l1 pre y W1 K ⟨h1,h2,h3⟩ hK
  have HK:=hid hK
  have HB1:=hid (jAb (w:=W1) (pcC (clip y.2)))
  have HN1:=hid (heap_alloc_new W1 (pcC (clip y.2)))
  have HI1:=hid (jCq hJ h1 HB1.out)
  have hs1:=h2.size
  have hl3:=lt_of_block h3
  have HF1:=hid ((HB1.out.block _ hl3).trans h3)
  have HL1:=hid (h2.trans (HB1.out.mono (by omega)))
  clear hK h1 h2 h3
  unfold jYY
  generalize clip y.2=q at *
  obtain⟨k,s,c⟩:=q
  unfold pcC at HB1 HN1 HI1 HF1 HL1
  unfold pcV
  gi_wp2
  exact HK.out _ _ (KeepsFrom.of_below HB1.out) (KpS.of_below (by omega) HB1.out) ⟨HI1.out,HL1.out,HF1.out⟩ ⟨_,rfl,HN1.out⟩
 case body =>
  rintro lp pre y a' W1 hlp ⟨r0,hr0⟩ ⟨h1,h2,h3⟩ ⟨b4,rfl,h4⟩ hlt
  have HY:=hid hY
  have HC1:=hid (hC.below h2 (by omega))
  have HT1:=hid (jCt hT (B:=B) (by omega) (by omega) h2)
  have HJ1:=hid h1
  have HF1:=hid h3
  have hf1:W1.cell? ⟨W.heap.size,0,none⟩=some (.func (.yield lb) #[] #[]):=(Lib.cell_of_heap h3 0).trans rfl
  have hl3:=lt_of_block h3
  have jYF:=h2.size
  have HU:=hid (jKG f pre y)
  have HLT:=hid (Nat.lt_of_le_of_lt (jG7 f pre) hlt)
  have HL1:=hid h2
  have HJW:=hid hJ
  have cI:=jMQ (clip y.2) W1
  have hb4:=lt_of_block h4
  have hn2:1≤n-1:=by omega
  have hn3:1≤n-1-1:=by omega
  have hn4:1≤n-1-1-1:=by omega
  obtain⟨z0,z1,z2⟩:=jCF h4
  have H4:=hid h4
  clear hY hC hT h1 h2 h3 h0 hJ hJx cT hr0 HJ0 HB0 HF0 HX0 hlt h4
  unfold jJL at HU
  generalize clip y.2=q at *
  by_cases ht:jCl q=true
  ·have HU1:=hid (show jAV f (pre++[y])=jAV f pre by rw[HU.out,if_pos ht,List.append_nil])
   rw[ht]at cI
   clear HU
   obtain⟨k,s,c⟩:=q
   unfold pcV at cI ⊢
   dsimp only at z0 z1 z2 cI
   gi_wp2_with (refine⟨trivial,?_⟩;gi_at_call 121;(with_reducible refine (CallsIn.inRound lp (callsIn_wide.2 cI)).mono ?_);rintro e w2 ⟨rfl,hb2⟩;have HB2:=hid hb2;clear hb2)
   exact⟨KeepsFrom.of_below HB2.out,KpS.of_below (by omega) HB2.out,by rw[HU1.out];exact jCq HJW.out HJ1.out HB2.out,HL1.out.trans (HB2.out.mono (by omega)),(HB2.out.block _ hl3).trans HF1.out⟩
  ·have HU1:=hid (show jAV f (pre++[y])=jAV f pre++[(y.1,uOf f q)] by rw[HU.out,if_neg ht])
   have htf:jCl q=false:=by simpa using ht
   rw[htf]at cI
   clear HU ht htf
   obtain⟨k,s,c⟩:=q
   unfold pcV at cI ⊢
   dsimp only at z0 z1 z2 cI
   have au:=Tryz.isAgg198
   have zu:=Tryz.sizeOf198
   by_cases hk:k=1
   ·subst hk
    have cD:=fun w' (hb:Below W1.heap.size W1 w')=>utf8_DecodeRuneInString s w' (Utf8Tabs_below HT1.out hb)
    have HUO:=hid (show uOf f ⟨1,s,c⟩=(jRx f (Lib.decodeGo s).1,(Lib.decodeGo s).1) from if_pos rfl)
    rw[HUO.out]at HU1
    clear HUO
    generalize (Lib.decodeGo s).1=r at *
    generalize (Lib.decodeGo s).2=d at *
    gi_wp2_with (first
     | (refine⟨trivial,?_⟩;gi_at_call 121;(with_reducible refine (CallsIn.inRound lp (callsIn_wide.2 cI)).mono ?_);rintro e w2 ⟨rfl,hb2⟩;have HB2:=hid hb2;have y0:=(hb2.cell (p:=⟨b4,0,none⟩) hb4).trans z0;have y1:=(hb2.cell (p:=⟨b4,1,none⟩) hb4).trans z1;have qAP:=Nat.lt_of_lt_of_le hb4 hb2.size;have jYI:=Nat.lt_of_lt_of_le hl3 hb2.size;have hs2:=hb2.size;have HBX:=hid (jAa hb2 (jAb (w:=w2) (.cells #[.int .u8 5,.int .i32 0] 198)));have HNX:=hid (heap_alloc_new w2 (.cells #[.int .u8 5,.int .i32 0] 198));clear hb2)
     | (refine⟨trivial,?_⟩;gi_at_call 141;(with_reducible refine (CallsIn.inRound lp (callsIn_wide.2 (cD _ HBX.out))).mono ?_);rintro e w4 ⟨rfl,hb4'⟩;have hu4:=(hb4'.block _ (lt_of_block HNX.out)).trans HNX.out;have d0:=(Lib.cell_of_heap hu4 0).trans rfl;have d1:=(Lib.cell_of_heap hu4 1).trans rfl;have f0:=Lib.frozen_of_heap hu4 0;have f1:=Lib.frozen_of_heap hu4 1;have HB4:=hid (jAa HBX.out hb4');have cK:=jHJ f r w4 (HC1.out.below HB4.out (by omega));have hf4:=(HB4.out.cell (p:=⟨W.heap.size,0,none⟩) hl3).trans hf1;have hs4:=HB4.out.size;have HB5:=hid ((HB4.out.setCell (p:=⟨w2.heap.size,0,none⟩) hs2 (.int .u8 (jRx f r))).setCell (p:=⟨w2.heap.size,1,none⟩) hs2 (.int .i32 (r:Int)));have HJ5:=hid (jCq HJW.out HJ1.out HB5.out);obtain⟨fn,tmps,assign,body,hy,hR⟩:=HY.out (jAV f pre) (y.1,(jRx f r,r)) _ HJ5.out HLT.out;unfold jZu unV at hy;dsimp only at hy;clear hb4')
     | (refine⟨trivial,?_⟩;gi_at_call 128;(with_reducible refine (CallsIn.inRound lp (callsIn_wide.2 cK)).mono ?_);rintro e w5 ⟨rfl,rfl⟩))
    refine (jEk hR).mono ?_
    rintro e W3 (⟨rfl,hJ3,hk3,hf3⟩ | ⟨rfl,jJY,hf3⟩)
    ·have H3:=hid (And.intro hJ3 (And.intro hk3 hf3))
     clear hJ3 hk3 hf3 hR
     gi_wp2
     exact⟨(KeepsFrom.of_below HB5.out).trans (jCk H3.out.2.2 (by omega)),(KpS.of_below (by omega) HB5.out).t H3.out.2.1,by rw[HU1.out];exact H3.out.1,HL1.out.trans ((HB5.out.mono (by omega)).trans H3.out.2.1.1),H3.out.2.1.2.2.same _ _ ((HB5.out.block _ hl3).trans HF1.out) (.inr rfl)⟩
    ·have H3:=hid (And.intro jJY hf3)
     clear jJY hf3 hR
     gi_wp2
     exact⟨(KeepsFrom.of_below HB5.out).trans (jCk H3.out.2 (by omega)),rfl,by rw[HU1.out];exact H3.out.1⟩
   ·have hkb:(k == 1)=false:=beq_eq_false_iff_ne.2 hk
    have HUO:=hid (show uOf f ⟨k,s,c⟩=(5,0) from if_neg hk)
    rw[HUO.out]at HU1
    clear HUO
    gi_wp2_with (refine⟨trivial,?_⟩;gi_at_call 121;(with_reducible refine (CallsIn.inRound lp (callsIn_wide.2 cI)).mono ?_);rintro e w2 ⟨rfl,hb2⟩;have HB2:=hid hb2;have hf2:=(hb2.cell (p:=⟨W.heap.size,0,none⟩) hl3).trans hf1;have y0:=(hb2.cell (p:=⟨b4,0,none⟩) hb4).trans z0;have qAP:=Nat.lt_of_lt_of_le hb4 hb2.size;have jYI:=Nat.lt_of_lt_of_le hl3 hb2.size;have HBX:=hid (jAa hb2 (jAb (w:=w2) (.cells #[.int .u8 5,.int .i32 0] 198)));have HJX:=hid (jCq HJW.out HJ1.out HBX.out);obtain⟨fn,tmps,assign,body,hy,hR⟩:=HY.out (jAV f pre) (y.1,(5,0)) _ HJX.out HLT.out;unfold jZu unV at hy;dsimp only at hy;rw[show ((0:Nat):Int)=0 from rfl]at hy;clear hb2)
    refine (jEk hR).mono ?_
    rintro e W3 (⟨rfl,hJ3,hk3,hf3⟩ | ⟨rfl,jJY,hf3⟩)
    ·have H3:=hid (And.intro hJ3 (And.intro hk3 hf3))
     clear hJ3 hk3 hf3 hR
     gi_wp2
     exact⟨(KeepsFrom.of_below HBX.out).trans (jCk H3.out.2.2 (by omega)),(KpS.of_below (by omega) HBX.out).t H3.out.2.1,by rw[HU1.out];exact H3.out.1,HL1.out.trans ((HBX.out.mono (by omega)).trans H3.out.2.1.1),H3.out.2.1.2.2.same _ _ ((HBX.out.block _ hl3).trans HF1.out) (.inr rfl)⟩
    ·have H3:=hid (And.intro jJY hf3)
     clear jJY hf3 hR
     gi_wp2
     exact⟨(KeepsFrom.of_below HBX.out).trans (jCk H3.out.2 (by omega)),rfl,by rw[HU1.out];exact H3.out.1⟩
 case done =>
  rintro D ys Wd hD rfl ⟨h1,h2,h3⟩ hK
  have HK:=hid hK
  have H1:=hid h1
  have HJ:=hid hJ
  clear hK h1 hJ hJx hY
  gi_wp2
  exact jBE (fun W'=>J (jAV f (placed 0 (jAh l))) W') Wr.heap.size (fun W1 D1 h hD1 hk1=>HJ.out.putObj _ h (by omega) hk1 rfl) (fun W1 h=>⟨_,results_none rfl _ _ _,⟨_,rfl⟩,.inl ⟨_,rfl,h⟩⟩) [D] _ H1.out ((jBx.nil _ _).cons hD (by simp) HK.out)
 case stop =>
  rintro D c pre Wd hD jRD ⟨rfl,h1⟩ hK
  have HK:=hid hK
  have H1:=hid h1
  have HJ:=hid hJx
  clear hK h1 hJ hJx hY
  gi_wp2
  exact jBE (fun W'=>Jx (jAV f pre) W') Wr.heap.size (fun W1 D1 h hD1 hk1=>HJ.out.putObj _ h (by omega) hk1 rfl) (fun W1 h=>⟨_,results_none rfl _ _ _,⟨_,rfl⟩,.inr ⟨_,jKB f jRD,h⟩⟩) [D] _ H1.out ((jBx.nil _ _).cons hD (by simp) HK.out)
end Go.Proofs.YtldapapdolkiaaaGreatDoor
namespace Go.Proofs.YtldapapdolkiaaaGreatDoor
set_option maxHeartbeats 64000000
open Go Go.RowKit Go.Lib
set_option maxRecDepth 100000
attribute [local go_sem] Oper.semAt_some
theorem jWR (f:Nat→Int):∀ (S:List Pc) (p:Nat),(jAV f (placed p S)).length=(S.map fun x=>if jCl (clip x)=true then 0 else 1).sum
 | [],p=>rfl
 | x :: S,p=>by
   have h:=jWR f S (jBM p x)
   unfold jAV at h ⊢
   simp only[placed,List.flatMap_cons,List.length_append,List.map_cons,List.sum_cons,h]
   congr 1
   unfold jJL
   split <;> simp
theorem jOS:∀rs:List Nat,((rs.map jFp).map fun x=>if jCl (clip x)=true then 0 else 1).sum=rs.length
 | []=>rfl
 | r :: rs=>by
   rw[List.map_cons,List.map_cons,List.sum_cons,jOS rs,List.length_cons]
   have:jCl (clip (jFp r))=false:=by
    have h4:=jD9 (r:Int)
    have h5:clip (jFp r)=jFp r:=jEi (by unfold jFp;dsimp only;omega)
    rw[h5]
    unfold jCl jFp
    simp
   rw[this]
   simp
   omega
theorem jDL {x:Pc}(h:jA8 x=0)(hk:x.k≠1):x.s.size≤16:=by
 unfold jA8 at h
 rw[if_neg hk]at h
 split at h
 ·cases h
 ·split at h
  ·cases h
  ·split at h
   ·rename_i h2
    unfold jDi at h2
    simp only[Bool.and_eq_true,decide_eq_true_eq]at h2
    exact h2.1.1.2
   ·cases h
theorem jNE {x:Pc}(h:jA8 x=0):x.k=1∨x.k=2∨x.k=3∨x.k=4∨x.k=5:=by
 unfold jA8 at h
 split at h
 ·cases h
 ·rename_i h1
  omega
theorem jHc {x:Pc}(h:jA8 x=0)(hk:x.k=1):jBK x.s=true:=by
 unfold jA8 at h
 rw[if_pos hk]at h
 split at h
 ·cases h
 ·split at h
  ·cases h
  ·split at h
   ·cases h
   ·rename_i h3
    simp only[not_or]at h3
    simpa using h3.2
theorem jZs {x:Pc}(h:jA8 x=0):((unP x).map fun x=>if jCl (clip x)=true then 0 else 1).sum=unN x:=by
 unfold unP unN
 by_cases h1:x.k=1
 ·rw[if_pos h1,if_neg (by omega),if_pos h1,jOS]
 ·rw[if_neg h1,jEi (jDL h h1) |> fun e=>show ([x].map fun x=>if jCl (clip x)=true then 0 else 1).sum=(if jCl x=true then 0 else 1) by simp[e]]
  unfold jCl
  rcases jNE h with e | e | e | e | e
  ·exact absurd e h1
  all_goals simp[e]
theorem jRH (f:Nat→Int){l:List Pc}(h:∀x ∈ l,jA8 x=0):(jAV f (placed 0 (jAh l))).length=jAW l:=by
 rw[jWR]
 unfold jAh jAW
 induction l with
 | nil=>rfl
 | cons x l ih=>rw[List.flatMap_cons,List.map_append,List.sum_append,jZs (h x (List.mem_cons_self ..)),ih (fun y hy=>h y (List.mem_cons_of_mem _ hy)),List.map_cons,List.sum_cons]
theorem jE3 {l:List Pc}(h:jAu l=0):∀x ∈ l,jA8 x=0:=fun x hx=>by
 obtain⟨i,hi,rfl⟩:=List.getElem_of_mem hx
 have:=jCV h i hi
 rwa [List.getD_eq_getElem?_getD,List.getElem?_eq_getElem hi]at this
theorem Cls.at {w:World}(h:Cls w):∃f,jGn f w:=by
 refine⟨fun c=>if hc:c<128 then Classical.choose (h c hc) else 0,fun c hc=>?_⟩
 dsimp only
 rw[dif_pos hc]
 exact (Classical.choose_spec (h c hc)).1
def jNd (b:Nat)(n:Nat)(W:World):Prop:=W.heap[b]? = some (.cells #[.int .i64 (n:Int)] 3 (0,0))
theorem jNd.put {b n:Nat}{W:World}(h:jNd b n W)(k:Nat):jNd b k (W.setCell ⟨b,0,none⟩ (.int .i64 (k:Int))):=by
 unfold jNd at h ⊢
 simp[World.setCell,Array.getElem?_modify,h]
theorem jLA (cs:Array Value)(fr:Nat × Nat):¬jFt (.cells cs 3 fr):=by
 rintro (⟨h,_⟩ | h)
 ·exact absurd h (by decide)
 ·exact absurd h (by decide)
theorem jFG (l:List Pc)(v:Value)(w:World)(hv:jBe w v l)(hb:bulk l≤10000)(hT:Tabs w) :
 Calls Tryz.prog 79 #[v] w fun e w'=>e=.returned (.tuple #[.int .i64 (unE l:Nat),.int .u8 (jAu l)])∧Below w.heap.size w w':=by
 have cC:=jB6 l v w hv (jGc (by omega)) hT
 obtain⟨f,hf⟩:=hT.1.at
 have hG:=hT.2.2
 have hu8:=hT.2.1
 have hV:=hv
 obtain⟨p,cap,rfl,hl,hc,jA4⟩:=hv
 unfold maxLen at hc
 clear jA4
 by_cases hE:jAu l=0
 ·have jDx:=jCV hE
  have jBi:=jRH f (jE3 hE)
  have HU:=hid (show unE l=jAW l by unfold unE;rw[if_pos hE])
  have HE:=hid hE
  rw[hE]at cC
  have cU:=fun w=>jFO p l.length cap w
  have hNs:(jAh l).length≤10000:=Nat.le_trans (jFo l) hb
  clear hE
  refine (callsIn_wide (n:=9)).1 ?_
  refine callsIn_of_wp_marks Tryz.func79 rfl trivial ?_ rfl
  simp only[Tryz.ntmps79,List.size_toArray,List.length_cons,List.length_nil,Nat.reduceAdd,Nat.reduceSub,Array.replicate_succ,Array.replicate_zero,List.push_toArray,List.append_toArray,List.nil_append,List.cons_append]
  gi_wp2_with (first
   | (refine⟨trivial,?_⟩;gi_at_call 49;(with_reducible refine (callsIn_wide.2 cC).mono ?_);rintro e w1 ⟨rfl,hb1⟩;have HB1:=hid hb1;clear hb1)
   | (refine⟨trivial,?_⟩;gi_at_call 77;(with_reducible refine (callsIn_wide.2 (cU _)).mono ?_);rintro e w3 ⟨rfl,rfl⟩))
  have hs1:=HB1.out.size
  have HN0:=hid (show jNd w1.heap.size 0 ((w1.alloc (.cells #[.int .i64 0] 3)).alloc (.cells #[.slice p l.length cap] 39)) by unfold jNd;rw[Below.heap_alloc _ _ _ (by simp)];exact heap_alloc_new w1 _)
  have HX0:=hid (show ((w1.alloc (.cells #[.int .i64 0] 3)).alloc (.cells #[.slice p l.length cap] 39)).heap[w1.heap.size+1]? = some (.cells #[.slice p l.length cap] 39 (0,0)) by
   have:=heap_alloc_new (w1.alloc (.cells #[.int .i64 0] 3)) (.cells #[.slice p l.length cap] 39)
   rwa [show (w1.alloc (.cells #[.int .i64 0] 3)).heap.size=w1.heap.size+1 by simp]at this)
  have HB2:=hid (jAa (jAa HB1.out (jAb (w:=w1) (.cells #[.int .i64 0] 3))) (jAb (w:=w1.alloc (.cells #[.int .i64 0] 3)) (.cells #[.slice p l.length cap] 39)))
  have hs2:((w1.alloc (.cells #[.int .i64 0] 3)).alloc (.cells #[.slice p l.length cap] 39)).heap.size=w1.heap.size+2:=by simp
  generalize (w1.alloc (.cells #[.int .i64 0] 3)).alloc (.cells #[.slice p l.length cap] 39)=Wr at *
  have cT:=jJ8 f (9-1) (by omega) w.heap.size (w1.heap.size+1) l p cap Wr (fun i hi h=>jHc (jDx i hi) h) (fun i hi=>by have:=jBJ hi;omega) (fun i hi h=>jDL (jDx i hi) h) (by omega) HX0.out (by omega) hG (Utf8Tabs_below hu8 HB2.out) (hf.below HB2.out (by omega)) (hV.below HB2.out)
  have hpl:(placed 0 (jAh l)).length≤10000:=by rw[jCK];exact hNs
  refine jKr (gf:=140) (lb:=#[.pointer (some ⟨w1.heap.size+1,0,none⟩)]) rfl (enters_of Tryz.func140 (by kernel_rfl) rfl)
   cT KpS.t (KpS.b (by omega)) (Below.refl _ _) (fun _=>rfl)
   (fun pre W'=>jNd w1.heap.size pre.length W'∧Below w.heap.size w W')
   (fun _ _ _=>False)
   (fun pre X Y row ⟨h1,h2⟩ hg hr=>⟨(hg.block _ (lt_of_block h1) (fun e=>by have:=(hr _ e.symm).1;omega)).trans h1,h2.grown hg h2.size (fun k e=>by have:=(hr k e).1;omega)⟩)
   (fun c pre X Y row h=>h.elim)
   ⟨HN0.out,HB2.out⟩
   (fun y=>{ tmps:=#[.slice p l.length cap,undef,.int .i64 0,.int .u8 0,.int .u8 0,.pointer (some ⟨w1.heap.size,0,none⟩),.slice p l.length cap,.int .u8 0,.int .u8 0,.bool false,undef,.slice p l.length cap,.func (.func 140) #[] #[.pointer (some ⟨w1.heap.size+1,0,none⟩)],.int .i64 (y.1:Int),unV y.2,undef,undef,undef],defers:=[] }) ?assign ?body ?done ?stop
  case assign =>
   intro l1 y W K hK
   unfold jZu
   gi_wp2
   simpa using hK
  case body =>
   rintro lp pre y W' ⟨h1,h2⟩ hlt
   have hc0:=(Lib.cell_of_heap h1 0).trans rfl
   have hf0:=Lib.frozen_of_heap h1 0
   have hq:IntKind.i64.wrap ((pre.length:Int)+1)=((pre.length+1:Nat):Int):=by rw[IntKind.wrap_i64];omega
   have HE1:=hid (show KeepsFrom Wr.heap.size W' (W'.setCell ⟨w1.heap.size,0,none⟩ (.int .i64 ((pre.length+1:Nat):Int)))∧KpS w.heap.size W' (W'.setCell ⟨w1.heap.size,0,none⟩ (.int .i64 ((pre.length+1:Nat):Int)))∧jNd w1.heap.size (pre++[y]).length (W'.setCell ⟨w1.heap.size,0,none⟩ (.int .i64 ((pre.length+1:Nat):Int)))∧Below w.heap.size w (W'.setCell ⟨w1.heap.size,0,none⟩ (.int .i64 ((pre.length+1:Nat):Int))) from
    ⟨(KeepsOthers.setCell _ _ _).from _,⟨(Below.refl _ W').setCell (p:=⟨w1.heap.size,0,none⟩) hs1 _,KeepsWalks.setCell _ _ _,(Keeps.refl _ W').setCell h1 (jLA _ _) 0 _⟩,by rw[List.length_append,List.length_singleton];exact h1.put _,h2.setCell (p:=⟨w1.heap.size,0,none⟩) hs1 _⟩)
   clear h1 h2
   gi_wp2
   exact HE1.out
  case done =>
   rintro D ys Wd hD rfl ⟨h1,h2⟩ hK
   have HK:=hid hK
   have H2:=hid h2
   have hc0:=(Lib.cell_of_heap h1 0).trans rfl
   rw[jBi,←HU.out]at hc0
   obtain⟨q,hq⟩:∃q,unE l=q:=⟨_,rfl⟩
   rw[hq]at hc0
   have HQ:=hid hq
   clear hK h1 h2 jBi HU hq
   gi_wp2
   exact jBE (fun W'=>Below w.heap.size w W') Wr.heap.size (fun W1 D1 h hD1 hk1=>h.trans (belowK_b (w:=w) (Nat.le_refl _) W1 D1 _ _ (by omega) hk1 rfl rfl)) (fun W1 h=>⟨_,results_tmp2 rfl _ _ _,by rw[HE.out,HQ.out];rfl,h⟩) [D] _ H2.out ((jBx.nil _ _).cons hD (by simp) HK.out)
  case stop =>
   rintro D c pre Wd hD jRD h
   exact h.elim
 ·obtain⟨Z,hZ⟩:∃Z,jAu l=Z:=⟨_,rfl⟩
  have HX:=hid (show unE l=0 by unfold unE;rw[if_neg hE])
  rw[hZ]at cC hE
  have HZ:=hid hZ
  have hz2:(Z != 0)=true:=by simpa using hE
  clear hZ hE
  go_enter Tryz.func79,Tryz.ntmps79
  go_wp2_with (go_at_call 49;(with_reducible refine cC.mono ?_);rintro e w1 ⟨rfl,hb1⟩;have HB1:=hid hb1;clear hb1)
  go_ret2
  exact⟨by rw[HX.out,HZ.out];rfl,HB1.out⟩
end Go.Proofs.YtldapapdolkiaaaGreatDoor
namespace Go.Proofs.YtldapapdolkiaaaGreatDoor
set_option maxHeartbeats 64000000
open Go Go.RowKit Go.Lib
set_option maxRecDepth 100000
attribute [local go_sem] Oper.semAt_some
def jJH (s:ByteArray):ByteArray:=if s.size≤1000000 then s else ByteArray.empty
theorem jPN {s:ByteArray}(h:s.size≤1000000):jJH s=s:=if_pos h
theorem jN0 (s:ByteArray):(jJH s).size≤1000000:=by
 unfold jJH
 split
 ·assumption
 ·decide
def jDo (ns:List ByteArray):Nat→List (Nat × ByteArray)
 | 0=>[]
 | j+1=>(j,ns.getD j ByteArray.empty) :: jDo ns j
theorem jJ7 (ns:List ByteArray):∀j,(jDo ns j).length=j
 | 0=>rfl
 | j+1=>by simp[jDo,jJ7 ns j]
theorem jFA (ns:List ByteArray)(j:Nat)(h:j<ns.length):ns.take (j+1)=ns.take j++[ns.getD j ByteArray.empty]:=by
 rw[List.take_add_one,List.getD_eq_getElem?_getD,List.getElem?_eq_getElem h]
 rfl
theorem jJ1 (ns:List ByteArray):∀j,j≤ns.length→(jDo ns j).map Prod.snd=(ns.take j).reverse
 | 0,_=>rfl
 | j+1,h=>by
   rw[jDo,List.map_cons,jJ1 ns j (by omega),jFA ns j (by omega),List.reverse_append]
   rfl
def encB (y:Nat × ByteArray):Array Value:=#[.int .i64 (y.1:Int),.string (jJH y.2)]
def jQY:Obj→Prop
 | .cells cs t fr=>jBS (.cells cs t fr)
 | _=>False
theorem jXW {o:Obj}(h:jQY o):jBS o:=by
 unfold jQY at h
 split at h
 ·exact h
 ·exact h.elim
theorem jSx {o:Obj}(hc:o.isCells=false):¬jQY o:=by
 unfold jQY
 split
 ·cases hc
 ·exact id
theorem jUx (W:World)(l:Nat)(o o':Obj)(h:W.heap[l]? = some o)(hc:o.isCells=false):Keeps jQY W (W.putObj l o'):=Keeps.putObj h (jSx hc)
theorem jV1 (p:Option Addr)(n c:Nat)(w:World):Calls Tryz.prog 82 #[.slice p n c] w fun e w'=>e=.returned (.func (.func 144) #[] #[.pointer (some ⟨w.heap.size,0,none⟩)])∧w'=w.alloc (.cells #[.slice p n c] 138):=by
 go_enter Tryz.func82,Tryz.ntmps82
 go_wp2
 go_ret
 exact⟨rfl,rfl⟩
theorem jQO (n:Nat)(hn:1≤n)(B Bn:Nat)(ns:List ByteArray)(v:Value)(w:World)(hsz:∀s ∈ ns,s.size≤1000000)(jBi:ns.length≤1000000)
 (hBx:w.heap[Bn]? = some (.cells #[v] 138 (0,0))) (hv:w.ownsRow B 9 1 v ns.length (ns.map Value.string)) :
 SeqStopsK Fence.wide n Tryz.prog 144 #[.pointer (some ⟨Bn,0,none⟩)] encB (Keeps jQY) (fun ys=>ys=jDo ns ns.length) (fun pre=>pre <+: jDo ns ns.length) ns.length w:=by
 intro lb J Jx W hW hJ hJx hY h0
 have hBx:=(hW.block _ (lt_of_block hBx)).trans hBx
 have hv:=jAZ hW hv
 obtain⟨ao,cap,rfl⟩:∃ao cap,v=.slice ao ns.length cap:=by
  rcases hv.2 with ⟨rfl,h0⟩ | ⟨g,cap,cur,rfl,_⟩
  ·exact⟨none,0,by rw[h0]⟩
  ·exact⟨_,_,rfl⟩
 have hwl:IntKind.i64.wrap ((ns.length:Int)-1)=((ns.length:Int)-1):=by rw[IntKind.wrap_i64];omega
 have c0:W.cell? ⟨Bn,0,none⟩=some (.slice ao ns.length cap):=(Lib.cell_of_heap hBx 0).trans rfl
 have HY:=hid hY
 have HBX:=hid hBx
 have HV:=hid hv
 have H0:=hid h0
 have HSZ:=hid hsz
 have HL:=hid (jJ7 ns ns.length)
 clear hY hBx hv h0 hsz hJ hJx
 obtain⟨S,hS⟩:∃S,jDo ns ns.length=S:=⟨_,rfl⟩
 have HS0:=hid (show S=[]++jDo ns ns.length from hS.symm)
 rw[hS]at HL
 simp only[hS]
 clear hS
 refine callsIn_of_wp Tryz.func144 rfl trivial ?_ rfl
 simp only[Tryz.ntmps144,List.size_toArray,List.length_cons,List.length_nil,Nat.reduceAdd,Nat.reduceSub,Array.replicate_succ,Array.replicate_zero,List.push_toArray,List.append_toArray,List.nil_append,List.cons_append]
 gi_wp2
 gi_loopw [3] (fun v3 wr=>∃ (j:Nat) (pre:List (Nat × ByteArray)),v3=.int .i64 ((j:Int)-1)∧j≤ns.length∧Hid (S=pre++jDo ns j)∧Hid (J pre wr)∧Hid (wr.heap[Bn]? = some (.cells #[.slice ao ns.length cap] 138 (0,0)))∧Hid (wr.ownsRow B 9 1 (.slice ao ns.length cap) ns.length (ns.map Value.string))) (fun v3 _=>(RowKit.intOf v3+1).toNat)
 case atStart =>
  exact⟨ns.length,[],by rw[←hwl],Nat.le_refl _,HS0.out,H0.out,HBX.out,HV.out⟩
 case round =>
  obtain⟨j,pre,rfl,hj,HS,HJP,HB,HR⟩:=hrel
  have c1:wr.cell? ⟨Bn,0,none⟩=some (.slice ao ns.length cap):=(Lib.cell_of_heap HB.out 0).trans rfl
  rcases j with _ | j
  ·have HE:=hid (show pre=S by rw[HS.out];simp[jDo])
   have hlt:¬(0:Int)≤((0:Nat):Int)-1:=by omega
   gi_wp2
   go_end0
   exact⟨⟨_,rfl⟩,.inl (by rw[←HE.out];exact HJP.out)⟩
  ·have hjj:((j+1:Nat):Int)-1=(j:Int):=by omega
   have hix:(0:Int)≤(j:Int):=by omega
   have jZU:(j:Int)<(ns.length:Int):=by omega
   have hq:IntKind.i64.wrap ((j:Int)-1)=(j:Int)-1:=by rw[IntKind.wrap_i64];omega
   have HS1:=hid (show S=pre++(j,ns.getD j ByteArray.empty) :: jDo ns j from HS.out)
   have hsj:(ns.getD j ByteArray.empty).size≤1000000:=by
    rw[List.getD_eq_getElem?_getD,List.getElem?_eq_getElem (by omega)]
    exact HSZ.out _ (List.getElem_mem _)
   obtain⟨g,rfl⟩:∃g,ao=some ⟨g,0,none⟩:=by
    rcases HR.out.2 with ⟨_,h0⟩ | ⟨g,_,_,hv,_⟩
    ·omega
    ·injection hv with hv;exact⟨g,hv⟩
   have cr:wr.cell? ⟨g,j,none⟩=some (.string (ns.getD j ByteArray.empty)):=by
    rw[←jHK]
    refine World.ownsRow.cells HR.out (g:=g) rfl j _ ?_
    rw[List.getElem?_map,List.getD_eq_getElem?_getD,List.getElem?_eq_getElem (by omega)]
    rfl
   obtain⟨fn,tmps,assign,body,hy,hR⟩:=HY.out pre (j,ns.getD j ByteArray.empty) wr HJP.out (by have h1:=HL.out;rw[HS1.out]at h1;simp at h1;omega)
   unfold encB at hy
   dsimp only at hy
   rw[jPN hsj]at hy
   have HP:=hid (jNe HS1.out)
   have HS2:=hid (show S=(pre++[(j,ns.getD j ByteArray.empty)])++jDo ns j by rw[HS1.out,List.append_assoc];rfl)
   clear HS HS1 hsj
   rw[hjj]
   generalize ns.getD j ByteArray.empty=s at *
   have c9:Tryz.prog.cellsOf 9=1:=by kernel_rfl
   gi_wp2
   refine hR.mono ?_
   rintro e W3 (⟨rfl,hJ3,hk3⟩ | ⟨rfl,jJY⟩)
   ·have HJ3:=hid hJ3
    have HB3:=hid (hk3.same _ _ HB.out ⟨by decide,by decide,fun h=>absurd h (by decide)⟩)
    have HR3:=hid (hk3.row HR.out (fun _=>⟨by decide,by decide,fun h=>absurd h (by decide)⟩))
    clear hJ3 hk3 hR
    gi_wp2
    go_roundw
    case rel=>exact⟨j,pre++[(j,s)],by rw[←hq],by omega,HS2.out,HJ3.out,HB3.out,HR3.out⟩
    case measure=>simp[RowKit.intOf]
   ·gi_wp2
    refine bodyPost_ret (results_none rfl _ _ _) rfl ?_
    exact⟨⟨_,rfl⟩,.inr ⟨_,HP.out,jJY⟩⟩
end Go.Proofs.YtldapapdolkiaaaGreatDoor
namespace Go.Proofs.YtldapapdolkiaaaGreatDoor
set_option maxHeartbeats 64000000
open Go Go.RowKit Go.Lib
set_option maxRecDepth 100000
structure Ps where
 out:List (List Pc)
 j:Js
 opn:List ByteArray
 rest:List Int
def jDs (j:Js)(xs:List Pc):Js:=xs.foldl (fun j x=>js3 x j) j
def jB2 (j:Js):List Pc:=j.o++flush j.t
def jF4 (st:Ps)(y:Nat × Pc):Bool:=match st.rest with
 | []=>false
 | p :: _=>decide ((y.1:Int)=p) && decide ((clip y.2).k≠3)
def jFM (st:Ps)(y:Nat × Pc):Ps:=if jF4 st y=true then ⟨st.out++[jB2 (jDs st.j (jAE st.opn))],jDs js0 (jAt st.opn),st.opn,st.rest.tail⟩ else st
def jFC (st:Ps)(y:Nat × Pc):Ps:=⟨(jFM st y).out,js3 (clip y.2) (jFM st y).j,jAM st.opn (clip y.2),(jFM st y).rest⟩
def ps0 (at':List Int):Ps:=⟨[],js0,[],at'⟩
def jF9 (at':List Int)(pre:List (Nat × Pc)):Ps:=pre.foldl jFC (ps0 at')
theorem jSK (at':List Int)(pre:List (Nat × Pc))(y:Nat × Pc):jF9 at' (pre++[y])=jFC (jF9 at' pre) y:=by unfold jF9;rw[List.foldl_append];rfl
/-! how large it all is, whatever the steps -/
theorem jZC (x:Pc)(j:Js):(js3 x j).o.length≤j.o.length+2:=by
 unfold js3
 split
 ·show j.o.length≤_;omega
 ·show (j.o++flush j.t++[x]).length≤_
  have h:(flush j.t).length≤1:=by unfold flush;split <;> simp
  simp only[List.length_append,List.length_singleton]
  omega
theorem js3_t (x:Pc)(j:Js):(js3 x j).t.length≤j.t.length+x.s.size:=by
 unfold js3
 split
 ·show (j.t++x.s.data.toList).length≤_
  rw[List.length_append,jBb]
  exact Nat.le_refl _
 ·show ([]:List UInt8).length≤_
  simp
theorem jSo (xs:List Pc):∀j:Js,(jDs j xs).o.length≤j.o.length+2*xs.length:=by
 induction xs with
 | nil=>intro j;simp[jDs]
 | cons x xs ih =>
   intro j
   have h1:=ih (js3 x j)
   have h2:=jZC x j
   show (jDs (js3 x j) xs).o.length≤_
   rw[List.length_cons]
   omega
theorem jPQ (xs:List Pc)(h:∀x ∈ xs,x.k≠1):∀j:Js,(jDs j xs).t.length≤j.t.length:=by
 induction xs with
 | nil=>intro j;simp[jDs]
 | cons x xs ih =>
   intro j
   have h1:=ih (fun y hy=>h y (List.mem_cons_of_mem _ hy)) (js3 x j)
   have h2:(js3 x j).t.length≤j.t.length:=by
    unfold js3
    rw[if_neg (h x (List.mem_cons_self ..))]
    show ([]:List UInt8).length≤_
    simp
   show (jDs (js3 x j) xs).t.length≤_
   omega
theorem jNk (o:List ByteArray):∀x ∈ jAE o,x.k≠1:=by
 intro x hx
 unfold jAE at hx
 obtain⟨s,_,rfl⟩:=List.mem_map.1 hx
 exact (by decide:¬(3:Int)=1)
theorem jIE (o:List ByteArray):∀x ∈ jAt o,x.k≠1:=by
 intro x hx
 unfold jAt at hx
 obtain⟨s,_,rfl⟩:=List.mem_map.1 hx
 exact (by decide:¬(2:Int)=1)
theorem jYe (o:List ByteArray)(x:Pc):(jAM o x).length≤o.length+1:=by
 unfold jAM
 split
 ·simp
 ·split
  ·rw[List.length_dropLast];omega
  ·omega
theorem jSt {o:List ByteArray}{x:Pc}(ho:∀s ∈ o,s.size≤16)(hx:x.s.size≤16):∀s ∈ jAM o x,s.size≤16:=by
 intro s hs
 unfold jAM at hs
 split at hs
 ·rcases List.mem_append.1 hs with h | h
  ·exact ho s h
  ·rw[List.mem_singleton.1 h];exact hx
 ·split at hs
  ·exact ho s (List.dropLast_subset _ hs)
  ·exact ho s hs
structure Few (n N:Nat)(st:Ps):Prop where
 o:st.j.o.length≤3*n
 t:st.j.t.length≤16*n
 op:st.opn.length≤n
 nm:∀s ∈ st.opn,s.size≤16
 out:st.out.length+st.rest.length=N
theorem Few.step {n N:Nat}{st:Ps}(h:Few n N st)(y:Nat × Pc):Few (n+1) N (jFC st y):=by
 have hc:=jJ4 y.2
 have h1:=jZC (clip y.2) (jFM st y).j
 have h2:=js3_t (clip y.2) (jFM st y).j
 have hp:(jFM st y).j.o.length≤3*n+1∧(jFM st y).j.t.length≤16*n∧(jFM st y).out.length+(jFM st y).rest.length=N:=by
  unfold jFM
  split
  ·rename_i hh
   refine⟨?_,?_,?_⟩
   ·show (jDs js0 (jAt st.opn)).o.length≤_
    have he:jDs js0 (jAt st.opn)=⟨jAt st.opn,[],nil,false⟩:=by
     generalize st.opn=o
     have gen:∀ (o:List ByteArray) (a:List Pc),jDs ⟨a,[],nil,false⟩ (jAt o)=⟨a++jAt o,[],nil,false⟩:=by
      intro o
      induction o with
      | nil=>intro a;simp[jDs,jAt]
      | cons s o ih =>
        intro a
        show jDs (js3 ⟨2,s,true⟩ ⟨a,[],nil,false⟩) (jAt o)=_
        have:js3 ⟨2,s,true⟩ ⟨a,[],nil,false⟩=⟨a++[⟨2,s,true⟩],[],nil,false⟩:=by
         unfold js3
         rw[if_neg (by decide:¬(2:Int)=1)]
         simp[flush]
        rw[this,ih]
        simp[jAt]
     exact (gen o []).trans (by simp)
    rw[he]
    show (jAt st.opn).length≤_
    unfold jAt
    rw[List.length_map]
    have:=h.op
    omega
   ·show (jDs js0 (jAt st.opn)).t.length≤_
    have:=jPQ _ (jIE st.opn) js0
    have:js0.t.length=0:=rfl
    omega
   ·show (st.out++[_]).length+st.rest.tail.length=N
    have ho:=h.out
    unfold jF4 at hh
    cases hr:st.rest with
    | nil=>rw[hr]at hh;cases hh
    | cons p r =>
      rw[hr]at ho
      simp at ho ⊢
      omega
  ·exact⟨by have:=h.o;omega,h.t,h.out⟩
 refine⟨?_,?_,?_,jSt h.nm hc,hp.2.2⟩
 ·show (js3 (clip y.2) (jFM st y).j).o.length≤_
  omega
 ·show (js3 (clip y.2) (jFM st y).j).t.length≤_
  omega
 ·show (jAM st.opn (clip y.2)).length≤_
  have:=jYe st.opn (clip y.2)
  have:=h.op
  omega
theorem jS5 (at':List Int)(pre:List (Nat × Pc)):Few pre.length at'.length (jF9 at' pre):=by
 have gen:∀ (pre:List (Nat × Pc)) (n:Nat) (st:Ps),Few n at'.length st→Few (n+pre.length) at'.length (pre.foldl jFC st):=by
  intro pre
  induction pre with
  | nil=>intro n st h;exact h
  | cons y pre ih =>
    intro n st h
    have:=ih (n+1) (jFC st y) (h.step y)
    rw[List.foldl_cons,List.length_cons,show n+(pre.length+1)=n+1+pre.length by omega]
    exact this
 have:=gen pre 0 (ps0 at') ⟨by simp[ps0,js0],by simp[ps0,js0],by simp[ps0],fun s hs=>by simp[ps0]at hs,by simp[ps0]⟩
 rw[Nat.zero_add]at this
 exact this
/-! it is what the specification makes -/
theorem JG.put {o:List Pc}{j:Js}{x:Pc}(h:JG o j)(hx:jLV x):JG (jJj o x) (js3 x j):=by
 obtain⟨h1,h2,_,_⟩:=jSY h.2 hx
 exact⟨by rw[h.1];exact h1,h2⟩
theorem JG.puts (xs:List Pc)(hk:∀x ∈ xs,x.k≠1):∀ {o:List Pc} {j:Js},JG o j→JG (o++xs) (jDs j xs):=by
 induction xs with
 | nil=>intro o j h;rw[List.append_nil];exact h
 | cons x xs ih =>
   intro o j h
   have hx:=hk x (List.mem_cons_self ..)
   have h1:=h.put (x:=x) (fun e=>absurd e hx)
   have h2:=ih (fun y hy=>hk y (List.mem_cons_of_mem _ hy)) h1
   have e:jJj o x=o++[x]:=by rw[h.1];exact jJa hx
   rw[e,List.append_assoc]at h2
   exact h2
theorem JG.nil:JG [] js0:=⟨rfl,fun y hy=>by simp[js0]at hy⟩
structure Twin (at':List Int)(u:Nat)(cs:Cs)(ps:Ps):Prop where
 out:cs.out=ps.out
 part:JG cs.part ps.j
 opn:cs.opn=ps.opn
 rest:ps.rest=at'.drop cs.out.length
 unit:cs.unit=u
theorem jYy {at':List Int}{u:Nat}{cs:Cs}{ps:Ps}{x:Pc}(h:Twin at' u cs ps)(hx:x.s.size≤16):jES at' cs x=jF4 ps (u,x):=by
 unfold jES jF4
 rw[h.rest]
 by_cases hl:cs.out.length<at'.length
 ·rw[jIX hl]
  simp[hl,jEi hx,h.unit]
 ·rw[List.drop_of_length_le (by omega)]
  simp[hl]
theorem Twin.step {at':List Int}{u:Nat}{cs:Cs}{ps:Ps}{x:Pc}(h:Twin at' u cs ps)(hx:x.s.size≤16)(hf:jLV x):Twin at' (jBM u x) (jCx at' cs x) (jFC ps (u,x)):=by
 have he:=jYy h hx
 have hc:clip x=x:=jEi hx
 unfold jCx jFC jCY jFM
 rw[he]
 cases hh:jF4 ps (u,x)
 ·simp only[Bool.false_eq_true,if_false]
  refine⟨h.out,?_,?_,h.rest,?_⟩
  ·show JG (jJj cs.part x) (js3 (clip x) ps.j)
   rw[hc];exact h.part.put hf
  ·show jAM cs.opn x=jAM ps.opn (clip x)
   rw[hc,h.opn]
  ·show jBM cs.unit x=jBM u x
   rw[h.unit]
 ·simp only[if_true]
  have hp:=h.part.puts (jAE cs.opn) (jNk _)
  refine⟨?_,?_,?_,?_,?_⟩
  ·show cs.out++[cs.part++jAE cs.opn]=ps.out++[jB2 (jDs ps.j (jAE ps.opn))]
   rw[hp.1,h.out,h.opn]
   rfl
  ·show JG (jJj (jAt cs.opn) x) (js3 (clip x) (jDs js0 (jAt ps.opn)))
   rw[hc,h.opn]
   have:=(JG.nil.puts (jAt ps.opn) (jIE _)).put hf
   rwa [List.nil_append]at this
  ·show jAM cs.opn x=jAM ps.opn (clip x)
   rw[hc,h.opn]
  ·show ps.rest.tail=at'.drop (cs.out++[_]).length
   rw[h.rest,List.length_append,List.length_singleton,List.tail_drop]
  ·show jBM cs.unit x=jBM u x
   rw[h.unit]
theorem jP5 {at':List Int}:∀ (S:List Pc) (u:Nat) (cs:Cs) (ps:Ps),Twin at' u cs ps→(∀x ∈ S,x.s.size≤16∧jLV x)→∃u',Twin at' u' (S.foldl (jCx at') cs) ((placed u S).foldl jFC ps)
 | [],u,cs,ps,h,_=>⟨u,h⟩
 | x :: S,u,cs,ps,h,hx=>by
   have h1:=hx x (List.mem_cons_self ..)
   exact jP5 S _ _ _ (h.step h1.1 h1.2) (fun y hy=>hx y (List.mem_cons_of_mem _ hy))
theorem jUC {at':List Int}{S:List Pc}(hx:∀x ∈ S,x.s.size≤16∧jLV x) :
 jK2 at' S=(jF9 at' (placed 0 S)).out++[jB2 (jF9 at' (placed 0 S)).j]:=by
 obtain⟨u,h⟩:=jP5 (at':=at') S 0 cs0 (ps0 at') ⟨rfl,JG.nil,rfl,rfl,rfl⟩ hx
 unfold jK2 jBD
 rw[List.take_length]
 show (S.foldl (jCx at') cs0).out++[(S.foldl (jCx at') cs0).part]=_
 rw[h.out,h.part.1]
 rfl
theorem jUJ (r:Int):0<(Utf8.encode r).size:=by
 unfold Utf8.encode
 dsimp only
 split <;> (try split) <;> (try split) <;> (try split) <;> simp[ByteArray.size]
theorem jN4 {l:List Pc}(h:∀x ∈ l,jA8 x=0):∀x ∈ jAh l,x.s.size≤16∧jLV x:=by
 intro x hx
 unfold jAh at hx
 obtain⟨y,hy,hxy⟩:=List.mem_flatMap.1 hx
 unfold unP at hxy
 split at hxy
 ·obtain⟨r,_,rfl⟩:=List.mem_map.1 hxy
  have h4:=jD9 (r:Int)
  have h5:=jUJ (r:Int)
  unfold jFp
  generalize Utf8.encode (r:Int)=b at *
  exact⟨by dsimp only;omega,fun _=>⟨rfl,h5⟩⟩
 ·rename_i hk
  rw[List.mem_singleton]at hxy
  subst hxy
  exact⟨jDL (h x hy) hk,fun e=>absurd e hk⟩
end Go.Proofs.YtldapapdolkiaaaGreatDoor
namespace Go.Proofs.YtldapapdolkiaaaGreatDoor
set_option maxHeartbeats 64000000
open Go Go.RowKit Go.Lib
set_option maxRecDepth 100000
theorem jBt {F:Fence}{n:Nat}{P:Program}{w:World}{ops:Array Oper}{o:Oper}{a:Act}{K:Act→World→Prop}{Q:Exit→Act→World→Prop}{E:Prop}
 (hg:o.guard=none) (s x:Operand) (t:TypeId) (hop:o.op=Op.call { callee:=Callee.builtin Builtin.append,args:=#[s,x],argTypes:=#[t,t] })
 (base:Nat) (e:TypeId) (i:TypeInfo) (z:Value) (size bytes:Nat) (h1:P.underlying t=some (.slice e)) (h2:P.info? e=some i) (h3:i.zero=some z) (h4:i.size=size) (h5:i.bytes=bytes) (h6:z.cells.size=size) (h7:0<size)
 (v:Value) (k:Nat) (xs:List Value) (hs:a.eval s=v) (jAN:w.ownsRow base e size v k xs) (ad:Addr) (m c:Nat) (news:List Value) (hx:a.eval x=.slice (some ad) m c) (hn:news.length=m*size)
 (hc:∀j u,news[j]? = some u→w.cell? (ad.add j)=some u) (h1c:∀u ∈ news,u.oneCell'=true) (b1:k+m≤maxLen) (b2:(k+m)*bytes≤140737488355328) (b3:base≤w.heap.size)
 (hK:∀v' w',w'.ownsRow base e size v' (k+m) (xs++news)→w.grownBy w' v.ownBlock→K (a.put o.dst v') w') :
 if Region.wanted o (yielded ops a.tmps)=true then Oper.wpIn F n P o a w K Q else E:=by
 rw[if_pos (by simp[Region.wanted,hg])]
 obtain⟨v',w',jA9,r1,r2,_⟩:=run_append_own (P:=P) w base t o.type e i z size bytes h1 h2 h3 h4 h5 h6 h7 v k xs jAN ad m c news hn hc h1c b1 b2 b3
 unfold Oper.wpIn
 refine⟨by simp[Oper.about,hop,resolve,Target.leads,Sem.run_pure],?_⟩
 rw[Oper.semAt_plain F _ _ (by rw[hop];intro c hc';cases hc')]
 simp[execOp,hop,resolve,invoke,builtin,hs,hx,jA9,Result.andThen]
 exact hK v' w' r1 r2
theorem jP2:(Tryz.prog.info? 39).map (fun i=>(i.zero,i.size,i.bytes))=some (some (.slice none 0 0),1,24):=by kernel_rfl
def atF (r:List Int):Nat→Nat→Value:=fun i _=>.int .i64 (r.getD i 0)
structure jBO (B b3 b8 b9 b10:Nat)(us:List Value)(Bp:Nat)(out:List (List Pc))(j:Js)(opn:List ByteArray)(rest:List Int)(w:World):Prop where
 at3:∃v,w.heap[b3]? = some (.cells #[v] 78 (0,0))∧jAO B w v rest.length 1 (atF rest)
 prt:∃v,w.heap[b8]? = some (.cells #[v] 47 (0,0))∧w.ownsRow B 39 1 v out.length us
 len:us.length=out.length
 old:∀i,i<out.length→jA7 B (us.getD i jDy) (out.getD i []) w∧∀b,(us.getD i jDy).ownBlock=some b→b<Bp
 jn:jBN Bp b9 j.o j.t w
 stk:jAR B b10 opn w
 le:B≤Bp
 lt:Bp≤w.heap.size
 l3:B≤b3
 l8:B≤b8
 l9:B≤b9
structure Acc (B:Nat)(W W':World):Prop where
 bel:Below B W W'
 non:∀ (k:Nat) (o:Obj),W.heap[k]? = some o→o.isCells=false→W'.heap[k]? = some o
 calm:Keeps jFt W W'
theorem Acc.refl (B:Nat)(W:World):Acc B W W:=⟨Below.refl _ _,fun _ _ h _=>h,Keeps.refl _ _⟩
theorem Acc.trans {B:Nat}{X Y Z:World}(h:Acc B X Y)(k:Acc B Y Z):Acc B X Z:=⟨h.bel.trans k.bel,fun i o h1 h2=>k.non i o (h.non i o h1 h2) h2,h.calm.trans k.calm⟩
theorem Acc.kp {B:Nat}{W W':World}(h:Acc B W W'):KpS B W W':=⟨h.bel,⟨h.bel.size,fun k o hk ho=>h.non k o hk (Obj.not_cells_of_walk ho)⟩,h.calm⟩
theorem Acc.from {B b:Nat}{W W':World}(h:Acc B W W'):KeepsFrom b W W':=⟨h.bel.size,fun k o _ hk ho=>h.non k o hk ho⟩
theorem jOV {o:Obj}(h:o.isCells=false):jBS o∧jHX o:=by cases o <;> first | (exact⟨trivial,trivial⟩) | (cases h)
theorem Acc.ofJ {B:Nat}{W W':World}(hb:Below B W W')(h:Keeps jBS W W'):Acc B W W':=⟨hb,fun k o hk ho=>h.same k o hk (jOV ho).1,h.mono fun _=>jXk⟩
theorem Acc.ofS {B:Nat}{W W':World}(hb:Below B W W')(h:Keeps jHX W W'):Acc B W W':=⟨hb,fun k o hk ho=>h.same k o hk (jOV ho).2,h.mono fun _=>jYn⟩
theorem Acc.step {B:Nat}{W W':World}(hB:B≤W.heap.size)(hb:Below W.heap.size W W'):Acc B W W':=⟨hb.mono hB,fun k _ hk _=>(hb.block k (lt_of_block hk)).trans hk,Keeps.below hb⟩
def calmZ:Obj→Prop
 | .cells _ t _=>t≠78∧True
 | _=>True
def jEM:Obj→Prop
 | .cells _ t _=>t≠39∧t≠47
 | _=>True
theorem jXh {o:Obj}(h:jFt o):jEM o:=by
 unfold jFt at h
 split at h
 ·rcases h with ⟨rfl,_⟩ | rfl
  ·exact⟨by decide,by decide⟩
  ·exact⟨by decide,by decide⟩
 ·exact h.elim
theorem jSu {o:Obj}(h:o.isCells=false):jEM o:=by cases o <;> first | trivial | (cases h)
theorem Acc.ofQ {B:Nat}{W W':World}(hb:Below B W W')(h:Keeps jEM W W'):Acc B W W':=⟨hb,fun k o hk ho=>h.same k o hk (jSu ho),h.mono fun _=>jXh⟩
theorem Acc.set {B:Nat}{W:World}{b:Nat}{cs:Array Value}{t:TypeId}{fr:Nat × Nat}(hb:W.heap[b]? = some (.cells cs t fr))(hB:B≤b)(hC:¬jFt (.cells cs t fr))(i:Nat)(u:Value):Acc B W (W.setCell ⟨b,i,none⟩ u) :=
 ⟨(Below.refl B W).setCell (p:=⟨b,i,none⟩) hB u,fun k o hk ho=>(Below.heap_setCell _ _ _ _ (by rintro rfl;rw[hk]at hb;cases hb;cases ho)).trans hk,(Keeps.refl _ _).setCell hb hC i u⟩
theorem Acc.turned {B base:Nat}{W X Y:World}{row:Option Nat}(h:Acc B W X)(hB:B≤base)(hW:W.heap.size≤base)(hX:B≤X.heap.size)(hg:X.grownBy Y row)(hr:∀r,row=some r→base≤r∧∃o:Obj,X.heap[r]? = some o∧o.isCells=false):Acc B W Y:=by
 have old:∀ (k:Nat) (o:Obj),W.heap[k]? = some o→X.heap[k]? = some o→Y.heap[k]? = some o:=fun k o hk hx=>(hg.block k (lt_of_block hx) (fun e=>by have h1:=(hr k e.symm).1;have h2:=lt_of_block hk;omega)).trans hx
 exact⟨h.bel.grown hg hX (fun k e=>Nat.le_trans hB (hr k e).1),fun k o hk ho=>old k o hk (h.non k o hk ho),⟨Nat.le_trans h.bel.size hg.size,fun k o hk hc=>old k o hk (h.calm.same k o hk hc)⟩⟩
theorem jA3 {cs:Array Value}{t:TypeId}{fr:Nat × Nat}(h1:t≠76)(h2:t≠199):¬jFt (.cells cs t fr):=by
 rintro (⟨h,_⟩ | h)
 ·exact h1 h
 ·exact h2 h
theorem jAR.keeps {C:Obj→Prop}{B b:Nat}{op:List ByteArray}{w w':World}(h:jAR B b op w)(hk:Keeps C w w')(h1:∀cs,C (.cells cs 138 (0,0)))(h2:∀cs,C (.cells cs 9 (0,0))):jAR B b op w':=by
 obtain⟨h0,v,hb,hr,hn⟩:=h
 exact⟨h0,v,hk.same _ _ hb (h1 _),hk.row hr h2,hn⟩
theorem jBN.keeps {C:Obj→Prop}{B b:Nat}{o:List Pc}{t:List UInt8}{w w':World}(h:jBN B b o t w)(hk:Keeps C w w')(h1:∀cs,C (.cells cs 92 (0,0)))(h2:∀cs,C (.cells cs 76 (0,0)))(h3:∀cs,C (.cells cs 5 (0,0))):jBN B b o t w':=by
 obtain⟨h0,vo,vt,hb,ho,ht,hn⟩:=h
 exact⟨h0,vo,vt,hk.same _ _ hb (h1 _),hk.row ho h2,hk.row ht h3,hn⟩
theorem jAO.turned {B:Nat}{w w':World}{v:Value}{n sz:Nat}{f:Nat→Nat→Value}{row:Option Nat}(h:jAO B w v n sz f)(hg:w.grownBy w' row)(hr:∀r,row=some r→∃o:Obj,w.heap[r]? = some o∧o.isCells=false):jAO B w' v n sz f:=by
 obtain⟨p,cap,e,h1,h2,h3⟩:=h
 refine⟨p,cap,e,h1,h2,fun hn=>?_⟩
 obtain⟨A,e2,hA,hc⟩:=h3 hn
 exact⟨A,e2,hA,fun i j hi hj=>cell_kept (hc i j hi hj) hg hr⟩
theorem jDA.turned {w w':World}{v:Value}{ps:List (List Pc)}{row:Option Nat}(h:jDA w v ps)(hg:w.grownBy w' row)(hr:∀r,row=some r→∃o:Obj,w.heap[r]? = some o∧o.isCells=false):jDA w' v ps:=by
 obtain⟨us,h1,h2,h3⟩:=h
 exact⟨us,h1,(h2.turned hg hr).mono hg.size,fun i hi=>(jAO.turned (h3 i hi) hg hr).mono hg.size⟩
theorem jKH {w w':World}{B sz n:Nat}{e:TypeId}{v:Value}{xs:List Value}{row:Option Nat}(h:w.ownsRow B e sz v n xs)(hg:w.grownBy w' row)(hr:∀r,row=some r→∃o:Obj,w.heap[r]? = some o∧o.isCells=false):w'.ownsRow B e sz v n xs:=by
 refine⟨h.1,?_⟩
 rcases h.2 with hn | ⟨g,cap,cur,hv,hbg,hgh,r⟩
 ·exact .inl hn
 ·refine .inr ⟨g,cap,cur,hv,hbg,(hg.block g (lt_of_block hgh) fun e=>?_).trans hgh,r⟩
  obtain⟨q,hq,hqc⟩:=hr g e.symm
  rw[hgh]at hq
  cases hq
  cases hqc
theorem jEZ.turned {w w':World}{v:Value}{ps:List (List Pc)}{row:Option Nat}(h:jEZ w v ps)(hg:w.grownBy w' row)(hr:∀r,row=some r→∃o:Obj,w.heap[r]? = some o∧o.isCells=false):jEZ w' v ps:=by
 obtain⟨us,h1,h2,h3⟩:=h
 exact⟨us,h1,jKH h2 hg hr,fun i hi=>jKH (h3 i hi) hg hr⟩
section
variable {B b3 b8 b9 b10 Bp:Nat} {us:List Value} {out:List (List Pc)} {j j':Js} {opn opn':List ByteArray} {rest:List Int} {w w':World}
theorem jBO.join (h:jBO B b3 b8 b9 b10 us Bp out j opn rest w)(hj:jBN Bp b9 j'.o j'.t w')(hk:jAw Bp b9 w w')(hc:Keeps jBS w w'):jBO B b3 b8 b9 b10 us Bp out j' opn rest w':=by
 have hb:Below B w w':=hk.below h.le h.l9
 obtain⟨v3,h31,h32⟩:=h.at3
 obtain⟨v8,h81,h82⟩:=h.prt
 obtain⟨_,vo,vt,hjb,_⟩:=h.jn
 refine⟨⟨v3,hc.same _ _ h31 ⟨by decide,by decide,fun e=>absurd e (by decide)⟩,h32.below hb⟩,⟨v8,hc.same _ _ h81 ⟨by decide,by decide,fun e=>absurd e (by decide)⟩,hc.row h82 fun _=>⟨by decide,by decide,fun e=>absurd e (by decide)⟩⟩,h.len,fun i hi=>⟨?_,(h.old i hi).2⟩,hj,h.stk.keeps hc (fun _=>⟨by decide,by decide,fun e=>absurd e (by decide)⟩) (fun _=>⟨by decide,by decide,fun e=>absurd e (by decide)⟩),h.le,Nat.le_trans h.lt hk.size,h.l3,h.l8,h.l9⟩
 have h1:=(h.old i hi).1
 refine⟨h1.1,?_⟩
 rcases h1.2 with hn | ⟨g,cap,cur,hv,hbg,hg,r⟩
 ·exact .inl hn
 ·refine .inr ⟨g,cap,cur,hv,hbg,(hk.block g ((h.old i hi).2 g (by rw[hv];rfl)) ?_).trans hg,r⟩
  rintro rfl
  exact jAI h1 hjb (by decide) (by rw[hv];rfl)
theorem jBO.keeps {C:Obj→Prop}(h:jBO B b3 b8 b9 b10 us Bp out j opn rest w)(hb:Below B w w')(hk:Keeps C w w')(hC:∀cs t,C (.cells cs t (0,0))):jBO B b3 b8 b9 b10 us Bp out j opn rest w':=by
 obtain⟨v3,h31,h32⟩:=h.at3
 obtain⟨v8,h81,h82⟩:=h.prt
 exact⟨⟨v3,hk.same _ _ h31 (hC _ _),h32.below hb⟩,⟨v8,hk.same _ _ h81 (hC _ _),hk.row h82 fun _=>hC _ _⟩,h.len,fun i hi=>⟨hk.row (h.old i hi).1 fun _=>hC _ _,(h.old i hi).2⟩,h.jn.keeps hk (fun _=>hC _ _) (fun _=>hC _ _) (fun _=>hC _ _),h.stk.keeps hk (fun _=>hC _ _) (fun _=>hC _ _),h.le,Nat.le_trans h.lt hk.size,h.l3,h.l8,h.l9⟩
theorem jBO.step (h:jBO B b3 b8 b9 b10 us Bp out j opn rest w)(hb:Below w.heap.size w w'):jBO B b3 b8 b9 b10 us Bp out j opn rest w' :=
 h.keeps (hb.mono (Nat.le_trans h.le h.lt)) (Keeps.below (C:=fun _=>True) hb) fun _ _=>trivial
theorem jBO.turned {row:Option Nat}{base:Nat}(h:jBO B b3 b8 b9 b10 us Bp out j opn rest w)(hB:B≤base)(hg:w.grownBy w' row)(hr:∀r,row=some r→base≤r∧∃o:Obj,w.heap[r]? = some o∧o.isCells=false):jBO B b3 b8 b9 b10 us Bp out j opn rest w' :=
 h.keeps (C:=fun o=>o.isCells=true) ((Below.refl B w).grown hg (Nat.le_trans h.le h.lt) fun k e=>Nat.le_trans hB (hr k e).1) ⟨hg.size,fun k o hk ho=>(hg.block k (lt_of_block hk) (fun e=>by obtain⟨_,q,hq,hqc⟩:=hr k e.symm;rw[hk]at hq;cases hq;rw[ho]at hqc;cases hqc)).trans hk⟩ fun _ _=>rfl
theorem jBO.stack (h:jBO B b3 b8 b9 b10 us Bp out j opn rest w)(hs:jAR B b10 opn' w')(hb:Below B w w')(hk:Keeps jHX w w'):jBO B b3 b8 b9 b10 us Bp out j opn' rest w':=by
 obtain⟨v3,h31,h32⟩:=h.at3
 obtain⟨v8,h81,h82⟩:=h.prt
 exact⟨⟨v3,hk.same _ _ h31 ⟨by decide,by decide⟩,h32.below hb⟩,⟨v8,hk.same _ _ h81 ⟨by decide,by decide⟩,hk.row h82 fun _=>⟨by decide,by decide⟩⟩,h.len,fun i hi=>⟨hk.row (h.old i hi).1 fun _=>⟨by decide,by decide⟩,(h.old i hi).2⟩,h.jn.keeps hk (fun _=>⟨by decide,by decide⟩) (fun _=>⟨by decide,by decide⟩) (fun _=>⟨by decide,by decide⟩),hs,h.le,Nat.le_trans h.lt hk.size,h.l3,h.l8,h.l9⟩
theorem jBC {w:World}{b i:Nat}{cs:Array Value}{t:TypeId}{fr:Nat × Nat}(h:w.heap[b]? = some (.cells cs t fr))(u:Value):(w.setCell ⟨b,i,none⟩ u).heap[b]? = some (.cells (cs.setIfInBounds i u) t fr):=by
 simp[World.setCell,Array.getElem?_modify,h]
theorem jHk (w:World)(p:Addr)(u:Value):(w.setCell p u).heap.size=w.heap.size:=by simp[World.setCell]
theorem jBO.part {u v':Value}{P:List Pc}{w2:World}(h:jBO B b3 b8 b9 b10 us Bp out j opn rest w)(hu:jA7 Bp u P w)(hk:Keeps jEM w w2)(hb:Below B w w2)
 (h8:∃cs,w2.heap[b8]? = some (.cells cs 47 (0,0))∧cs.size=1) (hr:w2.ownsRow B 39 1 v' (out.length+1) (us++[u])) :
 jBO B b3 b8 b9 b10 (us++[u]) w2.heap.size (out++[P]) js0 opn rest (((w2.setCell ⟨b8,0,none⟩ v').setCell ⟨b9,0,none⟩ (.slice none 0 0)).setCell ⟨b9,1,none⟩ (.slice none 0 0)):=by
 obtain⟨v3,h31,h32⟩:=h.at3
 obtain⟨_,vo,vt,hjb,hjo,hjt,_⟩:=h.jn
 obtain⟨cs,h8,h8s⟩:=h8
 have h9:w2.heap[b9]? = some (.cells #[vo,vt] 92 (0,0)):=hk.same _ _ hjb ⟨by decide,by decide⟩
 have h3:w2.heap[b3]? = some (.cells #[v3] 78 (0,0)):=hk.same _ _ h31 ⟨by decide,by decide⟩
 have n89:b8≠b9:=by rintro rfl;rw[h8]at h9;cases h9
 have n39:b3≠b9:=by rintro rfl;rw[h3]at h9;cases h9
 have n38:b3≠b8:=by rintro rfl;rw[h3]at h8;cases h8
 have a1:∀k,k≠b8→k≠b9→(((w2.setCell ⟨b8,0,none⟩ v').setCell ⟨b9,0,none⟩ (.slice none 0 0)).setCell ⟨b9,1,none⟩ (.slice none 0 0)).heap[k]? = w2.heap[k]?:=fun k k1 k2=>by
  rw[Below.heap_setCell _ _ _ _ k2,Below.heap_setCell _ _ _ _ k2,Below.heap_setCell _ _ _ _ k1]
 have jFR:Keeps (fun o=>match o with | .cells _ t _=>t≠47∧t≠92 | _=>True) w2 (((w2.setCell ⟨b8,0,none⟩ v').setCell ⟨b9,0,none⟩ (.slice none 0 0)).setCell ⟨b9,1,none⟩ (.slice none 0 0)):=by
  refine⟨by simp,fun k o ho hc=>(a1 k ?_ ?_).trans ho⟩
  ·rintro rfl;rw[h8]at ho;cases ho;exact hc.1 rfl
  ·rintro rfl;rw[h9]at ho;cases ho;exact hc.2 rfl
 have hbl:Below B w (((w2.setCell ⟨b8,0,none⟩ v').setCell ⟨b9,0,none⟩ (.slice none 0 0)).setCell ⟨b9,1,none⟩ (.slice none 0 0)):=((hb.setCell (p:=⟨b8,0,none⟩) h.l8 _).setCell (p:=⟨b9,0,none⟩) h.l9 _).setCell (p:=⟨b9,1,none⟩) h.l9 _
 have hle:Bp≤w2.heap.size:=Nat.le_trans h.lt hk.size
 have hu2:=hk.row hu (fun _=>⟨by decide,by decide⟩)
 refine⟨⟨v3,(a1 b3 n38 n39).trans h3,h32.below hbl⟩,⟨v',?_,?_⟩,by simp[h.len],fun i hi=>?_,?_,(h.stk.keeps hk (fun _=>⟨by decide,by decide⟩) (fun _=>⟨by decide,by decide⟩)).keeps jFR (fun _=>⟨by decide,by decide⟩) (fun _=>⟨by decide,by decide⟩),Nat.le_trans h.le hle,by simp,h.l3,h.l8,h.l9⟩
 ·rw[Below.heap_setCell _ _ _ _ n89,Below.heap_setCell _ _ _ _ n89,jBC h8]
  have:cs=#[cs[0]'(by omega)]:=by
   apply Array.ext
   ·simp[h8s]
   ·intro i h1 h2
    have:i=0:=by omega
    subst this
    simp
  rw[this]
  rfl
 ·rw[List.length_append,List.length_singleton]
  exact jFR.row hr (fun _=>⟨by decide,by decide⟩)
 ·rw[List.length_append,List.length_singleton]at hi
  by_cases hio:i<out.length
  ·rw[jCc us _ _ (by rw[h.len];exact hio),jCc out _ _ hio]
   refine⟨jFR.row (hk.row (h.old i hio).1 (fun _=>⟨by decide,by decide⟩)) (fun _=>⟨by decide,by decide⟩),fun b hb'=>?_⟩
   have:=(h.old i hio).2 b hb'
   omega
  ·obtain rfl:i=out.length:=by omega
   have e1:(us++[u]).getD out.length jDy=u:=by rw[List.getD_eq_getElem?_getD,List.getElem?_append_right (by rw[h.len];exact Nat.le_refl _),h.len];simp
   have e2:(out++[P]).getD out.length []=P:=by rw[List.getD_eq_getElem?_getD,List.getElem?_append_right (Nat.le_refl _)];simp
   rw[e1,e2]
   exact⟨jFR.row (jCu hu2 h.le) (fun _=>⟨by decide,by decide⟩),fun b hb'=>(World.ownsRow.lt hu2 b hb').2⟩
 ·refine⟨Nat.zero_le _,.slice none 0 0,.slice none 0 0,?_,jA7.nil _ _,World.ownsRow_nil _ _ _ _,fun _=>rfl⟩
  have h92:(w2.setCell ⟨b8,0,none⟩ v').heap[b9]? = some (.cells #[vo,vt] 92 (0,0)):=(Below.heap_setCell _ _ _ _ (fun e=>n89 e.symm)).trans h9
  rw[jBC (jBC h92 _)]
  rfl
theorem jBO.tail {v':Value}(h:jBO B b3 b8 b9 b10 us Bp out j opn rest w)(hv:jAO B w v' rest.tail.length 1 (atF rest.tail)):jBO B b3 b8 b9 b10 us Bp out j opn rest.tail (w.setCell ⟨b3,0,none⟩ v'):=by
 obtain⟨v3,h31,h32⟩:=h.at3
 obtain⟨v8,h81,h82⟩:=h.prt
 have hbl:Below B w (w.setCell ⟨b3,0,none⟩ v'):=(Below.refl B w).setCell (p:=⟨b3,0,none⟩) h.l3 _
 have jFR:Keeps calmZ w (w.setCell ⟨b3,0,none⟩ v') :=
  ⟨by simp,fun k o ho hc=>(Below.heap_setCell _ _ _ _ (by rintro rfl;rw[h31]at ho;cases ho;exact hc.1 rfl)).trans ho⟩
 exact⟨⟨v',by rw[jBC h31];rfl,hv.below hbl⟩,⟨v8,jFR.same _ _ h81 (⟨by decide,trivial⟩),jFR.row h82 fun _=>⟨by decide,trivial⟩⟩,h.len,fun i hi=>⟨jFR.row (h.old i hi).1 fun _=>⟨by decide,trivial⟩,(h.old i hi).2⟩,h.jn.keeps jFR (fun _=>⟨by decide,trivial⟩) (fun _=>⟨by decide,trivial⟩) (fun _=>⟨by decide,trivial⟩),h.stk.keeps jFR (fun _=>⟨by decide,trivial⟩) (fun _=>⟨by decide,trivial⟩),h.le,by rw[jHk];exact h.lt,h.l3,h.l8,h.l9⟩
def jCs (B b3 b8 b9 b10:Nat)(us:List Value)(Bp:Nat)(out:List (List Pc))(P:List Pc)(opn:List ByteArray)(rest:List Int)(W1 w:World):Prop :=
 ∃ (wp w2:World) (u v':Value) (j:Js),jBO B b3 b8 b9 b10 us Bp out j opn rest wp∧jA7 Bp u P wp∧Keeps jEM wp w2∧Below B wp w2∧(∃cs,w2.heap[b8]? = some (.cells cs 47 (0,0))∧cs.size=1) ∧
  w2.ownsRow B 39 1 v' (out.length+1) (us++[u])∧w=w2.setCell ⟨b8,0,none⟩ v'∧Acc B W1 w
theorem jCs.box9 {P:List Pc}{W1:World}(h:jCs B b3 b8 b9 b10 us Bp out P opn rest W1 w):∃vo vt,w.heap[b9]? = some (.cells #[vo,vt] 92 (0,0)):=by
 obtain⟨wp,w2,u,v',j,h1,_,hk,_,⟨cs,h8,_⟩,_,rfl,_⟩:=h
 obtain⟨_,vo,vt,hjb,_⟩:=h1.jn
 have h9:=hk.same _ _ hjb ⟨by decide,by decide⟩
 exact⟨vo,vt,(Below.heap_setCell _ _ _ _ (by rintro rfl;rw[h8]at h9;cases h9)).trans h9⟩
theorem jCs.reset {P:List Pc}{W1:World}(h:jCs B b3 b8 b9 b10 us Bp out P opn rest W1 w) :
 (∃us' Bp',jBO B b3 b8 b9 b10 us' Bp' (out++[P]) js0 opn rest ((w.setCell ⟨b9,0,none⟩ (.slice none 0 0)).setCell ⟨b9,1,none⟩ (.slice none 0 0)))∧Acc B W1 ((w.setCell ⟨b9,0,none⟩ (.slice none 0 0)).setCell ⟨b9,1,none⟩ (.slice none 0 0)):=by
 obtain⟨vo,vt,h9⟩:=h.box9
 obtain⟨wp,w2,u,v',j,h1,hu,hk,hb,h8,hr,rfl,ha⟩:=h
 exact⟨⟨_,_,h1.part hu hk hb h8 hr⟩,(ha.trans (Acc.set h9 h1.l9 (jA3 (by decide) (by decide)) 0 _)).trans (Acc.set (jBC h9 _) h1.l9 (jA3 (by decide) (by decide)) 1 _)⟩
theorem jCs.parts {P:List Pc}{W1:World}(h:jCs B b3 b8 b9 b10 us Bp out P opn rest W1 w) :
 ∃v',w.heap[b8]? = some (.cells #[v'] 47 (0,0))∧jEZ w v' (out++[P])∧Acc B W1 w:=by
 have h0:=h
 obtain⟨vo,vt,h9⟩:=h.box9
 obtain⟨_,hA⟩:=h.reset
 obtain⟨wp,w2,u,v',j,h1,hu,hk,hb,h8,hr,rfl,ha⟩:=h
 have hp:=h1.part hu hk hb h8 hr
 obtain⟨v8,e8,r8⟩:=hp.prt
 have n89:b8≠b9:=by rintro rfl;obtain⟨cs,h8',_⟩:=h8;rw[jBC h8']at h9;injection h9 with h9;injection h9 with _ ht _;exact absurd ht (by decide)
 have e8':(w2.setCell ⟨b8,0,none⟩ v').heap[b8]? = some (.cells #[v8] 47 (0,0)):=by
  rw[Below.heap_setCell _ _ _ _ n89,Below.heap_setCell _ _ _ _ n89]at e8
  exact e8
 have hv:v8=v':=by
  obtain⟨cs,h8',hs⟩:=h8
  rw[jBC h8']at e8'
  have:cs.setIfInBounds 0 v'=#[v8]:=by injection e8' with e;injection e
  have h2:(cs.setIfInBounds 0 v')[0]? = some v':=by simp[hs]
  rw[this]at h2
  simpa using h2
 subst hv
 -- the joiner alone lies otherwise
 have jFR:∀ {sz n:Nat} {e:TypeId} {x:Value} {xs:List Value},((((w2.setCell ⟨b8,0,none⟩ v8).setCell ⟨b9,0,none⟩ (.slice none 0 0)).setCell ⟨b9,1,none⟩ (.slice none 0 0))).ownsRow B e sz x n xs→e≠92→(w2.setCell ⟨b8,0,none⟩ v8).ownsRow B e sz x n xs:=by
  intro sz n e x xs jA4 hne
  refine⟨jA4.1,?_⟩
  rcases jA4.2 with hn | ⟨g,cap,cur,hx,hg,hh,r⟩
  ·exact .inl hn
  ·refine .inr ⟨g,cap,cur,hx,hg,?_,r⟩
   have hgb:g≠b9:=by
    rintro rfl
    rw[jBC (jBC h9 _)]at hh
    injection hh with hh
    injection hh with _ ht _
    exact hne ht.symm
   rwa [Below.heap_setCell _ _ _ _ hgb,Below.heap_setCell _ _ _ _ hgb]at hh
 refine⟨v8,e8',⟨us++[u],by simpa using hp.len,jCu (jFR r8 (by decide)) (Nat.zero_le _),fun i hi=>jCu (jFR (hp.old i hi).1 (by decide)) (Nat.zero_le _)⟩,ha⟩
theorem jSQ (A:Addr)(i:Nat):({ block:=A.block,off:=A.off+1 }:Addr).add (i*1+0)=A.add ((i+1)*1+0):=by
 unfold Addr.add
 by_cases h:i=0
 ·subst h;simp
 ·have h1:¬(i*1+0=0):=by omega
  have h2:¬((i+1)*1+0=0):=by omega
  simp[h]
  omega
theorem jBO.cutTail {pl:Int}{r:List Int}{A:Addr}{q:Nat}(h:jBO B b3 b8 b9 b10 us Bp out j opn (pl :: r) w)(hq:r.length+1≤q)(hm:q≤maxLen)(hA:A.block<B)
 (hc:∀i k,i<r.length+1→k<1→w.cell? (A.add (i*1+k))=some (atF (pl :: r) i k)) :
 jBO B b3 b8 b9 b10 us Bp out j opn r (w.setCell ⟨b3,0,none⟩ (.slice (some { block:=A.block,off:=A.off+1 }) r.length (q-1))):=by
 refine jBO.tail (rest:=pl :: r) h ⟨_,_,rfl,by simp;omega,by omega,fun _=>⟨_,rfl,hA,fun i k hi hk=>?_⟩⟩
 obtain rfl:k=0:=by omega
 rw[jSQ]
 have:=hc (i+1) 0 (by simp at hi;omega) (by omega)
 rw[this]
 simp[atF]
theorem jBO.cutTail0 {pl:Int}{A:Addr}(h:jBO B b3 b8 b9 b10 us Bp out j opn [pl] w) :
 jBO B b3 b8 b9 b10 us Bp out j opn [] (w.setCell ⟨b3,0,none⟩ (.slice (some A) 0 0)) :=
 jBO.tail (rest:=[pl]) h ⟨_,_,rfl,by simp,by unfold maxLen;omega,fun h0=>absurd h0 (by simp)⟩
theorem jBO.stack_form (h:jBO B b3 b8 b9 b10 us Bp out j opn rest w):∃ao cap,w.heap[b10]? = some (.cells #[.slice ao opn.length cap] 138 (0,0))∧w.ownsRow B 9 1 (.slice ao opn.length cap) opn.length (opn.map Value.string):=by
 obtain⟨_,v,h1,h2,_⟩:=h.stk
 rcases h2.2 with ⟨rfl,h0⟩ | ⟨g,cap,cur,rfl,_⟩
 ·exact⟨none,0,by rw[h0];exact h1,by rw[h0];rw[h0]at h2;exact h2⟩
 ·exact⟨_,_,h1,h2⟩
theorem jP9 (j:Js)(xs:List Pc)(x:Pc):jDs j (xs++[x])=js3 x (jDs j xs):=by unfold jDs;rw[List.foldl_append];rfl
def clP (y:Nat × ByteArray):Pc:=⟨3,jJH y.2,true⟩
theorem jNh {o:List ByteArray}(h:∀s ∈ o,s.size≤16):(jDo o o.length).map clP=jAE o:=by
 have e:=jJ1 o o.length (Nat.le_refl _)
 rw[List.take_length]at e
 unfold jAE
 rw[←e,List.map_map]
 apply List.map_congr_left
 intro y hy
 have:y.2 ∈ o:=by
  have h1:y.2 ∈ (jDo o o.length).map Prod.snd:=List.mem_map_of_mem hy
  rw[e]at h1
  exact List.mem_reverse.1 h1
 show (⟨3,jJH y.2,true⟩:Pc)=⟨3,y.2,true⟩
 rw[jPN (by have:=h _ this;omega)]
end
end Go.Proofs.YtldapapdolkiaaaGreatDoor
