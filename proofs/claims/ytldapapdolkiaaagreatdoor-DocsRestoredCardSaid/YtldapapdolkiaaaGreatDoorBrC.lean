/- The units of a list, gathered in a row, by the program. The units that the program gathers are those of the data, in places 0, 1, .. No run of any program here. The gathered units in memory; the tests of a pattern made: one, same, symbol. A pattern compiled, by the program. A pattern compiled, by the program: the call. -/
import Derived.Test.YtldapapdolkiaaaGreatDoorCuC
import Derived.Test.YtldapapdolkiaaaGreatDoorBrA
import Derived.Lib.TrimUEq
import Derived.Laws.ResultCell
namespace Go.Proofs.YtldapapdolkiaaaGreatDoor
set_option maxHeartbeats 64000000
open Go Go.RowKit Go.Lib
set_option maxRecDepth 100000
attribute [local go_sem] Oper.semAt_some
theorem jOb {α:Type}{n:Nat}{P:Program}{g:Operand}{ps:Array Tmp}{assign body:Code}{Q:Exit→Act→World→Prop}{a:Act}{w:World}
 {gf:Nat} {lb:Array Value} (hg:a.eval g=.func (.func gf) #[] lb) (eg:∀args w,(callFunc gf args).run P w=.ok (.enter gf args) w)
 {encs:α→Array Value} {Kp:World→World→Prop} {S Sp:List α→Prop} {N:Nat} {w0:World} (hseq:jKN (n-1) P gf lb encs Kp S Sp N w0)
 (hKt:∀ {A B C:World},Kp A B→Kp B C→Kp A C) (hKb:∀ (W:World) (l:Nat) (o o':Obj),w.heap.size≤l→W.heap[l]? = some o→o.isCells=false→o.isWalk=false→Kp W (W.putObj l o')) (hb0:Below w0.heap.size w0 w) (hps:∀x,(encs x).size=ps.size)
 (I:List α→World→Prop) (Ix:Code→List α→World→Prop) (hI:OwnFrom w.heap.size I) (hIx:∀c,OwnFrom w.heap.size (Ix c)) (h0:I [] w) (a₁:α→World→Act) (asg:α→World→World) (hasg:∀x W,Below W.heap.size W (asg x W)) (hasK:∀x W,w.heap.size≤W.heap.size→Kp W (asg x W))
 (jOO:∀ (l:Nat) (x:α) (W:World) (K:Act→World→Prop),K (a₁ x W) (asg x W) →
   assign.wpIn (Fence.wide.inRound l) (n-1-1) P (Exit.then K (fun _ _ _=>False)) { tmps:=(ps.zip (encs x)).foldl (fun t (p,v)=>t.setIfInBounds p v) a.tmps,defers:=[] } W)
 (jNq:∀ (l:Nat) (pre:List α) (x:α) (W0 W:World),I pre W0→I pre W→pre.length<N→(∀ (k:Nat) (o:Obj),(asg x W0).heap[k]? = some o→o.isCells=true→W.heap[k]? = some o)→body.wpIn (Fence.wide.inRound l) (n-1-1) P (ownPostG w.heap.size Kp I Ix (pre++[x]) W) (a₁ x W0) W)
 (jYG:∀ (D:Nat) (xs:List α) (W:World),w.heap.size≤D→S xs→I xs W→W.heap[D]? = some (.deferred (some []))→Q .normal { a with defers:={ target:=.collected D,args:=#[] } :: a.defers } W)
 (jYH:∀ (D:Nat) (c:Code) (pre:List α) (W:World),w.heap.size≤D→Sp pre→Ix c pre W→W.heap[D]? = some (.deferred (some []))→c.wpIn Fence.wide n P Q { a with defers:={ target:=.collected D,args:=#[] } :: a.defers } W) :
 (Code.rangeFunc g ps assign body).wpIn Fence.wide n P Q a w:=by
 refine wpIn_rangeFunc fun fn _=>?_
 obtain⟨rc,hrc⟩:∃rc:LoopState→Option Code→Loop,rc=fun st pe=>{ state:=st,pending:=pe,fn,tmps:=a.tmps,params:=ps,assign,body,defers:=w.heap.size }:=⟨_,rfl⟩
 have hz:(w.alloc (.deferred (some []))).heap.size=w.heap.size+1:=World.size_alloc ..
 obtain⟨V,hV⟩:∃V,V=(w.alloc (.deferred (some []))).alloc (.loop (rc .ready none)):=⟨_,rfl⟩
 have hVs:V.heap.size=w.heap.size+2:=by rw[hV,World.size_alloc,hz]
 have hVl:V.heap[w.heap.size+1]? = some (.loop (rc .ready none)):=by rw[hV,←hz];exact World.alloc_heap_new ..
 have hVd:V.heap[w.heap.size]? = some (.deferred (some [])):=by rw[hV];exact (Below.heap_alloc _ _ _ (by omega)).trans (World.alloc_heap_new w _)
 have hVb:Below w0.heap.size w0 V:=by rw[hV];exact hb0.trans ((((Below.refl _ w).alloc (Nat.le_refl _) _).alloc (by omega) _).mono hb0.size)
 have hVi:I [] V:=by rw[hV];exact hI.alloc _ (hI.alloc _ h0)
 refine⟨w.heap.size+1,[{ target:=.collected w.heap.size,args:=#[] }],V,{ target:=.fn (.func gf) lb,args:=#[.func (.yield (w.heap.size+1)) #[] #[]] },V,gf,
  #[.func (.yield (w.heap.size+1)) #[] #[]]++lb,V,?_,?_,?_,?_,(fun h=>by cases h),?_⟩
 ·rw[hV,hrc];exact run_enterLoop_outer _ _ _ _ _
 ·simp only[resolve,hg]
  simp[go_sem]
 ·exact fun _ _=>trivial
 ·simp[invoke,go_sem,eg]
 ·have low:∀ {X:World} {row:Option Nat},(∀r,row=some r→V.heap.size≤r∧∃q:Obj,X.heap[r]? = some q∧q.isCells=false)→∀r,row=some r→w.heap.size≤r∧∃q:Obj,X.heap[r]? = some q∧q.isCells=false :=
   fun h r e=>⟨by have:=(h r e).1;omega,(h r e).2⟩
  refine (hseq (w.heap.size+1)
   (fun pre W=>I pre W∧W.heap[w.heap.size+1]? = some (.loop (rc .ready none))∧W.heap[w.heap.size]? = some (.deferred (some [])))
   (fun pre W=>∃c,Ix c pre W∧W.heap[w.heap.size+1]? = some (.loop (rc .done (some c)))∧W.heap[w.heap.size]? = some (.deferred (some [])))
   V hVb (fun s X Y row hs hgr hr=>⟨hI s X Y row hs.1 hgr (low hr),jE2 hs.2.1 (by omega) hgr hr,jE2 hs.2.2 (by omega) hgr hr⟩)
   (fun s X Y row ⟨c,h1,h2,h3⟩ hgr hr=>⟨c,hIx c s X Y row h1 hgr (low hr),jE2 h2 (by omega) hgr hr,jE2 h3 (by omega) hgr hr⟩)
   ?_ ⟨hVi,hVl,hVd⟩).mono ?_
  ·rintro pre x W0 ⟨hi,hl,hd⟩ jBi
   have hy:=run_yield (P:=P) (args:=encs x) hl (by rw[hrc];exact hps x)
   rw[hrc]at hy
   refine⟨fn,_,assign,body,hy,roundIn_of_wpIn trivial (jOO _ x W0 _ ?_)⟩
   have hi0:=hi
   have hb1:=hasg x W0
   have hk1:=hasK x W0 (by have:=lt_of_block hl;omega)
   have hi:=jCq hI hi hb1
   have hl:=(hb1.block _ (lt_of_block hl)).trans hl
   have hd:=(hb1.block _ (lt_of_block hd)).trans hd
   have hf1:KeepsFrom V.heap.size W0 (asg x W0):=KeepsFrom.of_below hb1
   obtain⟨W,hWe⟩:∃W,asg x W0=W:=⟨_,rfl⟩
   rw[hWe]at hi hl hd hk1 hf1 ⊢
   have hlt:=lt_of_block hl
   refine⟨_,run_beginRound hl (by rw[hrc]),?_⟩
   have hl2:(W.putObj (w.heap.size+1) (.loop { rc .ready none with state:=.busy })).heap[w.heap.size+1]? = some (.loop { rc .ready none with state:=.busy }):=World.putObj_heap_same hlt
   have hd2:(W.putObj (w.heap.size+1) (.loop { rc .ready none with state:=.busy })).heap[w.heap.size]? = some (.deferred (some [])):=(World.putObj_heap_other (by omega)).trans hd
   have hk2:Kp W0 (W.putObj (w.heap.size+1) (.loop { rc .ready none with state:=.busy })):=hKt hk1 (hKb _ _ _ _ (by omega) hl rfl rfl)
   have hf2:KeepsFrom V.heap.size W0 (W.putObj (w.heap.size+1) (.loop { rc .ready none with state:=.busy })):=hf1.trans (KeepsFrom.putObj (by omega))
   refine wpIn_mono (jNq _ pre x W0 _ hi0 (hI.putObj _ hi (by omega) hl rfl) jBi (fun k o hk ho=>(World.putObj_heap_other (fun e=>by rw[e,hWe,hl]at hk;cases hk;cases ho)).trans (hWe▸hk))) ?_
   have fin:∀ (jump:Option Code) (W3:World),KeepsFrom w.heap.size (W.putObj (w.heap.size+1) (.loop { rc .ready none with state:=.busy })) W3 →
    ∃W4,(Instr.endRound (w.heap.size+1) jump).run P W3=.ok (.bool jump.isNone) W4∧W4=W3.putObj (w.heap.size+1) (.loop (rc (if jump.isNone then .ready else .done) jump))∧(∃o,W3.heap[w.heap.size+1]? = some o∧o.isCells=false∧o.isWalk=false) ∧
    W4.heap[w.heap.size+1]? = some (.loop (rc (if jump.isNone then .ready else .done) jump))∧W4.heap[w.heap.size]? = some (.deferred (some []))∧KeepsFrom V.heap.size W0 W4:=fun jump W3 hk3=>by
    have hl3:=hk3.same _ _ (by omega) hl2 rfl
    have hr3:=run_endRound (P:=P) jump hl3
    rw[hrc]at hr3
    refine⟨_,by rw[hrc];exact hr3,rfl,⟨_,hl3,rfl,rfl⟩,World.putObj_heap_same (lt_of_block hl3),(World.putObj_heap_other (by omega)).trans (hk3.same _ _ (Nat.le_refl _) hd2 rfl),(hf2.trans ?_).trans (KeepsFrom.putObj (by omega))⟩
    exact⟨hk3.size,fun k o hk ho hc=>hk3.same k o (by omega) ho hc⟩
   rintro e a3 W3 hp
   cases e with
   | normal =>
     obtain⟨hk3,qAO,hi3⟩:=hp
     obtain⟨W4,hr,rfl,⟨o,ho,hc,hw⟩,hl4,hd4,hf4⟩:=fin none W3 hk3
     exact⟨_,_,hr,.inl ⟨rfl,⟨hI.putObj _ hi3 (by omega) ho hc,hl4,hd4⟩,hKt (hKt hk2 qAO) (hKb _ _ _ _ (by omega) ho hc hw),hf4⟩⟩
   | ret =>
     obtain⟨hk3,hi3⟩:=hp
     obtain⟨W4,hr,rfl,⟨o,ho,hc,hw⟩,hl4,hd4,hf4⟩:=fin (some .ret) W3 hk3
     exact⟨_,_,hr,.inr ⟨rfl,⟨.ret,(hIx _).putObj _ hi3 (by omega) ho hc,hl4,hd4⟩,hf4⟩⟩
   | exit id =>
     obtain⟨hk3,hi3⟩:=hp
     obtain⟨W4,hr,rfl,⟨o,ho,hc,hw⟩,hl4,hd4,hf4⟩:=fin (some (.exit id)) W3 hk3
     exact⟨_,_,hr,.inr ⟨rfl,⟨.exit id,(hIx _).putObj _ hi3 (by omega) ho hc,hl4,hd4⟩,hf4⟩⟩
   | goto t =>
     obtain⟨hk3,hi3⟩:=hp
     obtain⟨W4,hr,rfl,⟨o,ho,hc,hw⟩,hl4,hd4,hf4⟩:=fin (some (.goto t)) W3 hk3
     exact⟨_,_,hr,.inr ⟨rfl,⟨.goto t,(hIx _).putObj _ hi3 (by omega) ho hc,hl4,hd4⟩,hf4⟩⟩
   | panic ch=>exact hp.elim
   | outgrown=>exact hp.elim
  ·rintro e W2 ⟨⟨v,rfl⟩,(⟨xs,hS,hi,hl,hd⟩ | ⟨pre,hSp,c,hi,hl,hd⟩)⟩
   ·exact⟨none,_,by have:=run_endLoop (P:=P) hl (by rw[hrc];simp);rw[hrc]at this;exact this,jYG _ xs _ (Nat.le_refl _) hS (hI.putObj _ hi (by omega) hl rfl) ((World.putObj_heap_other (by omega)).trans hd)⟩
   ·exact⟨some c,_,by have:=run_endLoop (P:=P) hl (by rw[hrc];simp);rw[hrc]at this;exact this,jYH _ c pre _ (Nat.le_refl _) hSp ((hIx c).putObj _ hi (by omega) hl rfl) ((World.putObj_heap_other (by omega)).trans hd)⟩
theorem jRl:(Tryz.prog.info? 198).map (fun i=>(i.zero,i.size,i.bytes))=some (some (.agg #[.int .u8 0,.int .i32 0]),2,8):=by kernel_rfl
def jCD (us:List (Int × Nat)):List Value:=us.flatMap fun u=>[.int .u8 u.1,.int .i32 (u.2:Int)]
theorem jQL (us vs:List (Int × Nat)):jCD (us++vs)=jCD us++jCD vs:=by unfold jCD;exact List.flatMap_append
def jEE (B b:Nat)(us:List (Int × Nat))(W:World):Prop:=∃v,W.heap[b]? = some (.cells #[v] 124 (0,0))∧W.ownsRow B 198 2 v us.length (jCD us)
theorem jEE.step {B b:Nat}{us:List (Int × Nat)}{W W':World}(h:jEE B b us W)(hb:Below W.heap.size W W'):jEE B b us W':=by
 obtain⟨v,h1,h2⟩:=h
 have hk:=Keeps.below (C:=fun _=>True) hb
 exact⟨v,hk.same _ _ h1 trivial,hk.row h2 fun _=>trivial⟩
theorem jEE.turned {B b base:Nat}{us:List (Int × Nat)}{X Y:World}{row:Option Nat}(h:jEE B b us X)(hg:X.grownBy Y row)(hr:∀r,row=some r→base≤r∧∃o:Obj,X.heap[r]? = some o∧o.isCells=false):jEE B b us Y:=by
 obtain⟨v,h1,h2⟩:=h
 have hk:Keeps (fun o=>o.isCells=true) X Y:=⟨hg.size,fun k o hk ho=>(hg.block k (lt_of_block hk) (fun e=>by obtain⟨_,q,hq,hqc⟩:=hr k e.symm;rw[hk]at hq;cases hq;rw[ho]at hqc;cases hqc)).trans hk⟩
 exact⟨v,hk.same _ _ h1 rfl,hk.row h2 fun _=>rfl⟩
theorem jEE.put {B b:Nat}{us:List (Int × Nat)}{W W2:World}{v0 v':Value}{u:Int × Nat}{o:Obj}(hbx:W.heap[b]? = some (.cells #[v0] 124 (0,0)))(jAN:W.ownsRow B 198 2 v0 us.length (jCD us))(hB:B≤b)(hg:(W.alloc o).grownBy W2 v0.ownBlock)(hr:W2.ownsRow B 198 2 v' (us.length+1) (jCD us++[.int .u8 u.1,.int .i32 (u.2:Int)])) :
 jEE B b (us++[u]) (W2.setCell ⟨b,0,none⟩ v')∧Acc B W (W2.setCell ⟨b,0,none⟩ v'):=by
 have hBW:B≤W.heap.size:=by have:=lt_of_block hbx;omega
 have hl:=lt_of_block hbx
 have jYJ:(W.alloc o).heap[b]? = some (.cells #[v0] 124 (0,0)):=(Below.heap_alloc _ _ _ hl).trans hbx
 have jLC:(W.alloc o).ownsRow B 198 2 v0 us.length (jCD us):=jAN.alloc _
 have h2:W2.heap[b]? = some (.cells #[v0] 124 (0,0)):=(hg.block b (lt_of_block jYJ) (fun e=>jAI jLC jYJ (by decide) e.symm)).trans jYJ
 have hk:Keeps jFt (W.alloc o) W2:=Keeps.grown jLC hg (fun _=>jA3 (by decide) (by decide))
 have hn:∀ (k:Nat) (q:Obj),(W.alloc o).heap[k]? = some q→q.isCells=false→W2.heap[k]? = some q:=fun k q hk hq=>(hg.block k (lt_of_block hk) (fun e=>by
  rcases jLC.2 with ⟨rfl,_⟩ | ⟨g,cap,cur,rfl,_,hgg,_⟩
  ·simp[Value.ownBlock]at e
  ·simp only[Value.ownBlock,Option.some.injEq]at e
   subst e
   rw[hgg]at hk;cases hk;cases hq)).trans hk
 have hb2:Below B (W.alloc o) W2:=(Below.refl _ _).grown hg (by simp;omega) (fun k e=>(jLC.lt k e).1)
 have hz:Keeps (fun q=>match q with | .cells _ t _=>t≠124 | _=>True) W2 (W2.setCell ⟨b,0,none⟩ v') :=
  (Keeps.refl _ _).setCell h2 (fun h=>h rfl) 0 _
 refine⟨⟨v',by rw[jBC h2];rfl,?_⟩,(Acc.step hBW (jAb o)).trans (Acc.trans ⟨hb2,hn,hk⟩ (Acc.set h2 hB (jA3 (by decide) (by decide)) 0 _))⟩
 rw[List.length_append,List.length_singleton,jQL]
 exact hz.row hr fun _=>(show 198≠124 by decide)
theorem jD4 {W:World}{B sz n:Nat}{e:TypeId}{v:Value}{xs:List Value}(h:W.ownsRow B e sz v (n+1) xs):∃q c,v=.slice q (n+1) c:=by
 rcases h.2 with ⟨_,h0⟩ | ⟨g,cp,cur,hv9,_⟩
 ·omega
 ·exact⟨_,_,hv9⟩
def asgU (x:Nat × (Int × Nat))(W:World):World:=W.alloc (.cells #[.int .u8 x.2.1,.int .i32 (x.2.2:Int)] 198)
theorem jQv (f:Nat→Int)(l:List Pc)(v:Value)(w:World)(hv:jBe w v l)(hE:jAu l=0)(hb:bulk l≤10000)(hT:Tabs w)(hf:jGn f w) :
 Calls Tryz.prog 76 #[v] w fun e w'=>(∃r,e=.returned r∧w'.ownsRow w.heap.size 198 2 r (jAV f (placed 0 (jAh l))).length (jCD ((jAV f (placed 0 (jAh l))).map Prod.snd)))∧Below w.heap.size w w':=by
 have hG:=hT.2.2
 have hu8:=hT.2.1
 have hV:=hv
 obtain⟨p,cap,rfl,hl,hc,jA4⟩:=hv
 unfold maxLen at hc
 clear jA4
 have jDx:=jCV hE
 have cU:=fun w=>jFO p l.length cap w
 have hNs:(jAh l).length≤10000:=Nat.le_trans (jFo l) hb
 have au:=Tryz.isAgg198
 have zu:=Tryz.sizeOf198
 obtain⟨i0,hi0,hz0,hz1,hz2⟩:∃i,Tryz.prog.info? 198=some i∧i.zero=some (.agg #[.int .u8 0,.int .i32 0])∧i.size=2∧i.bytes=8:=by
  have h:=jRl
  cases hq:Tryz.prog.info? 198 with
  | none=>rw[hq]at h;cases h
  | some i=>rw[hq]at h;simp only[Option.map_some,Option.some.injEq,Prod.mk.injEq]at h;exact⟨i,rfl,h.1,h.2.1,h.2.2⟩
 refine (callsIn_wide (n:=9)).1 ?_
 refine callsIn_of_wp_marks Tryz.func76 rfl trivial ?_ rfl
 simp only[Tryz.ntmps76,List.size_toArray,List.length_cons,List.length_nil,Nat.reduceAdd,Nat.reduceSub,Array.replicate_succ,Array.replicate_zero,List.push_toArray,List.append_toArray,List.nil_append,List.cons_append]
 gi_wp2_with (refine⟨trivial,?_⟩;gi_at_call 77;(with_reducible refine (callsIn_wide.2 (cU _)).mono ?_);rintro e w3 ⟨rfl,rfl⟩)
 have HN0:=hid (show jEE w.heap.size w.heap.size [] ((w.alloc (.cells #[.slice none 0 0] 124)).alloc (.cells #[.slice p l.length cap] 39)) from ⟨.slice none 0 0,by rw[Below.heap_alloc _ _ _ (by simp)];exact heap_alloc_new w _,World.ownsRow_nil _ _ _ _⟩)
 have HX0:=hid (show ((w.alloc (.cells #[.slice none 0 0] 124)).alloc (.cells #[.slice p l.length cap] 39)).heap[w.heap.size+1]? = some (.cells #[.slice p l.length cap] 39 (0,0)) by
  have:=heap_alloc_new (w.alloc (.cells #[.slice none 0 0] 124)) (.cells #[.slice p l.length cap] 39)
  rwa [show (w.alloc (.cells #[.slice none 0 0] 124)).heap.size=w.heap.size+1 by simp]at this)
 have HB2:=hid (jAa (jAb (w:=w) (.cells #[.slice none 0 0] 124)) (jAb (w:=w.alloc (.cells #[.slice none 0 0] 124)) (.cells #[.slice p l.length cap] 39)))
 have hs2:((w.alloc (.cells #[.slice none 0 0] 124)).alloc (.cells #[.slice p l.length cap] 39)).heap.size=w.heap.size+2:=by simp
 generalize (w.alloc (.cells #[.slice none 0 0] 124)).alloc (.cells #[.slice p l.length cap] 39)=Wr at *
 have cT:=jJ8 f (9-1) (by omega) w.heap.size (w.heap.size+1) l p cap Wr (fun i hi h=>jHc (jDx i hi) h) (fun i hi=>by have:=jBJ hi;omega) (fun i hi h=>jDL (jDx i hi) h) (by omega) HX0.out (by omega) hG (Utf8Tabs_below hu8 HB2.out) (hf.below HB2.out (by omega)) (hV.below HB2.out)
 have hpl:(placed 0 (jAh l)).length≤10000:=by rw[jCK];exact hNs
 refine jOb (gf:=140) (lb:=#[.pointer (some ⟨w.heap.size+1,0,none⟩)]) rfl (enters_of Tryz.func140 (by kernel_rfl) rfl)
  cT KpS.t (KpS.b (by omega)) (Below.refl _ _) (fun _=>rfl)
  (fun (pre:List (Nat × (Int × Nat))) W'=>jEE w.heap.size w.heap.size (pre.map Prod.snd) W'∧Below w.heap.size w W')
  (fun _ _ _=>False)
  (fun pre X Y row ⟨h1,h2⟩ hg hr=>⟨h1.turned hg hr,h2.grown hg h2.size (fun k e=>by have:=(hr k e).1;omega)⟩)
  (fun c pre X Y row h=>h.elim)
  ⟨HN0.out,HB2.out⟩
  (fun y W=>{ tmps:=#[.slice p l.length cap,undef,.slice none 0 0,.pointer (some ⟨w.heap.size,0,none⟩),undef,.pointer (some ⟨W.heap.size,0,none⟩),.slice p l.length cap,.func (.func 140) #[] #[.pointer (some ⟨w.heap.size+1,0,none⟩)],.int .i64 (y.1:Int),unV y.2,undef,undef,undef,undef,undef],defers:=[] })
  asgU (fun x W=>jAb _) (fun x W h=>(Acc.step (Nat.le_trans HB2.out.size h) (jAb _)).kp) ?assign ?body ?done ?stop
 case assign =>
  intro l1 y W K hK
  unfold jZu unV
  gi_wp2
  exact hK
 case body =>
  rintro lp pre y W0 W' ⟨g1,g2⟩ ⟨h1,h2⟩ hlt hbx
  obtain⟨v0,hb0,jAN⟩:=h1
  have hx0:=hbx W0.heap.size _ (heap_alloc_new W0 _) rfl
  have hA:=g2.size
  have c0:W'.cell? ⟨w.heap.size,0,none⟩=some v0:=(Lib.cell_of_heap hb0 0).trans rfl
  have f0:=Lib.frozen_of_heap hb0 0
  have x0:W'.cell? ⟨W0.heap.size,0,none⟩=some (.int .u8 y.2.1):=(Lib.cell_of_heap hx0 0).trans rfl
  have x1:W'.cell? ⟨W0.heap.size,1,none⟩=some (.int .i32 (y.2.2:Int)):=(Lib.cell_of_heap hx0 1).trans rfl
  have fin:=hid (fun (v':Value) (W2:World) (hr:W2.ownsRow w.heap.size 198 2 v' ((pre.map Prod.snd).length+1) (jCD (pre.map Prod.snd)++[.int .u8 y.2.1,.int .i32 (y.2.2:Int)])) (hg:(W'.alloc (.cells #[.int .u8 y.2.1,.int .i32 (y.2.2:Int)] 198)).grownBy W2 v0.ownBlock) =>
   show KeepsFrom Wr.heap.size W' (W2.setCell ⟨w.heap.size,0,none⟩ v')∧KpS w.heap.size W' (W2.setCell ⟨w.heap.size,0,none⟩ v')∧jEE w.heap.size w.heap.size ((pre++[y]).map Prod.snd) (W2.setCell ⟨w.heap.size,0,none⟩ v')∧Below w.heap.size w (W2.setCell ⟨w.heap.size,0,none⟩ v') from by
    obtain⟨q1,q2⟩:=jEE.put (u:=y.2) hb0 jAN (Nat.le_refl _) hg hr
    exact⟨q2.from,q2.kp,by rw[List.map_append];exact q1,h2.trans q2.bel⟩)
  have jBi:(pre.map Prod.snd).length≤10000:=by rw[List.length_map];omega
  have hsz:w.heap.size≤W'.heap.size:=h2.size
  obtain⟨us,hus⟩:∃us,pre.map Prod.snd=us:=⟨_,rfl⟩
  rw[hus]at jAN jBi
  have FIN:=hid (hus▸fin.out)
  have jYK:=hid jAN
  have HB0:=hid hb0
  have hlt0:=lt_of_block hb0
  clear hb0 h2 hbx hx0 fin hus jAN
  gi_wp2_with (gi_at_builtin;refine wpListIn_append_own _ rfl _ _ 124 rfl w.heap.size 198 i0 _ 2 8 Tryz.underlying124 hi0 hz0 hz1 hz2 rfl (by decide) _ _ _ rfl (jYK.out.alloc _) ⟨W'.heap.size,0,none⟩ 1 1 [.int .u8 y.2.1,.int .i32 (y.2.2:Int)] rfl rfl (jBV _ _ _ _) (fun u hu=>by simp at hu;rcases hu with rfl | rfl <;> rfl) (by unfold maxLen;omega) (by omega) (by simp;omega) ?_;intro v9 w9 jCy jBL jFS;have HF:=hid (FIN.out v9 w9 jCy jBL);have hb9:w9.heap[w.heap.size]? = some (.cells #[v0] 124 (0,0)):=(jBL.block _ (by simp;omega) (fun e=>jAI (jYK.out) HB0.out (by decide) e.symm)).trans ((Below.heap_alloc _ _ _ (lt_of_block HB0.out)).trans HB0.out);have c9:w9.cell? ⟨w.heap.size,0,none⟩=some v0:=(Lib.cell_of_heap hb9 0).trans rfl;have f9:=Lib.frozen_of_heap hb9 0;obtain⟨o9,c9',rfl⟩:∃o9 c9',v9=.slice o9 (us.length+1) c9':=jD4 jCy;clear jCy jBL jFS hb9)
  exact HF.out
 case done =>
  rintro D ys Wd hD rfl ⟨⟨v0,hb0,jAN⟩,h2⟩ hK
  have HK:=hid hK
  have H2:=hid h2
  have HO:=hid jAN
  have hc0:Wd.cell? ⟨w.heap.size,0,none⟩=some v0:=(Lib.cell_of_heap hb0 0).trans rfl
  clear hK h2 hb0 jAN
  rw[List.length_map]at HO
  gi_wp2
  exact jBE (fun W'=>Below w.heap.size w W'∧W'.ownsRow w.heap.size 198 2 v0 (jAV f (placed 0 (jAh l))).length (jCD ((jAV f (placed 0 (jAh l))).map Prod.snd))) Wr.heap.size (fun W1 D1 h hD1 hk1=>⟨h.1.trans (belowK_b (w:=w) (Nat.le_refl _) W1 D1 _ _ (by omega) hk1 rfl rfl),(Keeps.putObj (C:=fun o=>o.isCells=true) hk1 (by simp[Obj.isCells])).row h.2 (fun _=>rfl)⟩) (fun W1 h=>⟨_,results_tmp rfl _ _ _,⟨_,rfl,h.2⟩,h.1⟩) [D] _ ⟨H2.out,HO.out⟩ ((jBx.nil _ _).cons hD (by simp) HK.out)
 case stop =>
  rintro D c pre Wd hD jRD h
  exact h.elim
end Go.Proofs.YtldapapdolkiaaaGreatDoor
namespace Go.Proofs.YtldapapdolkiaaaGreatDoor
set_option maxHeartbeats 64000000
open Go Go.RowKit Go.Lib
set_option maxRecDepth 100000
theorem jTE {n n' b0 b1 b2 b3 b1' b2' b3':Nat}(hn:(decodeN n b0 b1 b2 b3).2≤n')(h1:1<n'→b1'=b1)(h2:2<n'→b2'=b2)(h3:3<n'→b3'=b3)(hv:¬((decodeN n b0 b1 b2 b3).1=65533∧(decodeN n b0 b1 b2 b3).2=1)) :
 decodeN n' b0 b1' b2' b3'=decodeN n b0 b1 b2 b3:=by
 unfold decodeN at hv hn ⊢
 by_cases c0:b0<128
 ·rw[if_pos c0,if_pos c0]
 rw[if_neg c0]at hv hn ⊢
 rw[if_neg c0]
 by_cases c1:b0 / 32=6∧(1<n∧b1 / 64=2)
 ·rw[if_pos c1]at hv hn ⊢
  split at hn
  ·rename_i v1
   have e1:=h1 (by omega)
   have hn2:2≤n':=hn
   rw[if_pos ⟨c1.1,by omega,by rw[e1];exact c1.2.2⟩,e1]
  ·rename_i v1
   rw[if_neg v1]at hv
   exact absurd ⟨rfl,rfl⟩ hv
 rw[if_neg c1]at hv hn ⊢
 by_cases c2:b0 / 16=14∧(1<n∧b1 / 64=2)∧(2<n∧b2 / 64=2)
 ·rw[if_pos c2]at hv hn ⊢
  split at hn
  ·rename_i v1
   have hn3:3≤n':=hn
   have e1:=h1 (by omega)
   have e2:=h2 (by omega)
   rw[if_neg (by omega),if_pos ⟨c2.1,⟨by omega,by rw[e1];exact c2.2.1.2⟩,by omega,by rw[e2];exact c2.2.2.2⟩,e1,e2]
  ·rename_i v1
   rw[if_neg v1]at hv
   exact absurd ⟨rfl,rfl⟩ hv
 rw[if_neg c2]at hv hn ⊢
 by_cases c3:b0 / 8=30∧(1<n∧b1 / 64=2)∧(2<n∧b2 / 64=2)∧(3<n∧b3 / 64=2)
 ·rw[if_pos c3]at hv hn ⊢
  split at hn
  ·rename_i v1
   have hn4:4≤n':=hn
   have e1:=h1 (by omega)
   have e2:=h2 (by omega)
   have e3:=h3 (by omega)
   rw[if_neg (by omega),if_neg (by omega),if_pos ⟨c3.1,⟨by omega,by rw[e1];exact c3.2.1.2⟩,⟨by omega,by rw[e2];exact c3.2.2.1.2⟩,by omega,by rw[e3];exact c3.2.2.2.2⟩,e1,e2,e3]
  ·rename_i v1
   rw[if_neg v1]at hv
   exact absurd ⟨rfl,rfl⟩ hv
 rw[if_neg c3]at hv
 exact absurd ⟨rfl,rfl⟩ hv
theorem jF8 {a:List UInt8}{i d:Nat}(h:i<d):(a.take d).getD i 0=a.getD i 0:=by
 rw[List.getD_eq_getElem?_getD,List.getD_eq_getElem?_getD,List.getElem?_take_of_lt h]
theorem jV8 {a:List UInt8}(hne:a≠[])(hv:¬((decodeL a).1=65533∧(decodeL a).2=1)):decodeL (a.take (decodeL a).2)=decodeL a:=by
 have hw:=decodeL_width a
 have hle:=jGJ a hne
 generalize hd:(decodeL a).2=d at hw hle
 have jBi:(a.take d).length=d:=by rw[List.length_take];omega
 have h0:(a.take d).getD 0 0=a.getD 0 0:=jF8 (by omega)
 have hv':=hv
 have hd':=hd
 rw[decodeL_N]at hv' hd'
 rw[decodeL_N,decodeL_N,h0,jBi]
 exact jTE (Nat.le_of_eq hd') (fun h=>by rw[jF8 h]) (fun h=>by rw[jF8 h]) (fun h=>by rw[jF8 h]) hv'
theorem jNF {s:ByteArray}(hp:0<s.size):s.data.toList≠[]:=by
 intro h
 have h2:=jBb s
 rw[h,List.length_nil]at h2
 omega
theorem jXy {s:ByteArray}(hp:0<s.size)(ht:jBK s=true):(Lib.decodeGo (Utf8.encode ((Utf8.decode s 0).1:Int))).1=(Utf8.decode s 0).1:=by
 have hne:=jNF hp
 have hd:decodeL s.data.toList=Utf8.decode s 0:=by have:=decodeL_drop s 0;rwa [List.drop_zero]at this
 rw[jGA,jKj _ hne]at ht
 simp only[Bool.and_eq_true,Bool.not_eq_true',decide_eq_false_iff_not]at ht
 obtain⟨⟨h1,_⟩,_⟩:=ht
 have hr:=roundtrip _ hne h1
 have hk:=jV8 hne h1
 rw[hd]at hr hk
 obtain⟨t,hT⟩:∃t,Utf8.encode ((Utf8.decode s 0).1:Int)=t:=⟨_,rfl⟩
 rw[hT]at hr ⊢
 have hw:=width_pos s 0
 have hle:=jGJ _ hne
 rw[hd]at hle
 have htp:t.size≠0:=by
  rw[←jBb,hr,List.length_take]
  omega
 have ht0:decodeL t.data.toList=Utf8.decode t 0:=by have:=decodeL_drop t 0;rwa [List.drop_zero]at this
 unfold Lib.decodeGo
 rw[if_neg htp,←ht0,hr,hk]
theorem jKY:∀ (n:Nat) (s:ByteArray),s.size≤n→jBK s=true→∀r ∈ jAi s,(Lib.decodeGo (Utf8.encode (r:Int))).1=r∧ctl r=false
 | 0,s,hn,ht,r,hr=>by rw[jGk (by omega)]at hr;cases hr
 | n+1,s,hn,ht,r,hr=>by
   by_cases hp:0<s.size
   ·rw[jKg hp]at hr
    rcases List.mem_cons.1 hr with rfl | h
    ·exact⟨jXy hp ht,(jGj hp (by rw[←jGA];exact ht)).2.2.1⟩
    ·have hw:=width_pos s 0
     exact jKY n _ (by rw[ByteArray.size_extract];omega) (jIG hp ht) r h
   ·rw[jGk hp]at hr;cases hr
def gUn (f:Nat→Int)(x:Pc):List (Int × Nat):=if jCl (clip x)=true then [] else [uOf f (clip x)]
theorem jMH (f:Nat→Int):∀ (S:List Pc) (p:Nat),(jAV f (placed p S)).map Prod.snd=S.flatMap (gUn f)
 | [],p=>rfl
 | x :: S,p=>by
   have h:=jMH f S (jBM p x)
   unfold jAV at h ⊢
   simp only[placed,List.flatMap_cons,List.map_append,h]
   congr 1
   unfold jJL gUn
   split <;> rfl
theorem jMp (f:Nat→Int):∀ (S:List Pc) (p:Nat),(∀x ∈ S,x.s.size≤16∧(x.k=1∨x.k=2∨x.k=3∨x.k=4∨x.k=5))→(jAV f (placed p S)).map Prod.fst=List.range' p (jAV f (placed p S)).length
 | [],p,_=>rfl
 | x :: S,p,hS=>by
   have h:=jMp f S (jBM p x) (fun y hy=>hS y (List.mem_cons_of_mem _ hy))
   obtain⟨h16,hk⟩:=hS x (List.mem_cons_self ..)
   unfold jAV at h ⊢
   simp only[placed,List.flatMap_cons,List.map_append,List.length_append]
   generalize (placed (jBM p x) S).flatMap (jJL f)=Q at *
   rw[h]
   generalize Q.length=q at *
   unfold jJL
   dsimp only
   rw[jEi h16]
   unfold jBM jCl
   clear h hS
   rcases hk with e | e | e | e | e <;> simp[e,List.range'_succ,Nat.add_comm]
theorem jLL (r:Nat):(jFp r).s.size≤16:=by
 have h4:=jD9 (r:Int)
 unfold jFp
 dsimp only
 omega
theorem jSH {l:List Pc}(h:∀x ∈ l,jA8 x=0):∀x ∈ jAh l,x.s.size≤16∧(x.k=1∨x.k=2∨x.k=3∨x.k=4∨x.k=5):=by
 intro y hy
 unfold jAh at hy
 obtain⟨x,hx,hy⟩:=List.mem_flatMap.1 hy
 unfold unP at hy
 split at hy
 ·obtain⟨r,_,rfl⟩:=List.mem_map.1 hy
  exact⟨jLL r,.inl rfl⟩
 ·rename_i hk
  rw[List.mem_singleton.1 hy]
  exact⟨jDL (h x hx) hk,jNE (h x hx)⟩
theorem jZA {f:Nat→Int}(hf:∀r,r<128→f r=jH4 r)(r:Nat):jRx f r=jH4 r:=by
 unfold jRx
 split
 ·rename_i h
  unfold jH4 jTq
  simp[h]
 ·exact hf r (by omega)
def jRT (u:Un):Int × Nat:=(jEL u,u.r)
theorem jZO {f:Nat→Int}(hf:∀r,r<128→f r=jH4 r){x:Pc}(h:jA8 x=0):(unP x).flatMap (gUn f)=(jWK x).map jRT:=by
 unfold unP jWK
 by_cases h1:x.k=1
 ·rw[if_pos h1,if_neg (by omega),if_pos h1,List.map_map,List.flatMap_map]
  have key:∀rs:List Nat,(∀r ∈ rs,r ∈ jAi x.s)→(rs.flatMap fun r=>gUn f (jFp r))=rs.map (jRT ∘ fun r=>(⟨r,false⟩:Un)):=by
   intro rs
   induction rs with
   | nil=>intro _;rfl
   | cons r rs ih =>
     intro hm
     rw[List.flatMap_cons,List.map_cons,ih (fun q hq=>hm q (List.mem_cons_of_mem _ hq))]
     have hr:=(jKY _ x.s (Nat.le_refl _) (jHc h h1) r (hm r (List.mem_cons_self ..))).1
     unfold gUn
     rw[jEi (jLL r)]
     have ht:jCl (jFp r)=false:=by unfold jCl jFp;simp
     rw[ht]
     unfold uOf jFp
     simp only[if_true]
     rw[hr,jZA hf]
     rfl
  exact key _ (fun _ h=>h)
 ·rw[if_neg h1]
  have hs:=jDL h h1
  simp only[List.flatMap_cons,List.flatMap_nil,List.append_nil]
  unfold gUn
  rw[jEi hs]
  unfold jCl uOf
  rcases jNE h with e | e | e | e | e
  ·exact absurd e h1
  all_goals simp[e,jRT,jEL]
theorem jHM {f:Nat→Int}(hf:∀r,r<128→f r=jH4 r){l:List Pc}(h:∀x ∈ l,jA8 x=0):(jAV f (placed 0 (jAh l))).map Prod.snd=(jCa l).map jRT:=by
 rw[jMH]
 unfold jAh jCa
 induction l with
 | nil=>rfl
 | cons x l ih =>
   rw[List.flatMap_cons,List.flatMap_append,List.flatMap_cons,List.map_append,ih (fun y hy=>h y (List.mem_cons_of_mem _ hy)),jZO hf (h x (List.mem_cons_self ..))]
theorem jZM {l:List Pc}(h:∀x ∈ l,jA8 x=0):∀u ∈ jCa l,okU u:=by
 intro u hu
 unfold jCa at hu
 obtain⟨x,hx,hu⟩:=List.mem_flatMap.1 hu
 unfold jWK at hu
 split at hu
 ·rw[List.mem_singleton.1 hu]
  exact⟨fun _=>rfl,fun h=>(by cases h)⟩
 ·split at hu
  ·rename_i hk
   obtain⟨r,hr,rfl⟩:=List.mem_map.1 hu
   exact⟨fun h=>(by cases h),fun _=>(jKY _ x.s (Nat.le_refl _) (jHc (h x hx) hk) r hr).2⟩
  ·cases hu
end Go.Proofs.YtldapapdolkiaaaGreatDoor
namespace Go.Proofs.YtldapapdolkiaaaGreatDoor
set_option maxHeartbeats 64000000
open Go Go.RowKit Go.Lib
set_option maxRecDepth 100000
theorem jKn:∀ (L:List Un) (i j:Nat),i<L.length→j<2→(jCD (L.map jRT))[i*2+j]? = some (uF L i j)
 | [],i,j,hi,_=>by cases hi
 | u :: L,0,j,_,hj=>by
   have e:jCD ((u :: L).map jRT)=[.int .u8 (jEL u),.int .i32 (u.r:Int)]++jCD (L.map jRT):=rfl
   rw[e]
   obtain rfl | rfl:j=0∨j=1:=by omega
   ·rfl
   ·rfl
 | u :: L,i+1,j,hi,hj=>by
   have e:jCD ((u :: L).map jRT)=[.int .u8 (jEL u),.int .i32 (u.r:Int)]++jCD (L.map jRT):=rfl
   rw[e,List.getElem?_append_right (by show 2≤_;omega)]
   have h:=jKn L i j (by rw[List.length_cons]at hi;omega) hj
   show (jCD (L.map jRT))[(i+1)*2+j-2]? = _
   rw[show (i+1)*2+j-2=i*2+j by omega,h]
   rfl
theorem jSS {B:Nat}{v:Value}{L:List Un}{w:World}(h:w.ownsRow B 198 2 v L.length (jCD (L.map jRT))):jGh w v L:=by
 have hc:=h
 rcases h.2 with ⟨rfl,h0⟩ | ⟨g,cap,cur,rfl,hg,hh,hn,hm,_⟩
 ·exact⟨none,0,by rw[h0],by omega,by unfold maxLen;omega,fun h=>by omega⟩
 ·refine⟨some ⟨g,0,none⟩,cap,rfl,hn,hm,fun _=>⟨_,rfl,lt_of_block hh,fun i j hi hj=>?_⟩⟩
  exact World.ownsRow.cells hc (g:=g) rfl _ _ (jKn L i j hi hj)
theorem jNA (f:Nat→Int)(hf:∀r,r<128→f r=jH4 r)(l:List Pc)(v:Value)(w:World)(hv:jBe w v l)(hE:jAu l=0)(hb:bulk l≤10000)(hT:Tabs w)(hc:jGn f w) :
 Calls Tryz.prog 76 #[v] w fun e w'=>(∃r,e=.returned r∧jGh w' r (jCa l))∧Below w.heap.size w w':=by
 refine (jQv f l v w hv hE hb hT hc).mono ?_
 rintro e w' ⟨⟨r,rfl,h⟩,hb⟩
 have hu:=jHM hf (jE3 hE)
 rw[hu]at h
 have hl:(jAV f (placed 0 (jAh l))).length=(jCa l).length:=by
  have:=congrArg List.length hu
  rwa [List.length_map,List.length_map]at this
 rw[hl]at h
 exact⟨⟨r,rfl,jSS h⟩,hb⟩
theorem jRY (ask:Value)(fa:Nat)(cs:Array Value)(he:ask=.func (.func fa) #[] cs)(w:World):Calls Tryz.prog 186 #[ask] w fun e w'=>e=.returned (.func (.func 200) #[] #[.pointer (some ⟨w.heap.size,0,none⟩)])∧w'=w.alloc (.cells #[ask] 245):=by
 subst he
 go_enter Tryz.func186,Tryz.ntmps186
 go_wp2
 go_ret
 exact⟨rfl,rfl⟩
def jER (x:Ft)(w:World)(e:Ending)(w':World):Prop:=(∃v,e=.returned v∧jDn w' v x∧∃f cs,v=.func (.func f) #[] cs)∧Below w.heap.size w w'
theorem jQe (r:Nat)(c:Bool)(hc:c=false∨r=37)(w:World):Calls Tryz.prog 171 #[.int .i32 (r:Int)] w fun e w'=>jER ⟨c,r⟩ w e w':=by
 have cO:=jRY (.func (.func 187) #[] #[.pointer (some ⟨w.heap.size,0,none⟩)]) _ _ rfl (w.alloc (.cells #[.int .i32 (r:Int)] 21))
 have HI:jGR ⟨c,r⟩=false:=by
  unfold jGR
  rcases hc with rfl | rfl <;> simp
 go_enter Tryz.func171,Tryz.ntmps171
 go_wp2_with (go_at_call 186;(with_reducible refine cO.mono ?_);rintro e w3 ⟨rfl,rfl⟩)
 go_ret
 have h1:=heap_alloc_new (w.alloc (.cells #[.int .i32 (r:Int)] 21)) (.cells #[.func (.func 187) #[] #[.pointer (some ⟨w.heap.size,0,none⟩)]] 245)
 rw[show (w.alloc (.cells #[.int .i32 (r:Int)] 21)).heap.size=w.heap.size+1 by simp]at h1
 refine⟨⟨_,rfl,.inr ⟨HI,_,_,rfl,h1,.inl ⟨hc,_,rfl,?_⟩⟩,_,_,rfl⟩,jAa (jAb _) (jAb _)⟩
 rw[Below.heap_alloc _ _ _ (by simp)]
 exact heap_alloc_new w _
theorem jVW (s:Nat)(hs:s=97∨s=117∨s=108∨s=100∨s=115∨s=112∨s=104∨s=46)(w:World):jER ⟨true,s⟩ w (.returned (.func (.func 200) #[] #[.pointer (some ⟨w.heap.size,0,none⟩)])) (w.alloc (.cells #[.func (.func (jRz s)) #[] #[]] 245)):=by
 refine⟨⟨_,rfl,.inr ⟨?_,_,_,rfl,heap_alloc_new _ _,.inr ⟨rfl,hs,rfl⟩⟩,_,_,rfl⟩,jAb _⟩
 unfold jGR
 rcases hs with rfl | rfl | rfl | rfl | rfl | rfl | rfl | rfl <;> rfl
theorem jQw (s:Nat)(hs:jNv s=true)(w:World):Calls Tryz.prog 172 #[.int .i32 (s:Int)] w fun e w'=>jER ⟨true,s⟩ w e w':=by
 unfold jNv at hs
 simp only[Bool.or_eq_true,decide_eq_true_eq]at hs
 have hs':(s=97∨s=117∨s=108∨s=100∨s=115∨s=112∨s=104∨s=46)∨s=37∨s=98:=by omega
 clear hs
 rcases hs' with h | rfl | rfl
 ·have HE:=hid (jVW s h w)
  have cO:=jRY (.func (.func (jRz s)) #[] #[]) _ _ rfl w
  rcases h with rfl | rfl | rfl | rfl | rfl | rfl | rfl | rfl
  all_goals
   unfold jRz at cO HE
   simp only[Nat.reduceEqDiff,if_true,if_false]at cO HE
   go_enter Tryz.func172,Tryz.ntmps172
   go_wp2_with (go_at_call 186;(with_reducible refine cO.mono ?_);rintro e w3 ⟨rfl,rfl⟩)
   go_ret
   exact HE.out
 ·have cS:Calls Tryz.prog 171 #[.int .i32 37] w fun e w'=>jER ⟨true,37⟩ w e w':=jQe 37 true (.inr rfl) w
  go_enter Tryz.func172,Tryz.ntmps172
  go_wp2_with (go_at_call 171;(with_reducible refine cS.mono ?_);rintro e w3 ⟨⟨v,rfl,h1,f,cs,rfl⟩,hb⟩;have H1:=hid h1;have HB:=hid hb;clear h1 hb)
  go_ret
  exact⟨⟨_,rfl,H1.out,_,_,rfl⟩,HB.out⟩
 ·go_enter Tryz.func172,Tryz.ntmps172
  go_wp2
  go_ret
  exact⟨⟨_,rfl,.inl ⟨rfl,rfl⟩,_,_,rfl⟩,Below.refl _ _⟩
theorem jTG (s:Nat)(hs:jNv s=false)(w:World):Calls Tryz.prog 172 #[.int .i32 (s:Int)] w fun e w'=>e=.returned .nilFunc∧w'=w:=by
 unfold jNv at hs
 simp only[Bool.or_eq_false_iff,decide_eq_false_iff_not]at hs
 have n1:¬(s:Int)=97:=by omega
 have n2:¬(s:Int)=117:=by omega
 have n3:¬(s:Int)=108:=by omega
 have n4:¬(s:Int)=100:=by omega
 have n5:¬(s:Int)=115:=by omega
 have n6:¬(s:Int)=112:=by omega
 have n7:¬(s:Int)=104:=by omega
 have n8:¬(s:Int)=46:=by omega
 have n9:¬(s:Int)=37:=by omega
 have n10:¬(s:Int)=98:=by omega
 clear hs
 go_enter Tryz.func172,Tryz.ntmps172
 go_wp2
 go_ret
 exact⟨rfl,rfl⟩
end Go.Proofs.YtldapapdolkiaaaGreatDoor
namespace Go.Proofs.YtldapapdolkiaaaGreatDoor
set_option maxHeartbeats 64000000
open Go Go.RowKit Go.Lib
set_option maxRecDepth 100000
def cmp:List Nat→Bool→List Ft→Option (List Ft × Bool)
 | [],b,X=>some (X,b)
 | r :: rs,b,X=>if b=true then (if jNv r=true then cmp rs false (X++[⟨true,r⟩]) else none) else (if r=37 then cmp rs true X else cmp rs false (X++[⟨false,r⟩]))
theorem jOf:∀ (rs:List Nat) (X:List Ft),match jC2 rs with
  | some Y=>cmp rs false X=some (X++Y,false)
  | none=>cmp rs false X=none∨∃Z,cmp rs false X=some (Z,true)
 | [],X=>by simp[jC2,cmp]
 | [r],X=>by
   unfold jC2
   by_cases h:r=37
   ·subst h;simp[cmp]
   ·simp[cmp,h]
 | r :: s :: l,X=>by
   unfold jC2
   by_cases h:r=37
   ·subst h
    simp only[if_true,cmp,Bool.false_eq_true,if_false]
    by_cases hs:jNv s=true
    ·rw[if_pos hs,if_pos hs]
     have ih:=jOf l (X++[⟨true,s⟩])
     cases hq:jC2 l with
     | none=>rw[hq]at ih;exact ih
     | some Y=>rw[hq]at ih;dsimp only[Option.map_some];rw[ih];simp
    ·rw[if_neg hs,if_neg hs]
     exact .inl rfl
   ·rw[if_neg h]
    have e:cmp (r :: s :: l) false X=cmp (s :: l) false (X++[⟨false,r⟩]):=by
     rw[cmp];simp[h]
    rw[e]
    have ih:=jOf (s :: l) (X++[⟨false,r⟩])
    cases hq:jC2 (s :: l) with
    | none=>rw[hq]at ih;exact ih
    | some Y=>rw[hq]at ih;dsimp only[Option.map_some];rw[ih];simp
def jCj (s:ByteArray)(fuel pos:Nat):List Nat:=jBy fuel (s.data.toList.drop pos)
theorem jL3 (s:ByteArray)(fuel pos:Nat)(hp:pos<s.size):jCj s (fuel+1) pos=(Utf8.decode s pos).1 :: jCj s fuel (pos+(Utf8.decode s pos).2):=by
 unfold jCj
 have hne:s.data.toList.drop pos≠[]:=by
  intro h
  have:=congrArg List.length h
  rw[List.length_drop,jBb]at this
  simp at this;omega
 simp only[jBy,if_neg hne,decodeL_drop,List.drop_drop]
theorem jOo (s:ByteArray)(fuel pos:Nat)(hp:¬pos<s.size):jCj s fuel pos=[]:=by
 unfold jCj
 have h:s.data.toList.drop pos=[]:=by
  apply List.drop_eq_nil_of_le
  rw[jBb];omega
 rw[h]
 cases fuel <;> simp[jBy]
theorem jOh (s:ByteArray):jCj s s.size 0=jAi s:=by
 unfold jCj jAi
 rw[List.drop_zero,jBb]
def jMC (B b:Nat)(X:List Ft)(w:World):Prop:=∃ (v:Value) (us:List Value),w.heap[b]? = some (.cells #[v,.int .i64 (ftW X:Nat)] 131 (0,0))∧w.ownsRow B 228 1 v X.length us∧us.length=X.length∧∀i,i<X.length→jDn w (us.getD i jDy) (X.getD i jFm)
theorem jMC.step {B b:Nat}{X:List Ft}{w w':World}(h:jMC B b X w)(hb:Below w.heap.size w w'):jMC B b X w':=by
 obtain⟨v,us,h1,h2,h3,h4⟩:=h
 have hk:=Keeps.below (C:=fun _=>True) hb
 exact⟨v,us,hk.same _ _ h1 trivial,hk.row h2 fun _=>trivial,h3,fun i hi=>(h4 i hi).step hb⟩
theorem jLd (X:List Ft)(x:Ft):ftW (X++[x])=ftW X+(if jGR x=true then 0 else 1):=by
 unfold ftW
 rw[List.filter_append,List.length_append]
 congr 1
 cases h:jGR x <;> simp[h]
theorem jMC.tests {B:Nat}{X:List Ft}{w:World}{v:Value}{us:List Value}(h2:w.ownsRow B 228 1 v X.length us)(h3:us.length=X.length)(h4:∀i,i<X.length→jDn w (us.getD i jDy) (X.getD i jFm)):jC5 w v X:=by
 refine⟨us,h3,?_,h4⟩
 have hc:=h2
 rcases h2.2 with ⟨rfl,h0⟩ | ⟨g,cap,cur,rfl,hg,hh,hn,hm,_⟩
 ·exact⟨none,0,by rw[h0],by omega,by unfold maxLen;omega,fun h=>by omega⟩
 ·refine⟨some ⟨g,0,none⟩,cap,rfl,hn,hm,fun _=>⟨_,rfl,lt_of_block hh,fun i j hi hj=>?_⟩⟩
  obtain rfl:j=0:=by omega
  refine World.ownsRow.cells hc (g:=g) rfl _ _ ?_
  rw[Nat.mul_one,Nat.add_zero,List.getElem?_eq_getElem (by omega)]
  unfold ptF
  rw[List.getD_eq_getElem?_getD,List.getElem?_eq_getElem (by omega)]
  rfl
theorem jMC.put {B b:Nat}{X:List Ft}{x:Ft}{w w4 w5:World}{v v' t:Value}{us:List Value}{o:Obj}{W:Nat}(hB:B≤b)(hW:W=ftW (X++[x]))
 (h1:w.heap[b]? = some (.cells #[v,.int .i64 (ftW X:Nat)] 131 (0,0))) (h2:w.ownsRow B 228 1 v X.length us) (h3:us.length=X.length) (h4:∀i,i<X.length→jDn w (us.getD i jDy) (X.getD i jFm)) (hx:jDn w t x)
 (h5:w4=w∨w4=w.setCell ⟨b,1,none⟩ (.int .i64 (W:Nat))) (h6:w4=w→W=ftW X) (hg:(w4.alloc o).grownBy w5 v.ownBlock) (hr:w5.ownsRow B 228 1 v' (X.length+1) (us++[t])) :
 jMC B b (X++[x]) (w5.setCell ⟨b,0,none⟩ v')∧Below B w (w5.setCell ⟨b,0,none⟩ v')∧(∀ (k:Nat) (q:Obj),w.heap[k]? = some q→k≠b→(∀cs,q≠.cells cs 228 (0,0))→(w5.setCell ⟨b,0,none⟩ v').heap[k]? = some q)∧w5.heap[b]? = some (.cells #[v,.int .i64 (W:Nat)] 131 (0,0)):=by
 have hBW:B≤w.heap.size:=by have:=lt_of_block h1;omega
 have hs4:w4.heap.size=w.heap.size:=by rcases h5 with rfl | rfl <;> simp
 have hb4:w4.heap[b]? = some (.cells #[v,.int .i64 (W:Nat)] 131 (0,0)):=by
  rcases h5 with h | h
  ·rw[h6 h,h];exact h1
  ·rw[h,jBC h1];rfl
 have ho4:∀k,k≠b→w4.heap[k]? = w.heap[k]?:=fun k hk=>by
  rcases h5 with h | h
  ·rw[h]
  ·rw[h];exact Below.heap_setCell _ _ _ _ hk
 have hl4:Below B w w4:=by
  rcases h5 with h | h
  ·rw[h];exact Below.refl _ _
  ·rw[h];exact (Below.refl _ _).setCell (p:=⟨b,1,none⟩) hB _
 have h2a:(w4.alloc o).ownsRow B 228 1 v X.length us:=by
  refine World.ownsRow.alloc ?_ _
  refine⟨h2.1,?_⟩
  rcases h2.2 with hn | ⟨g,cap,cur,hv,hbg,hgg,rest⟩
  ·exact .inl hn
  ·refine .inr ⟨g,cap,cur,hv,hbg,(ho4 g ?_).trans hgg,rest⟩
   rintro rfl
   rw[hgg]at h1
   cases h1
 have hba:(w4.alloc o).heap[b]? = some (.cells #[v,.int .i64 (W:Nat)] 131 (0,0)):=(Below.heap_alloc _ _ _ (lt_of_block hb4)).trans hb4
 have hb5:w5.heap[b]? = some (.cells #[v,.int .i64 (W:Nat)] 131 (0,0)):=(hg.block b (lt_of_block hba) (fun e=>jAI h2a hba (by decide) e.symm)).trans hba
 have hk:∀ (k:Nat) (q:Obj),w.heap[k]? = some q→k≠b→(∀cs,q≠.cells cs 228 (0,0))→(w5.setCell ⟨b,0,none⟩ v').heap[k]? = some q:=fun k q hq hkb hne=>by
  have e1:(w4.alloc o).heap[k]? = some q:=(Below.heap_alloc _ _ _ (by rw[hs4];exact lt_of_block hq)).trans ((ho4 k hkb).trans hq)
  refine (Below.heap_setCell _ _ _ _ hkb).trans ((hg.block k (lt_of_block e1) (fun e=>?_)).trans e1)
  rcases h2a.2 with ⟨rfl,_⟩ | ⟨g,cap,cur,rfl,_,hgg,_⟩
  ·simp[Value.ownBlock]at e
  ·simp only[Value.ownBlock,Option.some.injEq]at e
   subst e
   rw[hgg]at e1
   cases e1
   exact hne _ rfl
 have hkk:Keeps (fun q=>match q with | .cells _ t _=>t≠228∧t≠131 | _=>False) w (w5.setCell ⟨b,0,none⟩ v'):=by
  refine⟨by have:=hg.size;simp at this ⊢;omega,fun k q hq hc=>hk k q hq ?_ ?_⟩
  ·rintro rfl;rw[h1]at hq;cases hq;exact hc.2 rfl
  ·rintro cs rfl;exact hc.1 rfl
 refine⟨⟨v',us++[t],?_,?_,by simp[h3],fun i hi=>?_⟩,?_,hk,hb5⟩
 ·rw[jBC hb5,hW];rfl
 ·rw[List.length_append,List.length_singleton]
  have hz:Keeps (fun q=>match q with | .cells _ t _=>t≠131 | _=>True) w5 (w5.setCell ⟨b,0,none⟩ v'):=(Keeps.refl _ _).setCell hb5 (fun h=>h rfl) 0 _
  exact hz.row hr fun _=>(show 228≠131 by decide)
 ·rw[List.length_append,List.length_singleton]at hi
  by_cases hio:i<X.length
  ·rw[jCc us _ _ (by rw[h3];exact hio),jCc X _ _ hio]
   exact (h4 i hio).keeps hkk (fun _=>⟨by decide,by decide⟩) (fun _=>⟨by decide,by decide⟩)
  ·obtain rfl:i=X.length:=by omega
   have e1:(us++[t]).getD X.length jDy=t:=by rw[List.getD_eq_getElem?_getD,List.getElem?_append_right (by rw[h3];exact Nat.le_refl _),h3];simp
   have e2:(X++[x]).getD X.length jFm=x:=by rw[List.getD_eq_getElem?_getD,List.getElem?_append_right (Nat.le_refl _)];simp
   rw[e1,e2]
   exact hx.keeps hkk (fun _=>⟨by decide,by decide⟩) (fun _=>⟨by decide,by decide⟩)
 ·exact ((hl4.alloc (by rw[hs4];exact hBW) o).grown hg (by simp;omega) (fun k e=>(h2a.lt k e).1)).setCell (p:=⟨b,0,none⟩) hB _
end Go.Proofs.YtldapapdolkiaaaGreatDoor
namespace Go.Proofs.YtldapapdolkiaaaGreatDoor
set_option maxHeartbeats 64000000
open Go Go.RowKit Go.Lib
set_option maxRecDepth 100000
theorem jDt {fn:Func}{p u:Tmp}{ty:TypeId}(h:fn.results=#[.cell p ty,.tmp u]){tmps:Array Value}{P:Program}{w:World}{a:Addr}{xs:List Value}
 (ha:tmps.getD p undef=.pointer (some a)) (iy:∀w,(isAgg ty).run P w=.ok true w) (sy:∀w,(sizeOf ty).run P w=.ok xs.length w)
 (cx:∀j v,xs[j]? = some v→w.cell? (a.add j)=some v) :
 (results fn tmps).run P w=.ok (.tuple #[.agg xs.toArray,tmps.getD u undef]) w:=by
 have hx:=run_loadCells_list (P:=P) w a xs cx
 rw[results_cell_tmp h,ha]
 simp[Result.andThen,asAddr,loadVar,iy,sy,hx]
theorem jD2 {w:World}{n:Nat}{v0 v1:Value}{t:TypeId}{fr:Nat × Nat}(h:w.heap[n]? = some (.cells #[v0,v1] t fr)):∀j v,[v0,v1][j]? = some v→w.cell? ((⟨n,0,none⟩:Addr).add j)=some v:=by
 intro j v hj
 match j,hj with
 | 0,hj=>simp only[List.getElem?_cons_zero,Option.some.injEq]at hj;subst hj;exact (Lib.cell_of_heap h 0).trans rfl
 | 1,hj=>simp only[List.getElem?_cons_succ,List.getElem?_cons_zero,Option.some.injEq]at hj;subst hj;exact (Lib.cell_of_heap h 1).trans rfl
theorem jF1 {w:World}{n:Nat}{a b:Value}{t:TypeId}{fr:Nat × Nat}(h:w.heap[n]? = some (.cells #[a,b] t fr))(x y:Value):((w.setCell ⟨n,0,none⟩ x).setCell ⟨n,1,none⟩ y).heap[n]? = some (.cells #[x,y] t fr):=by
 rw[jBC (jBC h x)]
 rfl
def jK7 (w:World)(v:Value)(X:List Ft):Prop:=∃us:List Value,w.ownsRow 0 228 1 v X.length us∧us.length=X.length∧∀i,i<X.length→jDn w (us.getD i jDy) (X.getD i jFm)
theorem jK7.tests {w:World}{v:Value}{X:List Ft}(h:jK7 w v X):jC5 w v X:=by
 obtain⟨us,h2,h3,h4⟩:=h
 exact jMC.tests h2 h3 h4
theorem jK7.keeps {C:Obj→Prop}{w w':World}{v:Value}{X:List Ft}(h:jK7 w v X)(hk:Keeps C w w')(h0:∀cs,C (.cells cs 228 (0,0)))(h1:∀cs,C (.cells cs 21 (0,0)))(h2:∀cs,C (.cells cs 245 (0,0))):jK7 w' v X:=by
 obtain⟨us,g2,g3,g4⟩:=h
 exact⟨us,hk.row g2 h0,g3,fun i hi=>(g4 i hi).keeps hk h1 h2⟩
def jWF (s:ByteArray)(w:World)(e:Ending)(w':World):Prop:=(∃ (vt:Value) (n:Nat),e=.returned (.tuple #[.agg #[vt,.int .i64 (n:Int)],.int .u8 (jDz s)])∧(∃q m c,vt=.slice q m c)∧(jDz s=0→n=ftW (items s)∧jK7 w' vt (items s)))∧Below w.heap.size w w'
theorem jUD {s:ByteArray}(hx:jBK s=true):jDz s=(match cmp (jAi s) false [] with
 | some (X,false)=>if 32<X.length then 3 else 0
 | _=>4)∧(∀X,cmp (jAi s) false []=some (X,false)→items s=X):=by
 have h:=jOf (jAi s) []
 unfold jDz items jGm
 rw[if_neg (by simp[hx])]
 cases hq:jC2 (jAi s) with
 | none =>
   rw[hq]at h
   dsimp only at h
   rcases h with h | ⟨Z,h⟩
   ·rw[h];exact⟨rfl,fun X hX=>by cases hX⟩
   ·rw[h];exact⟨rfl,fun X hX=>by cases hX⟩
 | some Y =>
   rw[hq]at h
   dsimp only at h
   rw[h,List.nil_append]
   exact⟨rfl,fun X hX=>by injection hX with hX;injection hX with hX _⟩
theorem jRP:(Tryz.prog.info? 228).map (fun i=>(i.zero,i.size,i.bytes))=some (some .nilFunc,1,8):=by kernel_rfl
theorem jMO:∃i,Tryz.prog.info? 228=some i∧i.zero=some .nilFunc∧i.size=1∧i.bytes=8:=by
 have h:=jRP
 cases hq:Tryz.prog.info? 228 with
 | none=>rw[hq]at h;cases h
 | some i=>rw[hq]at h;simp only[Option.map_some,Option.some.injEq,Prod.mk.injEq]at h;exact⟨i,rfl,h.1,h.2.1,h.2.2⟩
theorem jMC.iter {B b k pos:Nat}{X:List Ft}{w:World}{s:ByteArray}(h:jMC B b X w)(hk:w.heap[k]? = some (.stringIter s pos))(pos':Nat):jMC B b X (w.iterAt k s pos'):=by
 obtain⟨v,us,h1,h2,h3,h4⟩:=h
 have hkp:Keeps (fun q=>q.isCells=true) w (w.iterAt k s pos'):=⟨by rw[Lib.iterAt_size];exact Nat.le_refl _,fun j q hq hc=>(Lib.iterAt_other w k j s pos' (by rintro rfl;rw[hk]at hq;cases hq;cases hc)).trans hq⟩
 exact⟨v,us,hkp.same _ _ h1 rfl,hkp.row h2 fun _=>rfl,h3,fun i hi=>(h4 i hi).keeps hkp (fun _=>rfl) fun _=>rfl⟩
theorem jEl {w:World}{n:Nat}(hs:w.heap.size=n)(v:Value)(t:TypeId):∀j u,([v]:List Value)[j]? = some u→(w.alloc (.cells #[v] t)).cell? ((⟨n,0,none⟩:Addr).add j)=some u:=by
 subst hs
 exact cell_one_new _ _ _
theorem jTY {w:World}{b n:Nat}{v:Value}{t:TypeId}{fr:Nat × Nat}(h:w.heap[b]? = some (.cells #[v,.int .i64 (n:Int)] t fr)){m:Nat}(hm:m≠n):¬w.setCell ⟨b,1,none⟩ (.int .i64 (m:Int))=w:=by
 intro e
 have h1:=jBC (i:=1) h (.int .i64 (m:Int))
 rw[e,h]at h1
 simp at h1
 omega
theorem jEb {W:World}{B sz n:Nat}{e:TypeId}{v:Value}{xs:List Value}(h:W.ownsRow B e sz v n xs):∃q c,v=.slice q n c:=by
 rcases h.2 with ⟨rfl,h0⟩ | ⟨g,cp,cur,hv9,_⟩
 ·exact⟨none,0,by rw[h0]⟩
 ·exact⟨_,_,hv9⟩
theorem jTh {w:World}{B b:Nat}{X:List Ft}{v a0 a1:Value}{us:List Value}{fr:Nat × Nat}(hb:w.heap[b]? = some (.cells #[a0,a1] 131 fr))(h2:w.ownsRow B 228 1 v X.length us)(h3:us.length=X.length)(h4:∀i,i<X.length→jDn w (us.getD i jDy) (X.getD i jFm))(x y:Value) :
 jK7 ((w.setCell ⟨b,0,none⟩ x).setCell ⟨b,1,none⟩ y) v X:=by
 have hk:Keeps (fun q=>match q with | .cells _ t _=>t≠131 | _=>True) w ((w.setCell ⟨b,0,none⟩ x).setCell ⟨b,1,none⟩ y):=((Keeps.refl _ _).setCell hb (fun h=>h rfl) 0 _).setCell (jBC hb _) (fun h=>h rfl) 1 _
 exact⟨us,jCu (hk.row h2 fun _=>(show 228≠131 by decide)) (Nat.zero_le _),h3,fun i hi=>(h4 i hi).keeps hk (fun _=>(show 21≠131 by decide)) (fun _=>(show 245≠131 by decide))⟩
theorem jTF (n:Nat)(fn:Fn)(a b:Array Value)(w:World):(Op.equalIn (n+1) 228 (.func fn a b) .nilFunc).run Tryz.prog w=.ok false w:=by
 have hu:=Tryz.underlying228
 unfold Op.equalIn
 simp[go_sem,hu,underlying,Sem.run_bind,Result.andThen]
theorem jSd (n:Nat)(w:World):(Op.equalIn (n+1) 228 .nilFunc .nilFunc).run Tryz.prog w=.ok true w:=by
 have hu:=Tryz.underlying228
 unfold Op.equalIn
 simp[go_sem,hu,underlying,Sem.run_bind,Result.andThen]
theorem jXx (fn:Fn)(a b:Array Value)(w:World):(binOp BinOp.eql 228 (.func fn a b) .nilFunc).run Tryz.prog w=.ok (.bool false) w:=by
 have h:(Op.equal 228 (.func fn a b) .nilFunc).run Tryz.prog w=.ok false w:=jTF 9999 fn a b w
 simp[binOp,go_sem,h,Result.andThen]
theorem jYd (w:World):(binOp BinOp.eql 228 .nilFunc .nilFunc).run Tryz.prog w=.ok (.bool true) w:=by
 have h:(Op.equal 228 .nilFunc .nilFunc).run Tryz.prog w=.ok true w:=jSd 9999 w
 simp[binOp,go_sem,h,Result.andThen]
attribute [local go_sem] jXx jYd
theorem jJx (s:ByteArray)(w:World)(hs:s.size≤100000)(hT:Tabs w):Calls Tryz.prog 139 #[.string s] w fun e w'=>jWF s w e w':=by
 have ap:=Tryz.isAgg131
 have zp:=Tryz.sizeOf131
 have hB0:=jAb (w:=w) (.cells #[.slice none 0 0,.int .i64 0] 131)
 have cT:=jKx s _ (by unfold maxLen;omega) (hT.step hB0)
 have HB0:=hid hB0
 have h0:(w.alloc (.cells #[.slice none 0 0,.int .i64 0] 131)).heap[w.heap.size]? = some (.cells #[.slice none 0 0,.int .i64 0] 131 (0,0)):=heap_alloc_new w _
 have H0:=hid h0
 clear hB0 hT h0
 by_cases hx:jBK s=true
 ·rw[hx]at cT
  obtain⟨hE,hI⟩:=jUD hx
  have HPE:=hid hE
  have HPI:=hid hI
  clear hx hE hI
  obtain⟨i0,hi0,hz0,hz1,hz2⟩:∃i,Tryz.prog.info? 228=some i∧i.zero=some .nilFunc∧i.size=1∧i.bytes=8:=jMO
  go_enter Tryz.func139,Tryz.ntmps139
  go_wp2_with (go_at_call 134;(with_reducible refine cT.mono ?_);rintro e w1 ⟨rfl,hb1⟩;have H1:=hid ((hb1.block _ (lt_of_block H0.out)).trans H0.out);have HB1:=hid (jAa HB0.out hb1);clear hb1)
  have hs1:w.heap.size<w1.heap.size:=lt_of_block H1.out
  have h4:=heap_alloc_new w1 (.cells #[.slice none 0 0,.int .i64 0] 131)
  have hw4:(w1.alloc (.cells #[.slice none 0 0,.int .i64 0] 131)).heap.size=w1.heap.size+1:=by simp
  have HIT:=hid (hw4▸heap_alloc_new (w1.alloc (.cells #[.slice none 0 0,.int .i64 0] 131)) (.stringIter s 0))
  have HP0:=hid (show jMC w.heap.size w1.heap.size [] ((w1.alloc (.cells #[.slice none 0 0,.int .i64 0] 131)).alloc (.stringIter s 0)) from jMC.step (w:=w1.alloc (.cells #[.slice none 0 0,.int .i64 0] 131)) ⟨_,[],h4,World.ownsRow_nil _ _ _ _,rfl,fun i hi=>by cases hi⟩ (jAb _))
  have H2:=hid (((jAa (jAb (w:=w1) (.cells #[.slice none 0 0,.int .i64 0] 131)) (jAb (w:=w1.alloc (.cells #[.slice none 0 0,.int .i64 0] 131)) (.stringIter s 0))).block _ hs1).trans H1.out)
  have HB2:=hid (jAa HB1.out (jAa (jAb (w:=w1) (.cells #[.slice none 0 0,.int .i64 0] 131)) (jAb (w:=w1.alloc (.cells #[.slice none 0 0,.int .i64 0] 131)) (.stringIter s 0))))
  go_loopw [5] (fun v5 wr=>∃ (pos fuel:Nat) (X:List Ft) (bg:Bool),v5=.bool bg∧Hid (wr.heap[w1.heap.size+1]? = some (.stringIter s pos))∧Hid (jMC w.heap.size w1.heap.size X wr)∧Hid (wr.heap[w.heap.size]? = some (.cells #[.slice none 0 0,.int .i64 0] 131 (0,0)))∧Hid (Below w.heap.size w wr)∧Hid (cmp (jAi s) false []=cmp (jCj s fuel pos) bg X)∧s.size≤pos+fuel∧X.length+fuel≤s.size) (fun _ wr=>s.size-wr.iterPos (w1.heap.size+1))
  case atStart=>exact⟨0,s.size,[],false,rfl,HIT.out,HP0.out,H2.out,HB2.out,by show _=_;rw[jOh],by omega,by simp⟩
  case round =>
   obtain⟨pos,fuel,X,bg,rfl,HI,HP,HR,HW,HC,hfu,hXp⟩:=hrel
   have jOM:=iterPos_of HI.out
   by_cases hp:pos<s.size
   ·have hnx:∀ty,(Instr.next (.pointer (some ⟨w1.heap.size+1,0,none⟩)) true ty).run Tryz.prog wr=_:=fun ty=>Lib.run_next_any_at wr (w1.heap.size+1) s pos ty HI.out hp
    have hwd:=width_pos s pos
    obtain⟨fuel,rfl⟩:∃f',fuel=f'+1:=⟨fuel-1,by omega⟩
    have hRS:=jL3 s fuel pos hp
    have HI1:=hid (Lib.iterAt_heap wr (w1.heap.size+1) s pos (pos+(Utf8.decode s pos).2) HI.out)
    have HW1:=hid (Lib.below_iterAt HW.out (k:=w1.heap.size+1) (by omega) s (pos+(Utf8.decode s pos).2))
    have HP1:=hid (HP.out.iter HI.out (pos+(Utf8.decode s pos).2))
    have HR1:=hid ((Lib.iterAt_other wr (w1.heap.size+1) w.heap.size s (pos+(Utf8.decode s pos).2) (by omega)).trans HR.out)
    obtain⟨W1,hW1⟩:∃W1,W1=wr.iterAt (w1.heap.size+1) s (pos+(Utf8.decode s pos).2):=⟨_,rfl⟩
    rw[←hW1]at hnx HI1 HW1 HP1 HR1
    clear hW1 HI HW HP HR
    generalize (Utf8.decode s pos).1=r at *
    generalize (Utf8.decode s pos).2=d at *
    rw[hRS]at HC
    have cS:=jQe r false (.inl rfl) W1
    have hq:IntKind.i64.wrap (((ftW X:Nat):Int)+1)=((ftW X+1:Nat):Int):=by have:=jPA X;rw[IntKind.wrap_i64];omega
    have jUh:s.size-(pos+d)<s.size-pos:=by omega
    cases bg
    ·by_cases h37:r=37
     ·subst h37
      have HC2:=hid (HC.out.trans (show cmp (37 :: jCj s fuel (pos+d)) false X=cmp (jCj s fuel (pos+d)) true X by rw[cmp];simp))
      clear cS
      go_wp2
      go_roundw
      case rel=>exact⟨pos+d,fuel,X,true,rfl,HI1.out,HP1.out,HR1.out,HW1.out,HC2.out,by omega,by first | omega | (simp;omega)⟩
      case measure=>rw[iterPos_of HI1.out,jOM];exact jUh
     ·have hrI:¬(r:Int)=37:=by omega
      have HC2:=hid (HC.out.trans (show cmp (r :: jCj s fuel (pos+d)) false X=cmp (jCj s fuel (pos+d)) false (X++[⟨false,r⟩]) by rw[cmp];simp[h37]))
      have WEQ:=hid (show ftW X+1=ftW (X++[⟨false,r⟩]) by rw[jLd,if_neg (by simp[jGR])])
      have qAS:X.length≤100010:=by omega
      go_wp2_with (first
       | (go_at_call 171;(with_reducible refine cS.mono ?_);rintro e w3 ⟨⟨t3,rfl,ht3,f3,cs3,rfl⟩,hb3⟩;have HT3:=hid ht3;have HP3:=hid (HP1.out.step hb3);have HR3:=hid ((hb3.block _ (lt_of_block HR1.out)).trans HR1.out);have HI3:=hid ((hb3.block _ (lt_of_block HI1.out)).trans HI1.out);have HW3:=hid (jAa HW1.out hb3);obtain⟨v3,us3,p1,p2,p3,p4⟩:=HP3.out;have d0:w3.cell? ⟨w1.heap.size,0,none⟩=some v3:=(Lib.cell_of_heap p1 0).trans rfl;have d1:w3.cell? ⟨w1.heap.size,1,none⟩=some (.int .i64 (ftW X:Nat)):=(Lib.cell_of_heap p1 1).trans rfl;have e0:=Lib.frozen_of_heap p1 0;have e1:=Lib.frozen_of_heap p1 1;have P1:=hid p1;have P2:=hid p2;have P3:=hid p3;have P4:=hid p4;have hsz3:w.heap.size≤w3.heap.size:=HW3.out.size;clear p1 p2 p3 p4;clear ht3 hb3)
       | (at_builtin;refine wpList_append_own _ rfl _ _ 129 rfl w.heap.size 228 i0 _ 1 8 Tryz.underlying129 hi0 hz0 hz1 hz2 rfl (by decide) _ _ _ rfl (World.ownsRow.alloc (w:=(w3.setCell ⟨w1.heap.size,1,none⟩ (.int .i64 ((ftW X+1:Nat):Int)))) ((Keeps.refl (fun q=>match q with | .cells _ t _=>t≠131 | _=>True) w3).setCell P1.out (fun h=>h rfl) 1 _ |>.row P2.out (fun _=>(show 228≠131 by decide))) _) ⟨w3.heap.size,0,none⟩ 1 1 [.func (.func f3) #[] cs3] rfl rfl (jEl (w:=(w3.setCell ⟨w1.heap.size,1,none⟩ (.int .i64 ((ftW X+1:Nat):Int)))) (by simp) _ _) (fun u hu=>by simp at hu;rcases hu with rfl;rfl) (by unfold maxLen;omega) (by omega) (by simp;omega) ?_;intro v9 w9 jCy jBL jFS;obtain⟨q9,c9,rfl⟩:=jD4 jCy;have jLD:=hid (jMC.put (x:=⟨false,r⟩) (W:=ftW X+1) (w4:=(w3.setCell ⟨w1.heap.size,1,none⟩ (.int .i64 ((ftW X+1:Nat):Int)))) (Nat.le_of_lt hs1) WEQ.out P1.out P2.out P3.out P4.out HT3.out (.inr rfl) (fun h=>absurd h (jTY P1.out (by omega))) jBL jCy);have k9:=jLD.out.2.2.2;have l0:=(Lib.cell_of_heap k9 0).trans rfl;have m0:=Lib.frozen_of_heap k9 0;clear jCy jBL jFS k9))
      have hPB:=jLD.out.2.1;have hPK:=jLD.out.2.2.1
      have HI9:=hid (hPK _ _ HI3.out (by omega) (fun cs h=>by cases h))
      have HR9:=hid (hPK _ _ HR3.out (by omega) (fun cs h=>by injection h with _ h _;exact absurd h (by decide)))
      have HW9:=hid (HW3.out.trans hPB)
      go_roundw
      case rel=>exact⟨pos+d,fuel,X++[(⟨false,r⟩:Ft)],false,rfl,HI9.out,jLD.out.1,HR9.out,HW9.out,HC2.out,by omega,by first | omega | (simp;omega)⟩
      case measure=>rw[iterPos_of HI9.out,jOM];exact jUh
    ·by_cases hsy:jNv r=true
     ·have HC2:=hid (HC.out.trans (show cmp (r :: jCj s fuel (pos+d)) true X=cmp (jCj s fuel (pos+d)) false (X++[⟨true,r⟩]) by rw[cmp];simp[hsy]))
      have cY:=fun w'=>jQw r hsy w'
      have qAS:X.length≤100010:=by omega
      by_cases h37:r=37
      ·subst h37
       have cS:Calls Tryz.prog 171 #[.int .i32 37] W1 fun e w'=>jER ⟨false,37⟩ W1 e w':=cS
       have cY:∀w',Calls Tryz.prog 172 #[.int .i32 37] w' fun e w2=>jER ⟨true,37⟩ w' e w2:=cY
       have WEQ:=hid (show ftW X+1=ftW (X++[⟨true,37⟩]) by rw[jLd,if_neg (by simp[jGR])])
       go_wp2_with (first
        | (go_at_call 171;(with_reducible refine cS.mono ?_);rintro e w3 ⟨⟨t3,rfl,ht3,f3,cs3,rfl⟩,hb3⟩;have HT3:=hid ht3;have HP3:=hid (HP1.out.step hb3);have HR3:=hid ((hb3.block _ (lt_of_block HR1.out)).trans HR1.out);have HI3:=hid ((hb3.block _ (lt_of_block HI1.out)).trans HI1.out);have HW3:=hid (jAa HW1.out hb3);clear ht3 hb3)
        | (go_at_call 172;(with_reducible refine (cY _).mono ?_);rintro e w5 ⟨⟨t5,rfl,ht5,f5,cs5,rfl⟩,hb5⟩;have HT5:=hid ht5;have HP5:=hid (HP3.out.step hb5);have HR5:=hid ((hb5.block _ (lt_of_block HR3.out)).trans HR3.out);have HI5:=hid ((hb5.block _ (lt_of_block HI3.out)).trans HI3.out);have HW5:=hid (jAa HW3.out hb5);obtain⟨v5,us5,p1,p2,p3,p4⟩:=HP5.out;have d0:w5.cell? ⟨w1.heap.size,0,none⟩=some v5:=(Lib.cell_of_heap p1 0).trans rfl;have d1:w5.cell? ⟨w1.heap.size,1,none⟩=some (.int .i64 (ftW X:Nat)):=(Lib.cell_of_heap p1 1).trans rfl;have e0:=Lib.frozen_of_heap p1 0;have e1:=Lib.frozen_of_heap p1 1;have P1:=hid p1;have P2:=hid p2;have P3:=hid p3;have P4:=hid p4;have jW0:w.heap.size≤w5.heap.size:=HW5.out.size;clear p1 p2 p3 p4;clear ht5 hb5)
        | (at_builtin;refine wpList_append_own _ rfl _ _ 129 rfl w.heap.size 228 i0 _ 1 8 Tryz.underlying129 hi0 hz0 hz1 hz2 rfl (by decide) _ _ _ rfl (World.ownsRow.alloc (w:=(w5.setCell ⟨w1.heap.size,1,none⟩ (.int .i64 ((ftW X+1:Nat):Int)))) ((Keeps.refl (fun q=>match q with | .cells _ t _=>t≠131 | _=>True) w5).setCell P1.out (fun h=>h rfl) 1 _ |>.row P2.out (fun _=>(show 228≠131 by decide))) _) ⟨w5.heap.size,0,none⟩ 1 1 [.func (.func f5) #[] cs5] rfl rfl (jEl (w:=(w5.setCell ⟨w1.heap.size,1,none⟩ (.int .i64 ((ftW X+1:Nat):Int)))) (by simp) _ _) (fun u hu=>by simp at hu;rcases hu with rfl;rfl) (by unfold maxLen;omega) (by omega) (by simp;omega) ?_;intro v9 w9 jCy jBL jFS;obtain⟨q9,c9,rfl⟩:=jD4 jCy;have jLD:=hid (jMC.put (x:=⟨true,37⟩) (W:=ftW X+1) (w4:=(w5.setCell ⟨w1.heap.size,1,none⟩ (.int .i64 ((ftW X+1:Nat):Int)))) (Nat.le_of_lt hs1) WEQ.out P1.out P2.out P3.out P4.out HT5.out (.inr rfl) (fun h=>absurd h (jTY P1.out (by omega))) jBL jCy);have k9:=jLD.out.2.2.2;have l0:=(Lib.cell_of_heap k9 0).trans rfl;have m0:=Lib.frozen_of_heap k9 0;clear jCy jBL jFS k9))
       have hPB:=jLD.out.2.1;have hPK:=jLD.out.2.2.1
       have HI9:=hid (hPK _ _ HI5.out (by omega) (fun cs h=>by cases h))
       have HR9:=hid (hPK _ _ HR5.out (by omega) (fun cs h=>by injection h with _ h _;exact absurd h (by decide)))
       have HW9:=hid (HW5.out.trans hPB)
       go_roundw
       case rel=>exact⟨pos+d,fuel,X++[(⟨true,37⟩:Ft)],false,rfl,HI9.out,jLD.out.1,HR9.out,HW9.out,HC2.out,by omega,by first | omega | (simp;omega)⟩
       case measure=>rw[iterPos_of HI9.out,jOM];exact jUh
      ·have hrI:¬(r:Int)=37:=by omega
       by_cases h98:r=98
       ·subst h98
        have cS:Calls Tryz.prog 171 #[.int .i32 98] W1 fun e w'=>jER ⟨false,98⟩ W1 e w':=cS
        have cY:∀w',Calls Tryz.prog 172 #[.int .i32 98] w' fun e w2=>jER ⟨true,98⟩ w' e w2:=cY
        have WEQ:=hid (show ftW X=ftW (X++[⟨true,98⟩]) by rw[jLd,if_pos (by simp[jGR])];rfl)
        go_wp2_with (first
         | (go_at_call 171;(with_reducible refine cS.mono ?_);rintro e w3 ⟨⟨t3,rfl,ht3,f3,cs3,rfl⟩,hb3⟩;have HT3:=hid ht3;have HP3:=hid (HP1.out.step hb3);have HR3:=hid ((hb3.block _ (lt_of_block HR1.out)).trans HR1.out);have HI3:=hid ((hb3.block _ (lt_of_block HI1.out)).trans HI1.out);have HW3:=hid (jAa HW1.out hb3);clear ht3 hb3)
         | (go_at_call 172;(with_reducible refine (cY _).mono ?_);rintro e w5 ⟨⟨t5,rfl,ht5,f5,cs5,rfl⟩,hb5⟩;have HT5:=hid ht5;have HP5:=hid (HP3.out.step hb5);have HR5:=hid ((hb5.block _ (lt_of_block HR3.out)).trans HR3.out);have HI5:=hid ((hb5.block _ (lt_of_block HI3.out)).trans HI3.out);have HW5:=hid (jAa HW3.out hb5);obtain⟨v5,us5,p1,p2,p3,p4⟩:=HP5.out;have d0:w5.cell? ⟨w1.heap.size,0,none⟩=some v5:=(Lib.cell_of_heap p1 0).trans rfl;have d1:w5.cell? ⟨w1.heap.size,1,none⟩=some (.int .i64 (ftW X:Nat)):=(Lib.cell_of_heap p1 1).trans rfl;have e0:=Lib.frozen_of_heap p1 0;have e1:=Lib.frozen_of_heap p1 1;have P1:=hid p1;have P2:=hid p2;have P3:=hid p3;have P4:=hid p4;have jW0:w.heap.size≤w5.heap.size:=HW5.out.size;clear p1 p2 p3 p4;clear ht5 hb5)
         | (at_builtin;refine wpList_append_own _ rfl _ _ 129 rfl w.heap.size 228 i0 _ 1 8 Tryz.underlying129 hi0 hz0 hz1 hz2 rfl (by decide) _ _ _ rfl (World.ownsRow.alloc (w:=w5) P2.out _) ⟨w5.heap.size,0,none⟩ 1 1 [.func (.func f5) #[] cs5] rfl rfl (jEl (w:=w5) (by simp) _ _) (fun u hu=>by simp at hu;rcases hu with rfl;rfl) (by unfold maxLen;omega) (by omega) (by simp;omega) ?_;intro v9 w9 jCy jBL jFS;obtain⟨q9,c9,rfl⟩:=jD4 jCy;have jLD:=hid (jMC.put (x:=⟨true,98⟩) (W:=ftW X) (w4:=w5) (Nat.le_of_lt hs1) WEQ.out P1.out P2.out P3.out P4.out HT5.out (.inl rfl) (fun _=>rfl) jBL jCy);have k9:=jLD.out.2.2.2;have l0:=(Lib.cell_of_heap k9 0).trans rfl;have m0:=Lib.frozen_of_heap k9 0;clear jCy jBL jFS k9))
        have hPB:=jLD.out.2.1;have hPK:=jLD.out.2.2.1
        have HI9:=hid (hPK _ _ HI5.out (by omega) (fun cs h=>by cases h))
        have HR9:=hid (hPK _ _ HR5.out (by omega) (fun cs h=>by injection h with _ h _;exact absurd h (by decide)))
        have HW9:=hid (HW5.out.trans hPB)
        go_roundw
        case rel=>exact⟨pos+d,fuel,X++[(⟨true,98⟩:Ft)],false,rfl,HI9.out,jLD.out.1,HR9.out,HW9.out,HC2.out,by omega,by first | omega | (simp;omega)⟩
        case measure=>rw[iterPos_of HI9.out,jOM];exact jUh
       ·have h98I:¬(r:Int)=98:=by omega
        have WEQ:=hid (show ftW X+1=ftW (X++[⟨true,r⟩]) by rw[jLd,if_neg (by simp[jGR,h98])])
        go_wp2_with (first
         | (go_at_call 171;(with_reducible refine cS.mono ?_);rintro e w3 ⟨⟨t3,rfl,ht3,f3,cs3,rfl⟩,hb3⟩;have HT3:=hid ht3;have HP3:=hid (HP1.out.step hb3);have HR3:=hid ((hb3.block _ (lt_of_block HR1.out)).trans HR1.out);have HI3:=hid ((hb3.block _ (lt_of_block HI1.out)).trans HI1.out);have HW3:=hid (jAa HW1.out hb3);clear ht3 hb3)
         | (go_at_call 172;(with_reducible refine (cY _).mono ?_);rintro e w5 ⟨⟨t5,rfl,ht5,f5,cs5,rfl⟩,hb5⟩;have HT5:=hid ht5;have HP5:=hid (HP3.out.step hb5);have HR5:=hid ((hb5.block _ (lt_of_block HR3.out)).trans HR3.out);have HI5:=hid ((hb5.block _ (lt_of_block HI3.out)).trans HI3.out);have HW5:=hid (jAa HW3.out hb5);obtain⟨v5,us5,p1,p2,p3,p4⟩:=HP5.out;have d0:w5.cell? ⟨w1.heap.size,0,none⟩=some v5:=(Lib.cell_of_heap p1 0).trans rfl;have d1:w5.cell? ⟨w1.heap.size,1,none⟩=some (.int .i64 (ftW X:Nat)):=(Lib.cell_of_heap p1 1).trans rfl;have e0:=Lib.frozen_of_heap p1 0;have e1:=Lib.frozen_of_heap p1 1;have P1:=hid p1;have P2:=hid p2;have P3:=hid p3;have P4:=hid p4;have jW0:w.heap.size≤w5.heap.size:=HW5.out.size;clear p1 p2 p3 p4;clear ht5 hb5)
         | (at_builtin;refine wpList_append_own _ rfl _ _ 129 rfl w.heap.size 228 i0 _ 1 8 Tryz.underlying129 hi0 hz0 hz1 hz2 rfl (by decide) _ _ _ rfl (World.ownsRow.alloc (w:=(w5.setCell ⟨w1.heap.size,1,none⟩ (.int .i64 ((ftW X+1:Nat):Int)))) ((Keeps.refl (fun q=>match q with | .cells _ t _=>t≠131 | _=>True) w5).setCell P1.out (fun h=>h rfl) 1 _ |>.row P2.out (fun _=>(show 228≠131 by decide))) _) ⟨w5.heap.size,0,none⟩ 1 1 [.func (.func f5) #[] cs5] rfl rfl (jEl (w:=(w5.setCell ⟨w1.heap.size,1,none⟩ (.int .i64 ((ftW X+1:Nat):Int)))) (by simp) _ _) (fun u hu=>by simp at hu;rcases hu with rfl;rfl) (by unfold maxLen;omega) (by omega) (by simp;omega) ?_;intro v9 w9 jCy jBL jFS;obtain⟨q9,c9,rfl⟩:=jD4 jCy;have jLD:=hid (jMC.put (x:=⟨true,r⟩) (W:=ftW X+1) (w4:=(w5.setCell ⟨w1.heap.size,1,none⟩ (.int .i64 ((ftW X+1:Nat):Int)))) (Nat.le_of_lt hs1) WEQ.out P1.out P2.out P3.out P4.out HT5.out (.inr rfl) (fun h=>absurd h (jTY P1.out (by omega))) jBL jCy);have k9:=jLD.out.2.2.2;have l0:=(Lib.cell_of_heap k9 0).trans rfl;have m0:=Lib.frozen_of_heap k9 0;clear jCy jBL jFS k9))
        have hPB:=jLD.out.2.1;have hPK:=jLD.out.2.2.1
        have HI9:=hid (hPK _ _ HI5.out (by omega) (fun cs h=>by cases h))
        have HR9:=hid (hPK _ _ HR5.out (by omega) (fun cs h=>by injection h with _ h _;exact absurd h (by decide)))
        have HW9:=hid (HW5.out.trans hPB)
        go_roundw
        case rel=>exact⟨pos+d,fuel,X++[(⟨true,r⟩:Ft)],false,rfl,HI9.out,jLD.out.1,HR9.out,HW9.out,HC2.out,by omega,by first | omega | (simp;omega)⟩
        case measure=>rw[iterPos_of HI9.out,jOM];exact jUh
     ·have hsy':jNv r=false:=by simpa using hsy
      have cN:=fun w'=>jTG r hsy' w'
      have HE:=hid (show jDz s=4 by rw[HPE.out,HC.out];rw[show cmp (r :: jCj s fuel (pos+d)) true X=none by rw[cmp];simp[hsy']])
      have h37:r≠37:=by rintro rfl;simp[jNv]at hsy'
      have hrI:¬(r:Int)=37:=by omega
      go_wp2_with (first
       | (go_at_call 171;(with_reducible refine cS.mono ?_);rintro e w3 ⟨⟨t3,rfl,ht3,f3,cs3,rfl⟩,hb3⟩;have HT3:=hid ht3;have HP3:=hid (HP1.out.step hb3);have HR3:=hid ((hb3.block _ (lt_of_block HR1.out)).trans HR1.out);have HI3:=hid ((hb3.block _ (lt_of_block HI1.out)).trans HI1.out);have HW3:=hid (jAa HW1.out hb3);have c0:w3.cell? ⟨w.heap.size,0,none⟩=some (.slice none 0 0):=(Lib.cell_of_heap HR3.out 0).trans rfl;have c1:w3.cell? ⟨w.heap.size,1,none⟩=some (.int .i64 0):=(Lib.cell_of_heap HR3.out 1).trans rfl;have f0:=Lib.frozen_of_heap HR3.out 0;have f1:=Lib.frozen_of_heap HR3.out 1;clear ht3 hb3)
       | (go_at_call 172;(with_reducible refine (cN _).mono ?_);rintro e w5 ⟨rfl,rfl⟩))
      have jNx:=jF1 HR3.out (.slice none 0 0) (.int .i64 0)
      refine bodyPost_ret (jDt (xs:=[.slice none 0 0,.int .i64 0]) rfl rfl ap zp (jD2 jNx)) rfl ?_
      exact⟨⟨_,0,by rw[HE.out];rfl,⟨_,_,_,rfl⟩,fun h=>by rw[HE.out]at h;cases h⟩,((HW3.out.setCell (p:=⟨w.heap.size,0,none⟩) (Nat.le_refl _) _).setCell (p:=⟨w.heap.size,1,none⟩) (Nat.le_refl _) _)⟩
   ·have hnx:∀ty,(Instr.next (.pointer (some ⟨w1.heap.size+1,0,none⟩)) true ty).run Tryz.prog wr=_:=fun ty=>Lib.run_next_end_at wr (w1.heap.size+1) s pos ty HI.out hp
    rw[jOo s fuel pos hp]at HC
    cases bg
    ·have hHC:=HC.out
     rw[cmp]at hHC
     have hit:=HPI.out X hHC
     by_cases h32:32<X.length
     ·have h32I:(32:Int)<(X.length:Int):=by omega
      have HE:=hid (show jDz s=3 by rw[HPE.out,hHC];exact if_pos h32)
      obtain⟨vr,usr,p1,p2,p3,p4⟩:=HP.out;have d0:wr.cell? ⟨w1.heap.size,0,none⟩=some vr:=(Lib.cell_of_heap p1 0).trans rfl;have d1:wr.cell? ⟨w1.heap.size,1,none⟩=some (.int .i64 (ftW X:Nat)):=(Lib.cell_of_heap p1 1).trans rfl;have e0:=Lib.frozen_of_heap p1 0;have e1:=Lib.frozen_of_heap p1 1;have P1:=hid p1;have P2:=hid p2;have P3:=hid p3;have P4:=hid p4;have jZ8:w.heap.size≤wr.heap.size:=HW.out.size;clear p1 p2 p3 p4;have c0:wr.cell? ⟨w.heap.size,0,none⟩=some (.slice none 0 0):=(Lib.cell_of_heap HR.out 0).trans rfl;have c1:wr.cell? ⟨w.heap.size,1,none⟩=some (.int .i64 0):=(Lib.cell_of_heap HR.out 1).trans rfl;have f0:=Lib.frozen_of_heap HR.out 0;have f1:=Lib.frozen_of_heap HR.out 1
      obtain⟨q4,c4,rfl⟩:=jEb P2.out
      go_wp2
      have jNx:=jF1 HR.out (.slice none 0 0) (.int .i64 0)
      refine bodyPost_ret (jDt (xs:=[.slice none 0 0,.int .i64 0]) rfl rfl ap zp (jD2 jNx)) rfl ?_
      exact⟨⟨_,0,by rw[HE.out];rfl,⟨_,_,_,rfl⟩,fun h=>by rw[HE.out]at h;cases h⟩,((HW.out.setCell (p:=⟨w.heap.size,0,none⟩) (Nat.le_refl _) _).setCell (p:=⟨w.heap.size,1,none⟩) (Nat.le_refl _) _)⟩
     ·have h32I:¬(32:Int)<(X.length:Int):=by omega
      have HE:=hid (show jDz s=0 by rw[HPE.out,hHC];exact if_neg h32)
      obtain⟨vr,usr,p1,p2,p3,p4⟩:=HP.out;have d0:wr.cell? ⟨w1.heap.size,0,none⟩=some vr:=(Lib.cell_of_heap p1 0).trans rfl;have d1:wr.cell? ⟨w1.heap.size,1,none⟩=some (.int .i64 (ftW X:Nat)):=(Lib.cell_of_heap p1 1).trans rfl;have e0:=Lib.frozen_of_heap p1 0;have e1:=Lib.frozen_of_heap p1 1;have P1:=hid p1;have P2:=hid p2;have P3:=hid p3;have P4:=hid p4;have jZ8:w.heap.size≤wr.heap.size:=HW.out.size;clear p1 p2 p3 p4;have c0:wr.cell? ⟨w.heap.size,0,none⟩=some (.slice none 0 0):=(Lib.cell_of_heap HR.out 0).trans rfl;have c1:wr.cell? ⟨w.heap.size,1,none⟩=some (.int .i64 0):=(Lib.cell_of_heap HR.out 1).trans rfl;have f0:=Lib.frozen_of_heap HR.out 0;have f1:=Lib.frozen_of_heap HR.out 1
      obtain⟨q4,c4,rfl⟩:=jEb P2.out
      go_wp2
      have jNx:=jF1 HR.out (.slice q4 X.length c4) (.int .i64 (ftW X:Nat))
      refine bodyPost_ret (jDt (xs:=[.slice q4 X.length c4,.int .i64 (ftW X:Nat)]) rfl rfl ap zp (jD2 jNx)) rfl ?_
      exact⟨⟨_,ftW X,by rw[HE.out];rfl,⟨_,_,_,rfl⟩,fun _=>by rw[hit];exact⟨rfl,jTh HR.out P2.out P3.out P4.out _ _⟩⟩,((HW.out.setCell (p:=⟨w.heap.size,0,none⟩) (Nat.le_refl _) _).setCell (p:=⟨w.heap.size,1,none⟩) (Nat.le_refl _) _)⟩
    ·have hHC:=HC.out
     rw[cmp]at hHC
     have HE:=hid (show jDz s=4 by rw[HPE.out,hHC])
     have c0:wr.cell? ⟨w.heap.size,0,none⟩=some (.slice none 0 0):=(Lib.cell_of_heap HR.out 0).trans rfl;have c1:wr.cell? ⟨w.heap.size,1,none⟩=some (.int .i64 0):=(Lib.cell_of_heap HR.out 1).trans rfl;have f0:=Lib.frozen_of_heap HR.out 0;have f1:=Lib.frozen_of_heap HR.out 1
     go_wp2
     have jNx:=jF1 HR.out (.slice none 0 0) (.int .i64 0)
     refine bodyPost_ret (jDt (xs:=[.slice none 0 0,.int .i64 0]) rfl rfl ap zp (jD2 jNx)) rfl ?_
     exact⟨⟨_,0,by rw[HE.out];rfl,⟨_,_,_,rfl⟩,fun h=>by rw[HE.out]at h;cases h⟩,((HW.out.setCell (p:=⟨w.heap.size,0,none⟩) (Nat.le_refl _) _).setCell (p:=⟨w.heap.size,1,none⟩) (Nat.le_refl _) _)⟩
 ·have hx':jBK s=false:=by simpa using hx
  rw[hx']at cT
  have HE:=hid (show jDz s=4 by unfold jDz;rw[if_pos hx'])
  clear hx hx'
  go_enter Tryz.func139,Tryz.ntmps139
  go_wp2_with (go_at_call 134;(with_reducible refine cT.mono ?_);rintro e w1 ⟨rfl,hb1⟩;have H1:=hid ((hb1.block _ (lt_of_block H0.out)).trans H0.out);have c0:w1.cell? ⟨w.heap.size,0,none⟩=some (.slice none 0 0):=(Lib.cell_of_heap H1.out 0).trans rfl;have c1:w1.cell? ⟨w.heap.size,1,none⟩=some (.int .i64 0):=(Lib.cell_of_heap H1.out 1).trans rfl;have f0:=Lib.frozen_of_heap H1.out 0;have f1:=Lib.frozen_of_heap H1.out 1;have HB1:=hid (jAa HB0.out hb1);clear hb1)
  have jNx:=jF1 H1.out (.slice none 0 0) (.int .i64 0)
  refine bodyPost_ret (jDt (xs:=[.slice none 0 0,.int .i64 0]) rfl rfl ap zp (jD2 jNx)) rfl ?_
  exact⟨⟨_,0,by rw[HE.out];rfl,⟨_,_,_,rfl⟩,fun h=>by rw[HE.out]at h;cases h⟩,((HB1.out.setCell (p:=⟨w.heap.size,0,none⟩) (Nat.le_refl _) _).setCell (p:=⟨w.heap.size,1,none⟩) (Nat.le_refl _) _)⟩
end Go.Proofs.YtldapapdolkiaaaGreatDoor
