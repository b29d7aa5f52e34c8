/- DocsSegments returns true for any document, any rules and any segments, in every world that the row speaks of: the segments of the document, and the document with the given segments in their place, are what the specification tells; the layer's examples are a closed run. No condition but the row's own. -/
import Derived.Test.YtldapapdolkiaaaGreatDoorBsC
import Derived.Test.YtldapapdolkiaaaGreatDoorSgE
namespace Go.Proofs.YtldapapdolkiaaaGreatDoor
open Go Go.Eng Go.ChangeShapes Go.WideShapes Go.ChangeAt Go.ChangeMaps Go.RowKit Go.Lib
set_option maxRecDepth 100000
theorem jEY (H:Type)(enc:TypeId × Value→H)(W:World)(base:Nat)(args:Array Value)(ds gs:List (DataW H))(before:List MemPlace)
 (jDx:∀ (j:Nat) t v,Tryz.f3.params[j]? = some t→args[j]? = some v→Value.okWide Tryz.prog W .any base t v)
 (hW:DataW.Whole enc Tryz.prog Tryz.f3.params.toList Rows.docsSegmentsSpec.vars false W args.toList ds gs before)
 (hwt:(DataW.weightsEach Tryz.prog (Tryz.f3.params.toList++(OpenSpec.ofChange Rows.docsSegmentsSpec).bare.plain.varTypes Tryz.prog) (ds++gs)).all (·≤reachBytes)=true)
 (hL:laidMetH Tryz.prog Rows.docsSegmentsRow.laid W) (h5:5≤W.heap.size) :
 Calls Tryz.prog 3 args W fun e W'=>∃v,e=.returned v∧Rows.docsSegmentsSpec.post enc Tryz.prog Tryz.f3 false true false false W args v W':=by
 have hW':=hW
 have hlt:=hW.lt
 obtain⟨p,q,hA0,hV,rfl,hfz,hnd⟩:=hW
 have hA:DataW.TrodAll enc Tryz.prog W 0 (fun _=>true) true Tryz.f3.params.toList args.toList ds p:=hA0
 rw[Tryz.params3]at hA hwt
 obtain⟨v1,v2,v3,d1,d2,d3,p1,p2,p3,rfl,rfl,rfl,h1,h2,h3⟩:=trodAll_three hA
 obtain⟨hT,hN,hR⟩:=tables h5 (Lib.laidMet.reads hL (.tail _ (.head _))) (Lib.laidMet.reads hL (.tail _ (.tail _ (.head _)))) (Lib.laidMet.reads hL (.tail _ (.tail _ (.tail _ (.head _))))) (Lib.laidMet.reads hL (.head _))
 have hC:=jXS (Lib.laidMet.reads hL (.tail _ (.tail _ (.head _))))
 obtain⟨fu1,hf1⟩:=h1
 obtain⟨l1,u1,hu1,hl1,hz1⟩:=jUT hf1 (fun n hn=>of_decide_eq_true (List.all_eq_true.1 hwt n (DataW.weights_mem_each (j:=0) rfl rfl n hn)))
 have h1:DataW.Trod enc Tryz.prog W 0 (fun _=>true) true 24 v1 d1 p1:=⟨fu1,hf1⟩
 obtain rfl:v1=.agg #[u1]:=jZe (jDx 0 24 v1 (by rw[Tryz.params3];rfl) rfl) hu1
 obtain⟨fu2,hf2⟩:=h2
 obtain⟨l2,u2,hu2,hl2,hz2,hn2⟩:=jQ6 hf2 (fun n hn=>of_decide_eq_true (List.all_eq_true.1 hwt n (DataW.weights_mem_each (j:=1) rfl rfl n hn)))
 have h2:DataW.Trod enc Tryz.prog W 0 (fun _=>true) true 25 v2 d2 p2:=⟨fu2,hf2⟩
 obtain rfl:v2=u2:=jN2 (jDx 1 25 v2 (by rw[Tryz.params3];rfl) rfl) hu2
 obtain⟨fu3,hf3⟩:=h3
 obtain⟨l3,u3,hu3,hl3,hz3⟩:=jUU hf3 (fun n hn=>of_decide_eq_true (List.all_eq_true.1 hwt n (DataW.weights_mem_each (j:=2) rfl rfl n hn)))
 have h3:DataW.Trod enc Tryz.prog W 0 (fun _=>true) true 26 v3 d3 p3:=⟨fu3,hf3⟩
 obtain rfl:v3=u3:=jSZ (jDx 2 26 v3 (by rw[Tryz.params3];rfl) rfl) hu3
 obtain⟨rfl,rfl⟩:=trodVars_none hV
 have hc:Calls Tryz.prog 3 #[.agg #[u1],v2,v3] W fun e w'=>e=.returned (.bool true)∧Below W.heap.size W w':=by
  exact jNi l1 l2 l3 u1 v2 v3 W hl1 hl2 hl3 hz1 hz2 hn2 hz3 hT hC hR
 refine hc.mono fun e W' ⟨he,hb⟩=>?_
 subst he
 exact⟨_,rfl,[_,_,_],[],_,[],p1++(p2++p3),[],hW',trodAll_mk1 (shut_bool Tryz.underlying4 true),
  by rw[Tryz.params3];exact trodAll_mk3 (Below.trod jKT (by kernel_rfl) (by decide +kernel) h1 hb fun x hx=>hlt x (by simp[hx])) (Below.trod jKT (by kernel_rfl) (by decide +kernel) h2 hb fun x hx=>hlt x (by simp[hx])) (Below.trod jKT (by kernel_rfl) (by decide +kernel) h3 hb fun x hx=>hlt x (by simp[hx])),rfl,hb.frame _,fun h=>by cases h⟩
theorem jFX (os:Os){H:Type}(enc:TypeId × Value→H):∃places,DataW.whole enc Tryz.prog ((jEP os).forCall (fun _ _=>0) ⟨#[],#[.agg #[.slice none 0 0],.slice none 0 0,.slice none 0 0],[]⟩).memory Tryz.f3.params.toList Rows.docsSegmentsSpec.vars false (#[.agg #[.slice none 0 0],.slice none 0 0,.slice none 0 0]:Array Value).toList 8=some ([.agg [.nil],.nil,.nil],[],places) :=
 ⟨[],by kernel_rfl⟩
theorem jGY (os:Os):laidMet Tryz.prog Rows.docsSegmentsRow.laid ((jEP os).forCall (fun _ _=>0) ⟨#[],#[.agg #[.slice none 0 0],.slice none 0 0,.slice none 0 0],[]⟩).memory :=
 laidMet_of_run' 8 (by kernel_rfl) (by kernel_rfl)
theorem jHe (os:Os):((jEP os).forCall (fun _ _=>0) ⟨#[],#[.agg #[.slice none 0 0],.slice none 0 0,.slice none 0 0],[]⟩).variablesB Tryz.prog=true:=by kernel_rfl
theorem jG0 (os:Os):((((jEP os).forCall (fun _ _=>0) ⟨#[],#[.agg #[.slice none 0 0],.slice none 0 0,.slice none 0 0],[]⟩).heap.toList.drop Tryz.prog.globals.size).take ((begin Tryz.prog (fun _ _=>0) default).world.heap.size-Tryz.prog.globals.size)) =
 (begin Tryz.prog (fun _ _=>0) default).world.heap.toList.drop Tryz.prog.globals.size:=by kernel_rfl
theorem jFP (os:Os)(started:os.Started)(H:Type)(enc:TypeId × Value→H)(F:Stop.Interp) :
 ReturnsInHanded {} Tryz.checked os 3 .any ((OpenSpec.ofChange Rows.docsSegmentsSpec).preRow enc Tryz.prog Tryz.f3 Rows.docsSegmentsRow.domain false Rows.docsSegmentsRow.laid) (((OpenSpec.ofChange Rows.docsSegmentsSpec).at F).post enc Tryz.prog Tryz.f3 false true false false):=by
 obtain⟨places,hx⟩:=jFX os enc
 refine returnsInHanded_of_row (C:=Tryz.checked) (s:=OpenSpec.ofChange Rows.docsSegmentsSpec) own started (by kernel_rfl) Tryz.func3
  (witness_row_at (enc:=enc) (C:=Tryz.checked) false (jEP os) #[.agg #[.slice none 0 0],.slice none 0 0,.slice none 0 0] rfl (jHe os) (jG0 os) (by kernel_rfl)
    (OpenSpec.preRow_of_cond 8 hx (by kernel_rfl) (fun k hk=>by cases hk) (by kernel_rfl) (jGY os))) ?_
 intro W base args ds gs before jDx hW _ _ hwt hL hsh _
 exact jEY H enc W base args ds gs before jDx hW hwt hL (blocks hsh)
theorem jGM:Rows.DocsSegmentsSaid :=
 OpenClaim.holds_of_cond 3 Tryz.f3 rfl rfl rfl rfl rfl rfl rfl ⟨rfl,rfl,rfl,rfl,rfl⟩ rfl rfl rfl rfl rfl (by kernel_rfl) Tryz.func3 (by kernel_rfl)
  (of_decide_eq_true (by kernel_rfl)) (by unfold Func.isWrapper;first | (rw[if_pos (by decide +kernel)];kernel_rfl) | (rw[if_neg (by decide +kernel)];exact⟨rfl,rfl⟩))
  (fun os started H enc _ F=>by rw[OpenClaim.pre_eq_preRow];exact jFP os started H enc F)
theorem jGd (f:FuncId)(fn:Func)(hf:Tryz.pinned.checked.prog.funcNamed "truchman/truchmanlaw01.DocsSegments" = some f)(hfn:Tryz.pinned.checked.prog.funcs[f]? = some fn) :
 false=Tryz.pinned.checked.prog.looks []∧∀ (j:Nat) t,fn.params[j]? = some t→Tryz.pinned.checked.prog.wantsStandIn t=false:=by
 obtain rfl:f=3:=Option.some.inj ((show Tryz.prog.funcNamed "truchman/truchmanlaw01.DocsSegments" = some 3 by kernel_rfl).symm.trans hf) |>.symm
 obtain rfl:fn=Tryz.f3:=(Option.some.inj (Tryz.func3.symm.trans hfn)).symm
 refine⟨by kernel_rfl,fun j t ht=>?_⟩
 rw[Tryz.params3]at ht
 have ht':t=25∨t=26∨t=24:=by
  match j,ht with
  | 0,ht=>simp at ht;simp[←ht]
  | 1,ht=>simp at ht;simp[←ht]
  | 2,ht=>simp at ht;simp[←ht]
  | j+3,ht=>simp at ht
 rcases ht' with rfl | rfl | rfl
 ·exact (show Tryz.prog.wantsStandIn 25=false by kernel_rfl)
 ·exact (show Tryz.prog.wantsStandIn 26=false by kernel_rfl)
 ·exact (show Tryz.prog.wantsStandIn 24=false by kernel_rfl)
theorem docsSegments_holds:Rows.DocsSegmentsCardSaid :=
 Claim7.holds_tied_plain_at .later [] _ _ _ _ jGM (fun _ h=>by cases h) (by kernel_rfl) (fun _ h=>by cases h) docsSegments_row_tie rfl ⟨rfl,rfl⟩ (by kernel_rfl) rfl jGd (by kernel_rfl)
#print axioms docsSegments_holds
end Go.Proofs.YtldapapdolkiaaaGreatDoor
