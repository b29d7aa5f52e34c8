/- DocsRestored returns true for any document, any rules and any number, in every world that the row speaks of: the document's own segments restore it, the blocks that are not raw have segments and the raw ones none, and with two neighbours of one block glued the segments still restore it; the layer's examples are a closed run. No condition but the row's own. -/
import Derived.Test.YtldapapdolkiaaaGreatDoorBsC
import Derived.Test.YtldapapdolkiaaaGreatDoorSrA
namespace Go.Proofs.YtldapapdolkiaaaGreatDoor
open Go Go.Eng Go.ChangeShapes Go.WideShapes Go.ChangeAt Go.ChangeMaps Go.RowKit Go.Lib
set_option maxRecDepth 100000
theorem jIV (H:Type)(enc:TypeId × Value→H)(W:World)(base:Nat)(args:Array Value)(ds gs:List (DataW H))(before:List MemPlace)
 (jDx:∀ (j:Nat) t v,Tryz.f4.params[j]? = some t→args[j]? = some v→Value.okWide Tryz.prog W .any base t v)
 (hW:DataW.Whole enc Tryz.prog Tryz.f4.params.toList Rows.docsRestoredSpec.vars false W args.toList ds gs before)
 (hwt:(DataW.weightsEach Tryz.prog (Tryz.f4.params.toList++(OpenSpec.ofChange Rows.docsRestoredSpec).bare.plain.varTypes Tryz.prog) (ds++gs)).all (·≤reachBytes)=true)
 (hL:laidMetH Tryz.prog Rows.docsRestoredRow.laid W) (h5:5≤W.heap.size) :
 Calls Tryz.prog 4 args W fun e W'=>∃v,e=.returned v∧Rows.docsRestoredSpec.post enc Tryz.prog Tryz.f4 false true false false W args v W':=by
 have hW':=hW
 have hlt:=hW.lt
 obtain⟨p,q,hA0,hV,rfl,hfz,hnd⟩:=hW
 have hA:DataW.TrodAll enc Tryz.prog W 0 (fun _=>true) true Tryz.f4.params.toList args.toList ds p:=hA0
 rw[Tryz.params4]at hA hwt
 obtain⟨v1,v2,v3,d1,d2,d3,p1,p2,p3,rfl,rfl,rfl,h1,h2,h3⟩:=trodAll_three hA
 obtain⟨hT,hN,hR⟩:=tables h5 (Lib.laidMet.reads hL (.tail _ (.head _))) (Lib.laidMet.reads hL (.tail _ (.tail _ (.head _)))) (Lib.laidMet.reads hL (.tail _ (.tail _ (.tail _ (.head _))))) (Lib.laidMet.reads hL (.head _))
 have hC:=jXS (Lib.laidMet.reads hL (.tail _ (.tail _ (.head _))))
 obtain⟨fu1,hf1⟩:=h1
 obtain⟨l1,u1,hu1,hl1,hz1⟩:=jUT hf1 (fun n hn=>of_decide_eq_true (List.all_eq_true.1 hwt n (DataW.weights_mem_each (j:=0) rfl rfl n hn)))
 have h1:DataW.Trod enc Tryz.prog W 0 (fun _=>true) true 24 v1 d1 p1:=⟨fu1,hf1⟩
 obtain rfl:v1=.agg #[u1]:=jZe (jDx 0 24 v1 (by rw[Tryz.params4];rfl) rfl) hu1
 obtain⟨fu2,hf2⟩:=h2
 obtain⟨l2,u2,hu2,hl2,hz2,hn2⟩:=jQ6 hf2 (fun n hn=>of_decide_eq_true (List.all_eq_true.1 hwt n (DataW.weights_mem_each (j:=1) rfl rfl n hn)))
 have h2:DataW.Trod enc Tryz.prog W 0 (fun _=>true) true 25 v2 d2 p2:=⟨fu2,hf2⟩
 obtain rfl:v2=u2:=jN2 (jDx 1 25 v2 (by rw[Tryz.params4];rfl) rfl) hu2
 obtain⟨k3,hk3⟩:=okWide_int Tryz.underlying3 (jDx 2 3 v3 (by rw[Tryz.params4];rfl) rfl)
 obtain⟨rfl,rfl⟩:=trodVars_none hV
 have hc:Calls Tryz.prog 4 #[.agg #[u1],v2,v3] W fun e w'=>e=.returned (.bool true)∧Below W.heap.size W w':=by
  rw[hk3]
  exact jWh l1 l2 k3 u1 v2 W hl1 hl2 hz1 hz2 hn2 hT hC hR
 refine hc.mono fun e W' ⟨he,hb⟩=>?_
 subst he
 exact⟨_,rfl,[_,_,_],[],_,[],p1++(p2++p3),[],hW',trodAll_mk1 (shut_bool Tryz.underlying4 true),
  by rw[Tryz.params4];exact trodAll_mk3 (Below.trod jKT (by kernel_rfl) (by decide +kernel) h1 hb fun x hx=>hlt x (by simp[hx])) (Below.trod jKT (by kernel_rfl) (by decide +kernel) h2 hb fun x hx=>hlt x (by simp[hx])) (Below.trod jKT (by kernel_rfl) (by decide +kernel) h3 hb fun x hx=>hlt x (by simp[hx])),rfl,hb.frame _,fun h=>by cases h⟩
theorem jMb (os:Os){H:Type}(enc:TypeId × Value→H):∃places,DataW.whole enc Tryz.prog ((jEP os).forCall (fun _ _=>0) ⟨#[],#[.agg #[.slice none 0 0],.slice none 0 0,.int .i64 0],[]⟩).memory Tryz.f4.params.toList Rows.docsRestoredSpec.vars false (#[.agg #[.slice none 0 0],.slice none 0 0,.int .i64 0]:Array Value).toList 8=some ([.agg [.nil],.nil,.lit (.int .i64 0)],[],places) :=
 ⟨[],by kernel_rfl⟩
theorem jND (os:Os):laidMet Tryz.prog Rows.docsRestoredRow.laid ((jEP os).forCall (fun _ _=>0) ⟨#[],#[.agg #[.slice none 0 0],.slice none 0 0,.int .i64 0],[]⟩).memory :=
 laidMet_of_run' 8 (by kernel_rfl) (by kernel_rfl)
theorem jNH (os:Os):((jEP os).forCall (fun _ _=>0) ⟨#[],#[.agg #[.slice none 0 0],.slice none 0 0,.int .i64 0],[]⟩).variablesB Tryz.prog=true:=by kernel_rfl
theorem jOu (os:Os):((((jEP os).forCall (fun _ _=>0) ⟨#[],#[.agg #[.slice none 0 0],.slice none 0 0,.int .i64 0],[]⟩).heap.toList.drop Tryz.prog.globals.size).take ((begin Tryz.prog (fun _ _=>0) default).world.heap.size-Tryz.prog.globals.size)) =
 (begin Tryz.prog (fun _ _=>0) default).world.heap.toList.drop Tryz.prog.globals.size:=by kernel_rfl
theorem jLh (os:Os)(started:os.Started)(H:Type)(enc:TypeId × Value→H)(F:Stop.Interp) :
 ReturnsInHanded {} Tryz.checked os 4 .any ((OpenSpec.ofChange Rows.docsRestoredSpec).preRow enc Tryz.prog Tryz.f4 Rows.docsRestoredRow.domain false Rows.docsRestoredRow.laid) (((OpenSpec.ofChange Rows.docsRestoredSpec).at F).post enc Tryz.prog Tryz.f4 false true false false):=by
 obtain⟨places,hx⟩:=jMb os enc
 refine returnsInHanded_of_row (C:=Tryz.checked) (s:=OpenSpec.ofChange Rows.docsRestoredSpec) own started (by kernel_rfl) Tryz.func4
  (witness_row_at (enc:=enc) (C:=Tryz.checked) false (jEP os) #[.agg #[.slice none 0 0],.slice none 0 0,.int .i64 0] rfl (jNH os) (jOu os) (by kernel_rfl)
    (OpenSpec.preRow_of_cond 8 hx (by kernel_rfl) (fun k hk=>by cases hk) (by kernel_rfl) (jND os))) ?_
 intro W base args ds gs before jDx hW _ _ hwt hL hsh _
 exact jIV H enc W base args ds gs before jDx hW hwt hL (blocks hsh)
theorem jNC:Rows.DocsRestoredSaid :=
 OpenClaim.holds_of_cond 4 Tryz.f4 rfl rfl rfl rfl rfl rfl rfl ⟨rfl,rfl,rfl,rfl,rfl⟩ rfl rfl rfl rfl rfl (by kernel_rfl) Tryz.func4 (by kernel_rfl)
  (of_decide_eq_true (by kernel_rfl)) (by unfold Func.isWrapper;first | (rw[if_pos (by decide +kernel)];kernel_rfl) | (rw[if_neg (by decide +kernel)];exact⟨rfl,rfl⟩))
  (fun os started H enc _ F=>by rw[OpenClaim.pre_eq_preRow];exact jLh os started H enc F)
theorem jMN (f:FuncId)(fn:Func)(hf:Tryz.pinned.checked.prog.funcNamed "truchman/truchmanlaw01.DocsRestored" = some f)(hfn:Tryz.pinned.checked.prog.funcs[f]? = some fn) :
 false=Tryz.pinned.checked.prog.looks []∧∀ (j:Nat) t,fn.params[j]? = some t→Tryz.pinned.checked.prog.wantsStandIn t=false:=by
 obtain rfl:f=4:=Option.some.inj ((show Tryz.prog.funcNamed "truchman/truchmanlaw01.DocsRestored" = some 4 by kernel_rfl).symm.trans hf) |>.symm
 obtain rfl:fn=Tryz.f4:=(Option.some.inj (Tryz.func4.symm.trans hfn)).symm
 refine⟨by kernel_rfl,fun j t ht=>?_⟩
 rw[Tryz.params4]at ht
 have ht':t=25∨t=24∨t=3:=by
  match j,ht with
  | 0,ht=>simp at ht;simp[←ht]
  | 1,ht=>simp at ht;simp[←ht]
  | 2,ht=>simp at ht;simp[←ht]
  | j+3,ht=>simp at ht
 rcases ht' with rfl | rfl | rfl
 ·exact (show Tryz.prog.wantsStandIn 25=false by kernel_rfl)
 ·exact (show Tryz.prog.wantsStandIn 24=false by kernel_rfl)
 ·exact (show Tryz.prog.wantsStandIn 3=false by kernel_rfl)
theorem docsRestored_holds:Rows.DocsRestoredCardSaid :=
 Claim7.holds_tied_plain_at .later [] _ _ _ _ jNC (fun _ h=>by cases h) (by kernel_rfl) (fun _ h=>by cases h) docsRestored_row_tie rfl ⟨rfl,rfl⟩ (by kernel_rfl) rfl jMN (by kernel_rfl)
#print axioms docsRestored_holds
end Go.Proofs.YtldapapdolkiaaaGreatDoor
