/- DocsFits returns true for any rules and any list of pieces, in every world that the row speaks of: a rule ahead of all others that fits nowhere changes nothing, one without patterns decides everywhere, and breaks lie inside of the list, one behind another; the layer's examples are a closed run. No condition but the row's own. -/
import Derived.Test.YtnkpjkomokkhcaaGreatDoorBs13
import Derived.Test.YtnkpjkomokkhcaaGreatDoorBsC
namespace Go.Proofs.YtnkpjkomokkhcaaGreatDoor
open Go Go.Eng Go.ChangeShapes Go.WideShapes Go.ChangeAt Go.ChangeMaps Go.RowKit Go.Lib
set_option maxRecDepth 100000
theorem docsFits_contract (H : Type) (enc : TypeId × Value → H) (W : World) (base : Nat) (args : Array Value) (ds gs : List (DataW H)) (before : List MemPlace)
    (hval : ∀ (j : Nat) t v, Tryz.f6.params[j]? = some t → args[j]? = some v → Value.okWide Tryz.prog W .any base t v)
    (hW : DataW.Whole enc Tryz.prog Tryz.f6.params.toList Rows.docsFitsSpec.vars false W args.toList ds gs before)
    (hwt : (DataW.weightsEach Tryz.prog (Tryz.f6.params.toList ++ (OpenSpec.ofChange Rows.docsFitsSpec).bare.plain.varTypes Tryz.prog) (ds ++ gs)).all (· ≤ reachBytes) = true)
    (hL : laidMetH Tryz.prog Rows.docsFitsRow.laid W) (h5 : 5 ≤ W.heap.size) :
    Calls Tryz.prog 6 args W fun e W' => ∃ v, e = .returned v ∧ Rows.docsFitsSpec.post enc Tryz.prog Tryz.f6 false true false false W args v W' := by
  have hW' := hW
  have hlt := hW.lt
  obtain ⟨p, q, hA0, hV, rfl, hfz, hnd⟩ := hW
  have hA : DataW.TrodAll enc Tryz.prog W 0 (fun _ => true) true Tryz.f6.params.toList args.toList ds p := hA0
  rw [Tryz.params6] at hA hwt
  obtain ⟨v1, v2, d1, d2, p1, p2, rfl, rfl, rfl, h1, h2⟩ := trodAll_two hA
  obtain ⟨hT, hN, hR⟩ := tables h5 (Lib.laidMet.reads hL (.tail _ (.head _))) (Lib.laidMet.reads hL (.tail _ (.tail _ (.head _)))) (Lib.laidMet.reads hL (.tail _ (.tail _ (.tail _ (.head _))))) (Lib.laidMet.reads hL (.head _))
  have hC := clsR_of (Lib.laidMet.reads hL (.tail _ (.tail _ (.head _))))
  obtain ⟨fu1, hf1⟩ := h1
  obtain ⟨l1, u1, hu1, hl1, hz1, hn1⟩ := rules_open hf1 (fun n hn => of_decide_eq_true (List.all_eq_true.1 hwt n (DataW.weights_mem_each (j := 0) rfl rfl n hn)))
  have h1 : DataW.Trod enc Tryz.prog W 0 (fun _ => true) true 38 v1 d1 p1 := ⟨fu1, hf1⟩
  obtain rfl : v1 = u1 := slice_rules (hval 0 38 v1 (by rw [Tryz.params6]; rfl) rfl) hu1
  obtain ⟨fu2, hf2⟩ := h2
  obtain ⟨l2, u2, hu2, hl2, hz2, hn2⟩ := pcs_open hf2 (fun n hn => of_decide_eq_true (List.all_eq_true.1 hwt n (DataW.weights_mem_each (j := 1) rfl rfl n hn)))
  have h2 : DataW.Trod enc Tryz.prog W 0 (fun _ => true) true 22 v2 d2 p2 := ⟨fu2, hf2⟩
  obtain rfl : v2 = u2 := slice_of (hval 1 22 v2 (by rw [Tryz.params6]; rfl) rfl) hu2
  obtain ⟨rfl, rfl⟩ := trodVars_none hV
  have hc : Calls Tryz.prog 6 #[v1, v2] W fun e w' => e = .returned (.bool true) ∧ Below W.heap.size W w' := by
    exact fits_law l1 l2 v1 v2 W hl1 hl2 hz1 hn1 hz2 hn2 hT hC hR
  refine hc.mono fun e W' ⟨he, hb⟩ => ?_
  subst he
  exact ⟨_, rfl, [_, _], [], _, [], p1 ++ p2, [], hW', trodAll_mk1 (shut_bool Tryz.underlying4 true),
    by rw [Tryz.params6]; exact trodAll_mk2 (Below.trod laid_out (by kernel_rfl) (by decide +kernel) h1 hb fun x hx => hlt x (by simp [hx])) (Below.trod laid_out (by kernel_rfl) (by decide +kernel) h2 hb fun x hx => hlt x (by simp [hx])), rfl, hb.frame _, fun h => by cases h⟩
theorem docsFits_reads (os : Os) {H : Type} (enc : TypeId × Value → H) : ∃ places, DataW.whole enc Tryz.prog ((laidWorld os).forCall (fun _ _ => 0) ⟨#[], #[.slice none 0 0, .slice none 0 0], []⟩).memory Tryz.f6.params.toList Rows.docsFitsSpec.vars false (#[.slice none 0 0, .slice none 0 0] : Array Value).toList 8 = some ([.nil, .nil], [], places) :=
  ⟨[], by kernel_rfl⟩
theorem laid_docsFits (os : Os) : laidMet Tryz.prog Rows.docsFitsRow.laid ((laidWorld os).forCall (fun _ _ => 0) ⟨#[], #[.slice none 0 0, .slice none 0 0], []⟩).memory :=
  laidMet_of_run' 8 (by kernel_rfl) (by kernel_rfl)
theorem vars_docsFits (os : Os) : ((laidWorld os).forCall (fun _ _ => 0) ⟨#[], #[.slice none 0 0, .slice none 0 0], []⟩).variablesB Tryz.prog = true := by kernel_rfl
theorem rest_docsFits (os : Os) : ((((laidWorld os).forCall (fun _ _ => 0) ⟨#[], #[.slice none 0 0, .slice none 0 0], []⟩).heap.toList.drop Tryz.prog.globals.size).take ((begin Tryz.prog (fun _ _ => 0) default).world.heap.size - Tryz.prog.globals.size)) =
    (begin Tryz.prog (fun _ _ => 0) default).world.heap.toList.drop Tryz.prog.globals.size := by kernel_rfl
theorem docsFits_lifted (os : Os) (started : os.Started) (H : Type) (enc : TypeId × Value → H) (F : Stop.Interp) :
    ReturnsInHanded {} Tryz.checked os 6 .any ((OpenSpec.ofChange Rows.docsFitsSpec).preRow enc Tryz.prog Tryz.f6 Rows.docsFitsRow.domain false Rows.docsFitsRow.laid) (((OpenSpec.ofChange Rows.docsFitsSpec).at F).post enc Tryz.prog Tryz.f6 false true false false) := by
  obtain ⟨places, hx⟩ := docsFits_reads os enc
  refine returnsInHanded_of_row (C := Tryz.checked) (s := OpenSpec.ofChange Rows.docsFitsSpec) own started (by kernel_rfl) Tryz.func6
    (witness_row_at (enc := enc) (C := Tryz.checked) false (laidWorld os) #[.slice none 0 0, .slice none 0 0] rfl (vars_docsFits os) (rest_docsFits os) (by kernel_rfl)
      (OpenSpec.preRow_of_cond 8 hx (by kernel_rfl) (fun k hk => by cases hk) (by kernel_rfl) (laid_docsFits os))) ?_
  intro W base args ds gs before hval hW _ _ hwt hL hsh _
  exact docsFits_contract H enc W base args ds gs before hval hW hwt hL (blocks hsh)
theorem docsFits_said : Rows.DocsFitsSaid :=
  OpenClaim.holds_of_cond 6 Tryz.f6 rfl rfl rfl rfl rfl rfl rfl ⟨rfl, rfl, rfl, rfl, rfl⟩ rfl rfl rfl rfl rfl (by kernel_rfl) Tryz.func6 (by kernel_rfl)
    (of_decide_eq_true (by kernel_rfl)) (by unfold Func.isWrapper; first | (rw [if_pos (by decide +kernel)]; kernel_rfl) | (rw [if_neg (by decide +kernel)]; exact ⟨rfl, rfl⟩))
    (fun os started H enc _ F => by rw [OpenClaim.pre_eq_preRow]; exact docsFits_lifted os started H enc F)
/-- No parameter wants a stand-in; the program's own looks are off: what the card asks. -/
theorem docsFits_plain (f : FuncId) (fn : Func) (hf : Tryz.pinned.checked.prog.funcNamed "truchman/truchmanlaw01.DocsFits" = some f) (hfn : Tryz.pinned.checked.prog.funcs[f]? = some fn) :
    false = Tryz.pinned.checked.prog.looks [] ∧ ∀ (j : Nat) t, fn.params[j]? = some t → Tryz.pinned.checked.prog.wantsStandIn t = false := by
  obtain rfl : f = 6 := Option.some.inj ((show Tryz.prog.funcNamed "truchman/truchmanlaw01.DocsFits" = some 6 by kernel_rfl).symm.trans hf) |>.symm
  obtain rfl : fn = Tryz.f6 := (Option.some.inj (Tryz.func6.symm.trans hfn)).symm
  refine ⟨by kernel_rfl, fun j t ht => ?_⟩
  rw [Tryz.params6] at ht
  have ht' : t = 38 ∨ t = 22 := by
    match j, ht with
    | 0, ht => simp at ht; simp [← ht]
    | 1, ht => simp at ht; simp [← ht]
    | j + 2, ht => simp at ht
  rcases ht' with rfl | rfl
  · exact (show Tryz.prog.wantsStandIn 38 = false by kernel_rfl)
  · exact (show Tryz.prog.wantsStandIn 22 = false by kernel_rfl)
/-- THE CARD. -/
theorem docsFits_holds : Rows.DocsFitsCardSaid :=
  Claim7.holds_tied_plain_at .later [] _ _ _ _ docsFits_said (fun _ h => by cases h) (by kernel_rfl) (fun _ h => by cases h) docsFits_row_tie rfl ⟨rfl, rfl⟩ (by kernel_rfl) rfl docsFits_plain (by kernel_rfl)
#print axioms docsFits_holds
end Go.Proofs.YtnkpjkomokkhcaaGreatDoor
