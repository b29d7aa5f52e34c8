/- DocsGlued returns true for any list of pieces, any places and any number, in every world that the row speaks of: the parts of a list are valid, have the units between the places, are glued to the list and have its text together, and it makes no difference in which order it is cut; the layer's examples are a closed run. No condition but the row's own. -/
import Derived.Test.YtnkpjkomokkhcaaGreatDoorCu15
import Derived.Test.YtnkpjkomokkhcaaGreatDoorGdA
namespace Go.Proofs.YtnkpjkomokkhcaaGreatDoor
open Go Go.Eng Go.ChangeShapes Go.WideShapes Go.ChangeAt Go.ChangeMaps Go.RowKit Go.Lib
set_option maxRecDepth 100000
theorem docsGlued_contract (H : Type) (enc : TypeId × Value → H) (W : World) (base : Nat) (args : Array Value) (ds gs : List (DataW H)) (before : List MemPlace)
    (hval : ∀ (j : Nat) t v, Tryz.f4.params[j]? = some t → args[j]? = some v → Value.okWide Tryz.prog W .any base t v)
    (hW : DataW.Whole enc Tryz.prog Tryz.f4.params.toList Rows.docsGluedSpec.vars false W args.toList ds gs before)
    (hwt : (DataW.weightsEach Tryz.prog (Tryz.f4.params.toList ++ (OpenSpec.ofChange Rows.docsGluedSpec).bare.plain.varTypes Tryz.prog) (ds ++ gs)).all (· ≤ reachBytes) = true)
    (hL : laidMetH Tryz.prog Rows.docsGluedRow.laid W) (h5 : 5 ≤ W.heap.size) :
    Calls Tryz.prog 4 args W fun e W' => ∃ v, e = .returned v ∧ Rows.docsGluedSpec.post enc Tryz.prog Tryz.f4 false true false false W args v W' := by
  have hW' := hW
  have hlt := hW.lt
  obtain ⟨p, q, hA0, hV, rfl, hfz, hnd⟩ := hW
  have hA : DataW.TrodAll enc Tryz.prog W 0 (fun _ => true) true Tryz.f4.params.toList args.toList ds p := hA0
  rw [Tryz.params4] at hA hwt
  obtain ⟨v1, v2, v3, d1, d2, d3, p1, p2, p3, rfl, rfl, rfl, h1, h2, h3⟩ := trodAll_three hA
  obtain ⟨hT, hN, hR⟩ := tables h5 (Lib.laidMet.reads hL (.tail _ (.head _))) (Lib.laidMet.reads hL (.tail _ (.tail _ (.head _)))) (Lib.laidMet.reads hL (.tail _ (.tail _ (.tail _ (.head _))))) (Lib.laidMet.reads hL (.head _))
  obtain ⟨fu1, hf1⟩ := h1
  obtain ⟨l1, u1, hu1, hl1, hz1, hn1⟩ := pcs_open hf1 (fun n hn => of_decide_eq_true (List.all_eq_true.1 hwt n (DataW.weights_mem_each (j := 0) rfl rfl n hn)))
  have h1 : DataW.Trod enc Tryz.prog W 0 (fun _ => true) true 22 v1 d1 p1 := ⟨fu1, hf1⟩
  obtain rfl : v1 = u1 := slice_of (hval 0 22 v1 (by rw [Tryz.params4]; rfl) rfl) hu1
  obtain ⟨fu2, hf2⟩ := h2
  obtain ⟨l2, u2, hu2, hl2⟩ := ints_open hf2
  have h2 : DataW.Trod enc Tryz.prog W 0 (fun _ => true) true 23 v2 d2 p2 := ⟨fu2, hf2⟩
  obtain rfl : v2 = u2 := slice_ints (hval 1 23 v2 (by rw [Tryz.params4]; rfl) rfl) hu2
  obtain ⟨k3, hk3⟩ := okWide_int Tryz.underlying3 (hval 2 3 v3 (by rw [Tryz.params4]; rfl) rfl)
  obtain ⟨rfl, rfl⟩ := trodVars_none hV
  have hc : Calls Tryz.prog 4 #[v1, v2, v3] W fun e w' => e = .returned (.bool true) ∧ Below W.heap.size W w' := by
    rw [hk3]
    exact glued_law l1 l2 k3 v1 v2 W hl1 hl2 hz1 hn1 hT hR
  refine hc.mono fun e W' ⟨he, hb⟩ => ?_
  subst he
  exact ⟨_, rfl, [_, _, _], [], _, [], p1 ++ (p2 ++ p3), [], hW', trodAll_mk1 (shut_bool Tryz.underlying4 true),
    by rw [Tryz.params4]; exact trodAll_mk3 (Below.trod laid_out (by kernel_rfl) (by decide +kernel) h1 hb fun x hx => hlt x (by simp [hx])) (Below.trod laid_out (by kernel_rfl) (by decide +kernel) h2 hb fun x hx => hlt x (by simp [hx])) (Below.trod laid_out (by kernel_rfl) (by decide +kernel) h3 hb fun x hx => hlt x (by simp [hx])), rfl, hb.frame _, fun h => by cases h⟩
theorem docsGlued_reads (os : Os) {H : Type} (enc : TypeId × Value → H) : ∃ places, DataW.whole enc Tryz.prog ((laidWorld os).forCall (fun _ _ => 0) ⟨#[], #[.slice none 0 0, .slice none 0 0, .int .i64 0], []⟩).memory Tryz.f4.params.toList Rows.docsGluedSpec.vars false (#[.slice none 0 0, .slice none 0 0, .int .i64 0] : Array Value).toList 8 = some ([.nil, .nil, .lit (.int .i64 0)], [], places) :=
  ⟨[], by kernel_rfl⟩
theorem laid_docsGlued (os : Os) : laidMet Tryz.prog Rows.docsGluedRow.laid ((laidWorld os).forCall (fun _ _ => 0) ⟨#[], #[.slice none 0 0, .slice none 0 0, .int .i64 0], []⟩).memory :=
  laidMet_of_run' 8 (by kernel_rfl) (by kernel_rfl)
theorem vars_docsGlued (os : Os) : ((laidWorld os).forCall (fun _ _ => 0) ⟨#[], #[.slice none 0 0, .slice none 0 0, .int .i64 0], []⟩).variablesB Tryz.prog = true := by kernel_rfl
theorem rest_docsGlued (os : Os) : ((((laidWorld os).forCall (fun _ _ => 0) ⟨#[], #[.slice none 0 0, .slice none 0 0, .int .i64 0], []⟩).heap.toList.drop Tryz.prog.globals.size).take ((begin Tryz.prog (fun _ _ => 0) default).world.heap.size - Tryz.prog.globals.size)) =
    (begin Tryz.prog (fun _ _ => 0) default).world.heap.toList.drop Tryz.prog.globals.size := by kernel_rfl
theorem docsGlued_lifted (os : Os) (started : os.Started) (H : Type) (enc : TypeId × Value → H) (F : Stop.Interp) :
    ReturnsInHanded {} Tryz.checked os 4 .any ((OpenSpec.ofChange Rows.docsGluedSpec).preRow enc Tryz.prog Tryz.f4 Rows.docsGluedRow.domain false Rows.docsGluedRow.laid) (((OpenSpec.ofChange Rows.docsGluedSpec).at F).post enc Tryz.prog Tryz.f4 false true false false) := by
  obtain ⟨places, hx⟩ := docsGlued_reads os enc
  refine returnsInHanded_of_row (C := Tryz.checked) (s := OpenSpec.ofChange Rows.docsGluedSpec) own started (by kernel_rfl) Tryz.func4
    (witness_row_at (enc := enc) (C := Tryz.checked) false (laidWorld os) #[.slice none 0 0, .slice none 0 0, .int .i64 0] rfl (vars_docsGlued os) (rest_docsGlued os) (by kernel_rfl)
      (OpenSpec.preRow_of_cond 8 hx (by kernel_rfl) (fun k hk => by cases hk) (by kernel_rfl) (laid_docsGlued os))) ?_
  intro W base args ds gs before hval hW _ _ hwt hL hsh _
  exact docsGlued_contract H enc W base args ds gs before hval hW hwt hL (blocks hsh)
theorem docsGlued_said : Rows.DocsGluedSaid :=
  OpenClaim.holds_of_cond 4 Tryz.f4 rfl rfl rfl rfl rfl rfl rfl ⟨rfl, rfl, rfl, rfl, rfl⟩ rfl rfl rfl rfl rfl (by kernel_rfl) Tryz.func4 (by kernel_rfl)
    (of_decide_eq_true (by kernel_rfl)) (by unfold Func.isWrapper; first | (rw [if_pos (by decide +kernel)]; kernel_rfl) | (rw [if_neg (by decide +kernel)]; exact ⟨rfl, rfl⟩))
    (fun os started H enc _ F => by rw [OpenClaim.pre_eq_preRow]; exact docsGlued_lifted os started H enc F)
/-- No parameter wants a stand-in; the program's own looks are off: what the card asks. -/
theorem docsGlued_plain (f : FuncId) (fn : Func) (hf : Tryz.pinned.checked.prog.funcNamed "truchman/truchmanlaw01.DocsGlued" = some f) (hfn : Tryz.pinned.checked.prog.funcs[f]? = some fn) :
    false = Tryz.pinned.checked.prog.looks [] ∧ ∀ (j : Nat) t, fn.params[j]? = some t → Tryz.pinned.checked.prog.wantsStandIn t = false := by
  obtain rfl : f = 4 := Option.some.inj ((show Tryz.prog.funcNamed "truchman/truchmanlaw01.DocsGlued" = some 4 by kernel_rfl).symm.trans hf) |>.symm
  obtain rfl : fn = Tryz.f4 := (Option.some.inj (Tryz.func4.symm.trans hfn)).symm
  refine ⟨by kernel_rfl, fun j t ht => ?_⟩
  rw [Tryz.params4] at ht
  have ht' : t = 22 ∨ t = 23 ∨ t = 3 := by
    match j, ht with
    | 0, ht => simp at ht; simp [← ht]
    | 1, ht => simp at ht; simp [← ht]
    | 2, ht => simp at ht; simp [← ht]
    | j + 3, ht => simp at ht
  rcases ht' with rfl | rfl | rfl
  · exact (show Tryz.prog.wantsStandIn 22 = false by kernel_rfl)
  · exact (show Tryz.prog.wantsStandIn 23 = false by kernel_rfl)
  · exact (show Tryz.prog.wantsStandIn 3 = false by kernel_rfl)
/-- THE CARD. -/
theorem docsGlued_holds : Rows.DocsGluedCardSaid :=
  Claim7.holds_tied_plain_at .later [] _ _ _ _ docsGlued_said (fun _ h => by cases h) (by kernel_rfl) (fun _ h => by cases h) docsGlued_row_tie rfl ⟨rfl, rfl⟩ (by kernel_rfl) rfl docsGlued_plain (by kernel_rfl)
#print axioms docsGlued_holds
end Go.Proofs.YtnkpjkomokkhcaaGreatDoor
