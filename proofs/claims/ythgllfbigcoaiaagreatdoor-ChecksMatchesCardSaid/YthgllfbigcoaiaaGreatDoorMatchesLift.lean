/- ChecksMatches returns true for any two lists of words and any number, in every world that the row speaks of: the matches of grams and the steps that make one list of the other are what the specification tells; the layer's examples are a closed run. No condition but the row's own. -/
import Derived.Test.YthgllfbigcoaiaaGreatDoorCkM
import Derived.Test.YthgllfbigcoaiaaGreatDoorCk8
import Derived.Test.YthgllfbigcoaiaaGreatDoorCkF
import Derived.Test.YthgllfbigcoaiaaGreatDoorMatchesWitA
import Derived.Test.YthgllfbigcoaiaaGreatDoorMatchesWitB
namespace Go.Proofs.YthgllfbigcoaiaaGreatDoor
open Go Go.Eng Go.ChangeShapes Go.WideShapes Go.ChangeAt Go.ChangeMaps Go.RowKit Go.Lib
set_option maxRecDepth 100000
theorem checksMatches_contract (H : Type) (enc : TypeId × Value → H) (W : World) (base : Nat) (args : Array Value) (ds gs : List (DataW H)) (before : List MemPlace)
    (hval : ∀ (j : Nat) t v, Tryz.f3.params[j]? = some t → args[j]? = some v → Value.okWide Tryz.prog W .any base t v)
    (hW : DataW.Whole enc Tryz.prog Tryz.f3.params.toList Rows.checksMatchesSpec.vars false W args.toList ds gs before)
    (hwt : (DataW.weightsEach Tryz.prog (Tryz.f3.params.toList ++ (OpenSpec.ofChange Rows.checksMatchesSpec).bare.plain.varTypes Tryz.prog) (ds ++ gs)).all (· ≤ reachBytes) = true)
    (hL : laidMetH Tryz.prog Rows.checksMatchesRow.laid W) (h5 : 10 ≤ W.heap.size) :
    Calls Tryz.prog 3 args W fun e W' => ∃ v, e = .returned v ∧ Rows.checksMatchesSpec.post enc Tryz.prog Tryz.f3 false true false false W args v W' := by
  have hW' := hW
  have hlt := hW.lt
  obtain ⟨p, q, hA0, hV, rfl, hfz, hnd⟩ := hW
  have hA : DataW.TrodAll enc Tryz.prog W 0 (fun _ => true) true Tryz.f3.params.toList args.toList ds p := hA0
  rw [Tryz.params3] at hA hwt
  obtain ⟨v1, v2, v3, d1, d2, d3, p1, p2, p3, rfl, rfl, rfl, h1, h2, h3⟩ := trodAll_three hA
  have hR := tables h5 (Lib.laidMet.reads hL (.tail _ (.tail _ (.tail _ (.tail _ (.tail _ (.tail _ (.head _)))))))) (Lib.laidMet.reads hL (.tail _ (.tail _ (.tail _ (.tail _ (.tail _ (.tail _ (.tail _ (.head _)))))))))
  obtain ⟨fu1, hf1⟩ := h1
  obtain ⟨l1, u1, hu1, hl1⟩ := wds_open hf1 (fun n hn => of_decide_eq_true (List.all_eq_true.1 hwt n (DataW.weights_mem_each (j := 0) rfl rfl n hn)))
  have h1 : DataW.Trod enc Tryz.prog W 0 (fun _ => true) true 22 v1 d1 p1 := ⟨fu1, hf1⟩
  obtain rfl : v1 = u1 := slice_of2 (hval 0 22 v1 (by rw [Tryz.params3]; rfl) rfl) hu1
  obtain ⟨fu2, hf2⟩ := h2
  obtain ⟨l2, u2, hu2, hl2⟩ := wds_open hf2 (fun n hn => of_decide_eq_true (List.all_eq_true.1 hwt n (DataW.weights_mem_each (j := 1) rfl rfl n hn)))
  have h2 : DataW.Trod enc Tryz.prog W 0 (fun _ => true) true 22 v2 d2 p2 := ⟨fu2, hf2⟩
  obtain rfl : v2 = u2 := slice_of2 (hval 1 22 v2 (by rw [Tryz.params3]; rfl) rfl) hu2
  obtain ⟨n3, hi3⟩ := int_of (hval 2 3 v3 (by rw [Tryz.params3]; rfl) rfl)
  obtain ⟨rfl, rfl⟩ := trodVars_none hV
  have hc : Calls Tryz.prog 3 #[v1, v2, v3] W fun e w' => e = .returned (.bool true) ∧ Below W.heap.size W w' := by
    rw [hi3]
    exact matches_law l1 l2 v1 v2 n3 W hl1 hl2 hR
  refine hc.mono fun e W' ⟨he, hb⟩ => ?_
  subst he
  exact ⟨_, rfl, [_, _, _], [], _, [], p1 ++ (p2 ++ p3), [], hW', trodAll_mk1 (shut_bool Tryz.underlying4 true),
    by rw [Tryz.params3]; exact trodAll_mk3 (Below.trod laid_out (by kernel_rfl) (by decide +kernel) h1 hb fun x hx => hlt x (by simp [hx])) (Below.trod laid_out (by kernel_rfl) (by decide +kernel) h2 hb fun x hx => hlt x (by simp [hx])) (Below.trod laid_out (by kernel_rfl) (by decide +kernel) h3 hb fun x hx => hlt x (by simp [hx])), rfl, hb.frame _, fun h => by cases h⟩
theorem checksMatches_lifted (os : Os) (started : os.Started) (H : Type) (enc : TypeId × Value → H) (F : Stop.Interp) :
    ReturnsInHanded {} Tryz.checked os 3 .any ((OpenSpec.ofChange Rows.checksMatchesSpec).preRow enc Tryz.prog Tryz.f3 Rows.checksMatchesRow.domain false Rows.checksMatchesRow.laid) (((OpenSpec.ofChange Rows.checksMatchesSpec).at F).post enc Tryz.prog Tryz.f3 false true false false) := by
  obtain ⟨places, hx⟩ := checksMatches_reads os enc
  refine returnsInHanded_of_row (C := Tryz.checked) (s := OpenSpec.ofChange Rows.checksMatchesSpec) own started (by kernel_rfl) Tryz.func3
    (witness_row_at (enc := enc) (C := Tryz.checked) false (laidWorld os) #[.slice none 0 0, .slice none 0 0, .int .i64 0] rfl (vars_checksMatches os) (rest_checksMatches os) (by kernel_rfl)
      (OpenSpec.preRow_of_cond 8 hx (by kernel_rfl) (fun k hk => by cases hk) (by kernel_rfl) (laid_checksMatches os))) ?_
  intro W base args ds gs before hval hW _ _ hwt hL hsh _
  exact checksMatches_contract H enc W base args ds gs before hval hW hwt hL (blocks hsh)
end Go.Proofs.YthgllfbigcoaiaaGreatDoor
