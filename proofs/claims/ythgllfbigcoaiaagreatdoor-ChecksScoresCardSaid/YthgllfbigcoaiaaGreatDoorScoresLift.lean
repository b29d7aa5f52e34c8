/- ChecksScores returns true for any two lists of lists of words and any number, in every world that the row speaks of: the precision of grams and the rate of steps are what the specification tells; the layer's examples are a closed run. No condition but the row's own. -/
import Derived.Test.YthgllfbigcoaiaaGreatDoorCkN
import Derived.Test.YthgllfbigcoaiaaGreatDoorCk35
import Derived.Test.YthgllfbigcoaiaaGreatDoorCkF
import Derived.Test.YthgllfbigcoaiaaGreatDoorScoresWitA
import Derived.Test.YthgllfbigcoaiaaGreatDoorScoresWitB
namespace Go.Proofs.YthgllfbigcoaiaaGreatDoor
open Go Go.Eng Go.ChangeShapes Go.WideShapes Go.ChangeAt Go.ChangeMaps Go.RowKit Go.Lib
set_option maxRecDepth 100000
theorem checksScores_contract (H : Type) (enc : TypeId × Value → H) (W : World) (base : Nat) (args : Array Value) (ds gs : List (DataW H)) (before : List MemPlace)
    (hval : ∀ (j : Nat) t v, Tryz.f4.params[j]? = some t → args[j]? = some v → Value.okWide Tryz.prog W .any base t v)
    (hW : DataW.Whole enc Tryz.prog Tryz.f4.params.toList Rows.checksScoresSpec.vars false W args.toList ds gs before)
    (hwt : (DataW.weightsEach Tryz.prog (Tryz.f4.params.toList ++ (OpenSpec.ofChange Rows.checksScoresSpec).bare.plain.varTypes Tryz.prog) (ds ++ gs)).all (· ≤ reachBytes) = true)
    (hL : laidMetH Tryz.prog Rows.checksScoresRow.laid W) (h5 : 10 ≤ W.heap.size) :
    Calls Tryz.prog 4 args W fun e W' => ∃ v, e = .returned v ∧ Rows.checksScoresSpec.post enc Tryz.prog Tryz.f4 false true false false W args v W' := by
  have hW' := hW
  have hlt := hW.lt
  obtain ⟨p, q, hA0, hV, rfl, hfz, hnd⟩ := hW
  have hA : DataW.TrodAll enc Tryz.prog W 0 (fun _ => true) true Tryz.f4.params.toList args.toList ds p := hA0
  rw [Tryz.params4] at hA hwt
  obtain ⟨v1, v2, v3, d1, d2, d3, p1, p2, p3, rfl, rfl, rfl, h1, h2, h3⟩ := trodAll_three hA
  have hR := tables h5 (Lib.laidMet.reads hL (.tail _ (.tail _ (.tail _ (.tail _ (.tail _ (.tail _ (.head _)))))))) (Lib.laidMet.reads hL (.tail _ (.tail _ (.tail _ (.tail _ (.tail _ (.tail _ (.tail _ (.head _)))))))))
  obtain ⟨fu1, hf1⟩ := h1
  obtain ⟨l1, u1, hu1, hl1⟩ := lists_open hf1 (fun n hn => of_decide_eq_true (List.all_eq_true.1 hwt n (DataW.weights_mem_each (j := 0) rfl rfl n hn)))
  have h1 : DataW.Trod enc Tryz.prog W 0 (fun _ => true) true 33 v1 d1 p1 := ⟨fu1, hf1⟩
  obtain rfl : v1 = u1 := slice_of3 (hval 0 33 v1 (by rw [Tryz.params4]; rfl) rfl) hu1
  obtain ⟨fu2, hf2⟩ := h2
  obtain ⟨l2, u2, hu2, hl2⟩ := lists_open hf2 (fun n hn => of_decide_eq_true (List.all_eq_true.1 hwt n (DataW.weights_mem_each (j := 1) rfl rfl n hn)))
  have h2 : DataW.Trod enc Tryz.prog W 0 (fun _ => true) true 33 v2 d2 p2 := ⟨fu2, hf2⟩
  obtain rfl : v2 = u2 := slice_of3 (hval 1 33 v2 (by rw [Tryz.params4]; rfl) rfl) hu2
  obtain ⟨n3, hi3⟩ := int_of (hval 2 3 v3 (by rw [Tryz.params4]; rfl) rfl)
  obtain ⟨rfl, rfl⟩ := trodVars_none hV
  have hc : Calls Tryz.prog 4 #[v1, v2, v3] W fun e w' => e = .returned (.bool true) ∧ Below W.heap.size W w' := by
    rw [hi3]
    exact scores_law l1 l2 v1 v2 n3 W hl1 hl2 hR
  refine hc.mono fun e W' ⟨he, hb⟩ => ?_
  subst he
  exact ⟨_, rfl, [_, _, _], [], _, [], p1 ++ (p2 ++ p3), [], hW', trodAll_mk1 (shut_bool Tryz.underlying4 true),
    by rw [Tryz.params4]; exact trodAll_mk3 (Below.trod laid_out (by kernel_rfl) (by decide +kernel) h1 hb fun x hx => hlt x (by simp [hx])) (Below.trod laid_out (by kernel_rfl) (by decide +kernel) h2 hb fun x hx => hlt x (by simp [hx])) (Below.trod laid_out (by kernel_rfl) (by decide +kernel) h3 hb fun x hx => hlt x (by simp [hx])), rfl, hb.frame _, fun h => by cases h⟩
theorem checksScores_lifted (os : Os) (started : os.Started) (H : Type) (enc : TypeId × Value → H) (F : Stop.Interp) :
    ReturnsInHanded {} Tryz.checked os 4 .any ((OpenSpec.ofChange Rows.checksScoresSpec).preRow enc Tryz.prog Tryz.f4 Rows.checksScoresRow.domain false Rows.checksScoresRow.laid) (((OpenSpec.ofChange Rows.checksScoresSpec).at F).post enc Tryz.prog Tryz.f4 false true false false) := by
  obtain ⟨places, hx⟩ := checksScores_reads os enc
  refine returnsInHanded_of_row (C := Tryz.checked) (s := OpenSpec.ofChange Rows.checksScoresSpec) own started (by kernel_rfl) Tryz.func4
    (witness_row_at (enc := enc) (C := Tryz.checked) false (laidWorld os) #[.slice none 0 0, .slice none 0 0, .int .i64 0] rfl (vars_checksScores os) (rest_checksScores os) (by kernel_rfl)
      (OpenSpec.preRow_of_cond 8 hx (by kernel_rfl) (fun k hk => by cases hk) (by kernel_rfl) (laid_checksScores os))) ?_
  intro W base args ds gs before hval hW _ _ hwt hL hsh _
  exact checksScores_contract H enc W base args ds gs before hval hW hwt hL (blocks hsh)
end Go.Proofs.YthgllfbigcoaiaaGreatDoor
