/- ChecksUnits returns true for any two texts and any numbers, in every world that the row speaks of: the score of two texts by their units, and the draws of a seed, are what the specification tells; the layer's examples are a closed run. No condition but the row's own. -/
import Derived.Test.YthgllfbigcoaiaaGreatDoorUnB
import Derived.Test.YthgllfbigcoaiaaGreatDoorUnC
import Derived.Test.YthgllfbigcoaiaaGreatDoorCkF
import Derived.Test.YthgllfbigcoaiaaGreatDoorUnitsWitA
import Derived.Test.YthgllfbigcoaiaaGreatDoorUnitsWitB
namespace Go.Proofs.YthgllfbigcoaiaaGreatDoor
open Go Go.Eng Go.ChangeShapes Go.WideShapes Go.ChangeAt Go.ChangeMaps Go.RowKit Go.Lib
set_option maxRecDepth 100000
theorem checksUnits_contract (H : Type) (enc : TypeId × Value → H) (W : World) (base : Nat) (args : Array Value) (ds gs : List (DataW H)) (before : List MemPlace)
    (hval : ∀ (j : Nat) t v, Tryz.f7.params[j]? = some t → args[j]? = some v → Value.okWide Tryz.prog W .any base t v)
    (hW : DataW.Whole enc Tryz.prog Tryz.f7.params.toList Rows.checksUnitsSpec.vars false W args.toList ds gs before)
    (hwt : (DataW.weightsEach Tryz.prog (Tryz.f7.params.toList ++ (OpenSpec.ofChange Rows.checksUnitsSpec).bare.plain.varTypes Tryz.prog) (ds ++ gs)).all (· ≤ reachBytes) = true)
    (hL : laidMetH Tryz.prog Rows.checksUnitsRow.laid W) (hG : 10 ≤ W.heap.size) :
    Calls Tryz.prog 7 args W fun e W' => ∃ v, e = .returned v ∧ Rows.checksUnitsSpec.post enc Tryz.prog Tryz.f7 false true false false W args v W' := by
  have hW' := hW
  have hlt := hW.lt
  obtain ⟨p, q, hA0, hV, rfl, hfz, hnd⟩ := hW
  have hA : DataW.TrodAll enc Tryz.prog W 0 (fun _ => true) true Tryz.f7.params.toList args.toList ds p := hA0
  rw [Tryz.params7] at hA hwt
  obtain ⟨v1, v2, v3, v4, v5, v6, v7, d1, d2, d3, d4, d5, d6, d7, p1, p2, p3, p4, p5, p6, p7, rfl, rfl, rfl, h1, h2, h3, h4, h5, h6, h7⟩ := trodAll_seven hA
  have hR := tables hG (Lib.laidMet.reads hL (.tail _ (.tail _ (.tail _ (.tail _ (.tail _ (.tail _ (.head _)))))))) (Lib.laidMet.reads hL (.tail _ (.tail _ (.tail _ (.tail _ (.tail _ (.tail _ (.tail _ (.head _)))))))))
  have hT := text_tables hG (Lib.laidMet.reads hL (.tail _ (.tail _ (.tail _ (.tail _ (.tail _ (.tail _ (.tail _ (.head _))))))))) (Lib.laidMet.reads hL (.tail _ (.tail _ (.tail _ (.tail _ (.tail _ (.tail _ (.tail _ (.tail _ (.head _)))))))))) (Lib.laidMet.reads hL (.tail _ (.tail _ (.tail _ (.head _)))))
  obtain ⟨s1, hs1, hz1⟩ := str_open (hval 0 9 v1 (by rw [Tryz.params7]; rfl) rfl) h1 (fun n hn => of_decide_eq_true (List.all_eq_true.1 hwt n (DataW.weights_mem_each (j := 0) rfl rfl n hn)))
  obtain ⟨s2, hs2, hz2⟩ := str_open (hval 1 9 v2 (by rw [Tryz.params7]; rfl) rfl) h2 (fun n hn => of_decide_eq_true (List.all_eq_true.1 hwt n (DataW.weights_mem_each (j := 1) rfl rfl n hn)))
  obtain ⟨n3, hi3⟩ := int_of (hval 2 3 v3 (by rw [Tryz.params7]; rfl) rfl)
  obtain ⟨n4, hi4⟩ := int_of (hval 3 3 v4 (by rw [Tryz.params7]; rfl) rfl)
  obtain ⟨n5, hi5⟩ := u64_of (hval 4 41 v5 (by rw [Tryz.params7]; rfl) rfl)
  obtain ⟨n6, hi6⟩ := int_of (hval 5 3 v6 (by rw [Tryz.params7]; rfl) rfl)
  obtain ⟨n7, hi7⟩ := int_of (hval 6 3 v7 (by rw [Tryz.params7]; rfl) rfl)
  obtain ⟨rfl, rfl⟩ := trodVars_none hV
  have hc : Calls Tryz.prog 7 #[v1, v2, v3, v4, v5, v6, v7] W fun e w' => e = .returned (.bool true) ∧ Below W.heap.size W w' := by
    rw [hs1]
    rw [hs2]
    rw [hi3]
    rw [hi4]
    rw [hi5]
    rw [hi6]
    rw [hi7]
    exact units_law s1 s2 n3 n4 n5 n6 n7 W hz1 hz2 hT hR
  refine hc.mono fun e W' ⟨he, hb⟩ => ?_
  subst he
  exact ⟨_, rfl, [_, _, _, _, _, _, _], [], _, [], p1 ++ (p2 ++ (p3 ++ (p4 ++ (p5 ++ (p6 ++ p7))))), [], hW', trodAll_mk1 (shut_bool Tryz.underlying4 true),
    by rw [Tryz.params7]; exact trodAll_mk7 (Below.trod laid_out (by kernel_rfl) (by decide +kernel) h1 hb fun x hx => hlt x (by simp [hx])) (Below.trod laid_out (by kernel_rfl) (by decide +kernel) h2 hb fun x hx => hlt x (by simp [hx])) (Below.trod laid_out (by kernel_rfl) (by decide +kernel) h3 hb fun x hx => hlt x (by simp [hx])) (Below.trod laid_out (by kernel_rfl) (by decide +kernel) h4 hb fun x hx => hlt x (by simp [hx])) (Below.trod laid_out (by kernel_rfl) (by decide +kernel) h5 hb fun x hx => hlt x (by simp [hx])) (Below.trod laid_out (by kernel_rfl) (by decide +kernel) h6 hb fun x hx => hlt x (by simp [hx])) (Below.trod laid_out (by kernel_rfl) (by decide +kernel) h7 hb fun x hx => hlt x (by simp [hx])), rfl, hb.frame _, fun h => by cases h⟩
theorem checksUnits_lifted (os : Os) (started : os.Started) (H : Type) (enc : TypeId × Value → H) (F : Stop.Interp) :
    ReturnsInHanded {} Tryz.checked os 7 .any ((OpenSpec.ofChange Rows.checksUnitsSpec).preRow enc Tryz.prog Tryz.f7 Rows.checksUnitsRow.domain false Rows.checksUnitsRow.laid) (((OpenSpec.ofChange Rows.checksUnitsSpec).at F).post enc Tryz.prog Tryz.f7 false true false false) := by
  obtain ⟨places, hx⟩ := checksUnits_reads os enc
  refine returnsInHanded_of_row (C := Tryz.checked) (s := OpenSpec.ofChange Rows.checksUnitsSpec) own started (by kernel_rfl) Tryz.func7
    (witness_row_at (enc := enc) (C := Tryz.checked) false (laidWorld os) #[.string ⟨#[]⟩, .string ⟨#[]⟩, .int .i64 0, .int .i64 0, .int .u64 0, .int .i64 0, .int .i64 0] rfl (vars_checksUnits os) (rest_checksUnits os) (by kernel_rfl)
      (OpenSpec.preRow_of_cond 8 hx (by kernel_rfl) (fun k hk => by cases hk) (by kernel_rfl) (laid_checksUnits os))) ?_
  intro W base args ds gs before hval hW _ _ hwt hL hsh _
  exact checksUnits_contract H enc W base args ds gs before hval hW hwt hL (blocks hsh)
end Go.Proofs.YthgllfbigcoaiaaGreatDoor
