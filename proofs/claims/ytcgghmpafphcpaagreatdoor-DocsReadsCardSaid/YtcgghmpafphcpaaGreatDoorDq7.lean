/- DocsPieces returns true for any list of pieces, in every world that the row speaks of: which lists are valid, how they are written, and their texts, are what the specification tells; the layer's examples are a closed run. No condition but the row's own. -/
import Derived.Test.YtcgghmpafphcpaaGreatDoorDq6
import Derived.Test.YtcgghmpafphcpaaGreatDoorCards
import Derived.Test.YtcgghmpafphcpaaGreatDoorTie
import Derived.Lib.LaidIn
import Derived.ProofKit
import Derived.OpenShut
import Derived.Carry
import Derived.Deep.DeepHandedRow
import Derived.Lib.LaidTab
namespace Go.Proofs.YtcgghmpafphcpaaGreatDoor
open Go Go.Eng Go.ChangeShapes Go.WideShapes Go.ChangeAt Go.ChangeMaps Go.RowKit Go.Lib
set_option maxRecDepth 100000
theorem own : ownKnob Tryz.prog.godebug = none := by kernel_rfl
def layAt (h : Array Obj) (g : Nat) (vs : Array Value) : Array Obj := h.modify g fun
  | .cells _ t frozen => .cells vs t frozen
  | o => o
noncomputable def laidHeap (h : Array Obj) : Array Obj :=
  layAt (layAt (layAt (layAt h 0 ntA) 1 (clZ.map fun z => Value.int .u8 z).toArray) 2 (firstTab.map fun z => Value.int .u8 z).toArray) 3 ((List.range 16).flatMap fun i => [Value.int .u8 (accLo i), Value.int .u8 (accHi i)]).toArray
/-- The settled world, the listed variables laid. -/
noncomputable def laidWorld (os : Os) : World :=
  { World.holding Tryz.prog os ⟨#[], #[], []⟩ with heap := laidHeap (World.holding Tryz.prog os ⟨#[], #[], []⟩).heap }
theorem globals5 : Tryz.prog.globals.size = 5 := by kernel_rfl
theorem begunmore : decide (5 < (begin Tryz.prog (fun _ _ => 0) default).world.heap.size) = true := by kernel_rfl
/-- There are as many blocks as package-level variables, at least. -/
theorem blocks {W : World} (hs : W.ShapedOpen Tryz.prog) : 5 ≤ W.heap.size := by
  obtain ⟨o, _, ho, _⟩ := hs.2 5 (by rw [globals5]; exact Nat.le_refl _) (of_decide_eq_true begunmore)
  have := (Array.getElem?_eq_some_iff.1 ho).1
  omega
theorem laid_out : laidOutB Tryz.prog = true := by kernel_rfl
/-- the table of notations, in block 0 -/
theorem nts_heap {w : World} (h : VarReads Tryz.prog w "truchman/docs.notations" (Rows.laid_truchman_docs_notations : DataW Unit)) : ∃ cs t fr, w.heap[0]? = some (.cells cs t fr) ∧ cs = ntA := by
  obtain ⟨g, t, cs, fuel, p, hg, hty, hvar, hd⟩ := h
  obtain rfl := Option.some.inj ((show Tryz.prog.globalNamed "truchman/docs.notations" = some 0 by kernel_rfl).symm.trans hg)
  obtain rfl := Option.some.inj ((show (Tryz.prog.globals[0]?).map (·.type) = some 163 by kernel_rfl).symm.trans hty)
  obtain ⟨t, fr, e⟩ := heap_of_var hg hvar
  refine ⟨cs, t, fr, e, ?_⟩
  have el := fun i hi => array_elem Tryz.underlying163 hd i hi
  have c4 : Tryz.prog.cellsOf 162 = 4 := by kernel_rfl
  have hl : cs.toList.length = 24 := by
    cases fuel with
    | zero => simp [DataW.trod] at hd
    | succ fuel =>
      simp only [DataW.trod, Tryz.underlying163] at hd
      split at hd
      · rename_i hl
        rw [hl]; kernel_rfl
      · cases hd
  rw [c4] at el
  obtain ⟨_, d0, _, q0, e0⟩ := el 0 (by omega)
  obtain ⟨_, d1, _, q1, e1⟩ := el 1 (by omega)
  obtain ⟨_, d2, _, q2, e2⟩ := el 2 (by omega)
  obtain ⟨_, d3, _, q3, e3⟩ := el 3 (by omega)
  obtain ⟨_, d4, _, q4, e4⟩ := el 4 (by omega)
  obtain ⟨_, d5, _, q5, e5⟩ := el 5 (by omega)
  cases q0; cases q1; cases q2; cases q3; cases q4; cases q5
  have r0 := nt_open e0
  have r1 := nt_open e1
  have r2 := nt_open e2
  have r3 := nt_open e3
  have r4 := nt_open e4
  have r5 := nt_open e5
  apply Array.ext'
  generalize cs.toList = L at hl r0 r1 r2 r3 r4 r5
  have key : ∀ (L : List Value), L.length = 24 → L = (L.drop (0 * 4)).take 4 ++ ((L.drop (1 * 4)).take 4 ++ ((L.drop (2 * 4)).take 4 ++ ((L.drop (3 * 4)).take 4 ++ ((L.drop (4 * 4)).take 4 ++ (L.drop (5 * 4)).take 4)))) := by
    intro L hL
    match L, hL with
    | [a0, a1, a2, a3, a4, a5, a6, a7, a8, a9, b0, b1, b2, b3, b4, b5, b6, b7, b8, b9, c0, c1, c2, c3], _ => rfl
  rw [key L hl, r0, r1, r2, r3, r4, r5]
  rfl
theorem utf8_of {w : World} (h1 : VarReads Tryz.prog w "unicode/utf8.first" (Rows.laid_unicode_utf8_first : DataW Unit)) (h2 : VarReads Tryz.prog w "unicode/utf8.acceptRanges" (Rows.laid_unicode_utf8_acceptRanges : DataW Unit)) : Lib.Utf8Tabs (laysValid_ren.g 3) (laysValid_ren.g 4) w := by
  rw [first_data] at h1
  rw [acc_data] at h2
  exact utf8Tabs_of_readsT (U8Types.of196 laysValid) ⟨by kernel_rfl, by kernel_rfl, by kernel_rfl, by kernel_rfl, by kernel_rfl, by kernel_rfl, by kernel_rfl⟩ h1 h2
/-- what the listed tables give: the program's tables, and the closed run of the examples, in any world behind -/
theorem tables {W : World} (h5 : 5 ≤ W.heap.size) (hn : VarReads Tryz.prog W "truchman/docs.notations" (Rows.laid_truchman_docs_notations : DataW Unit)) (hc : VarReads Tryz.prog W "truchman/docs.classes" (Rows.laid_truchman_docs_classes : DataW Unit))
    (h1 : VarReads Tryz.prog W "unicode/utf8.first" (Rows.laid_unicode_utf8_first : DataW Unit)) (h2 : VarReads Tryz.prog W "unicode/utf8.acceptRanges" (Rows.laid_unicode_utf8_acceptRanges : DataW Unit)) :
    Tabs W ∧ Nts W ∧ ∀ w', Below W.heap.size W w' → Calls Tryz.prog 7 #[] w' fun e w'' => e = .returned (.bool true) ∧ Below w'.heap.size w' w'' := by
  obtain ⟨c0, t0, f0, e0, rfl⟩ := nts_heap hn
  obtain ⟨c1, t1, f1, e1, r1⟩ := cls_heap hc
  refine ⟨⟨cls_of e1 r1, utf8_of h1 h2, h5⟩, ⟨h5, t0, f0, e0⟩, fun w' hb => ?_⟩
  exact reads_calls w' (Nat.le_trans h5 hb.size) (by rw [hb.block 0 (by omega)]; exact e0) (by rw [hb.block 1 (by omega)]; exact e1) ntA_cells r1
theorem slice_of {W : World} {base : Nat} {v u : Value} (hv : Value.okWide Tryz.prog W .any base 22 v) (h : v.cells.toList = [u]) : v = u := by
  obtain ⟨a0, len0, cap0, rfl⟩ := okWide_slice Tryz.underlying22 hv
  simpa [Value.cells] using h
theorem str_open {H : Type} {enc : TypeId × Value → H} {W : World} {base : Nat} {v : Value} {d : DataW H} {p : List MemPlace} (hv : Value.okWide Tryz.prog W .any base 9 v) (h : DataW.Trod enc Tryz.prog W 0 (fun _ => true) true 9 v d p)
    (hw : ∀ n ∈ d.weights Tryz.prog 9, n ≤ reachBytes) : ∃ s : ByteArray, v = .string s ∧ s.size ≤ 140737488355328 := by
  obtain ⟨s, rfl, rfl, _, _⟩ := open_string Tryz.underlying9 hv h
  have hr : reachBytes ≤ 140737488355328 := by decide
  have := hw s.data.toList.length (by simp [DataW.weights])
  rw [bytes_len] at this
  exact ⟨s, rfl, by omega⟩
end Go.Proofs.YtcgghmpafphcpaaGreatDoor
