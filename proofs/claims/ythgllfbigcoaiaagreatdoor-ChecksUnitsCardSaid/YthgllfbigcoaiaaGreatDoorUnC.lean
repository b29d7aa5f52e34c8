/- A text as an argument, opened. What the listed tables give: text is told from what is no text; the closed run of the examples. Seven arguments, opened and put together again; a number without a sign. -/
import Derived.Test.YthgllfbigcoaiaaGreatDoorCk8
import Derived.Test.YthgllfbigcoaiaaGreatDoorDtB
import Derived.Lib.LaidU8T
namespace Go.Proofs.YthgllfbigcoaiaaGreatDoor
open Go Go.Eng Go.ChangeShapes Go.WideShapes Go.ChangeAt Go.ChangeMaps Go.RowKit Go.Lib
set_option maxRecDepth 100000
theorem str_open {H : Type} {enc : TypeId × Value → H} {W : World} {base : Nat} {v : Value} {d : DataW H} {p : List MemPlace} (hv : Value.okWide Tryz.prog W .any base 9 v) (h : DataW.Trod enc Tryz.prog W 0 (fun _ => true) true 9 v d p)
    (hw : ∀ n ∈ d.weights Tryz.prog 9, n ≤ reachBytes) : ∃ s : ByteArray, v = .string s ∧ s.size ≤ 140737488355328 := by
  obtain ⟨s, rfl, rfl, _, _⟩ := open_string Tryz.underlying9 hv h
  have hr : reachBytes ≤ 140737488355328 := by decide
  have := hw s.data.toList.length (by simp [DataW.weights])
  rw [bytes_len] at this
  exact ⟨s, rfl, by omega⟩
end Go.Proofs.YthgllfbigcoaiaaGreatDoor
namespace Go.Proofs.YthgllfbigcoaiaaGreatDoor
open Go Go.Eng Go.ChangeShapes Go.WideShapes Go.ChangeAt Go.ChangeMaps Go.RowKit Go.Lib
set_option maxRecDepth 100000
theorem first_data : (Rows.laid_unicode_utf8_first : DataW Unit) = firstData := by kernel_rfl
theorem acc_data : (Rows.laid_unicode_utf8_acceptRanges : DataW Unit) = acceptData := by kernel_rfl
theorem clZ_ctl : ∀ c, c < 128 → (clZ.getD c 0 = 0 ↔ D.ctl c = true) := by decide +kernel
theorem cls_of {w : World} {cs : Array Value} {t : TypeId} {fr : Nat × Nat} (h : w.heap[1]? = some (.cells cs t fr)) (e : cs.toList = clL) : D.Cls w := by
  intro c hc
  have hl : c < clZ.length := hc
  refine ⟨clZ.getD c 0, ?_, clZ_ctl c hc⟩
  rw [Lib.cell_of_heap h c, ← Array.getElem?_toList, e, ← clZ_cells, List.getElem?_map, List.getD_eq_getElem?_getD, List.getElem?_eq_getElem hl]
  rfl
theorem utf8_of {w : World} (h1 : VarReads Tryz.prog w "unicode/utf8.first" (Rows.laid_unicode_utf8_first : DataW Unit)) (h2 : VarReads Tryz.prog w "unicode/utf8.acceptRanges" (Rows.laid_unicode_utf8_acceptRanges : DataW Unit)) : Lib.Utf8Tabs (laysValid_ren.g 3) (laysValid_ren.g 4) w := by
  rw [first_data] at h1
  rw [acc_data] at h2
  exact utf8Tabs_of_readsT (U8Types.of196 laysValid) ⟨by kernel_rfl, by kernel_rfl, by kernel_rfl, by kernel_rfl, by kernel_rfl, by kernel_rfl, by kernel_rfl⟩ h1 h2
theorem text_tables {W : World} (h5 : 10 ≤ W.heap.size) (hc : VarReads Tryz.prog W "truchman/docs.classes" (Rows.laid_truchman_docs_classes : DataW Unit))
    (h1 : VarReads Tryz.prog W "unicode/utf8.first" (Rows.laid_unicode_utf8_first : DataW Unit)) (h2 : VarReads Tryz.prog W "unicode/utf8.acceptRanges" (Rows.laid_unicode_utf8_acceptRanges : DataW Unit)) : D.Tabs W := by
  obtain ⟨c1, t1, f1, e1, r1⟩ := cls_heap hc
  exact ⟨cls_of e1 r1, utf8_of h1 h2, h5⟩
end Go.Proofs.YthgllfbigcoaiaaGreatDoor
namespace Go.Proofs.YthgllfbigcoaiaaGreatDoor
open Go Go.Eng Go.ChangeShapes Go.WideShapes Go.ChangeAt Go.ChangeMaps Go.RowKit Go.Lib
set_option maxRecDepth 100000
theorem u64_of {W : World} {base : Nat} {v : Value} (hv : Value.okWide Tryz.prog W .any base 41 v) : ∃ n : Int, v = .int .u64 n := by
  exact okWide_int Tryz.underlying41 hv
section
variable {H : Type} {enc : TypeId × Value → H} {P : Program} {w : World} {base : Nat} {spare : Nat → Bool} {held : Bool}
theorem trodAll_seven {t1 t2 t3 t4 t5 t6 t7 : TypeId} {args : Array Value} {ds : List (DataW H)} {ps : List MemPlace} (h : DataW.TrodAll enc P w base spare held [t1, t2, t3, t4, t5, t6, t7] args.toList ds ps) :
    ∃ v1 v2 v3 v4 v5 v6 v7 d1 d2 d3 d4 d5 d6 d7 p1 p2 p3 p4 p5 p6 p7, args = #[v1, v2, v3, v4, v5, v6, v7] ∧ ds = [d1, d2, d3, d4, d5, d6, d7] ∧ ps = p1 ++ (p2 ++ (p3 ++ (p4 ++ (p5 ++ (p6 ++ p7))))) ∧
      DataW.Trod enc P w base spare held t1 v1 d1 p1 ∧ DataW.Trod enc P w base spare held t2 v2 d2 p2 ∧ DataW.Trod enc P w base spare held t3 v3 d3 p3 ∧ DataW.Trod enc P w base spare held t4 v4 d4 p4 ∧
      DataW.Trod enc P w base spare held t5 v5 d5 p5 ∧ DataW.Trod enc P w base spare held t6 v6 d6 p6 ∧ DataW.Trod enc P w base spare held t7 v7 d7 p7 := by
  obtain ⟨v1, u1, d1, e1, p1, q1, hargs, rfl, rfl, h1, r1⟩ := trodAll_cons h
  obtain ⟨v2, u2, d2, e2, p2, q2, rfl, rfl, rfl, h2, r2⟩ := trodAll_cons r1
  obtain ⟨v3, u3, d3, e3, p3, q3, rfl, rfl, rfl, h3, r3⟩ := trodAll_cons r2
  obtain ⟨v4, u4, d4, e4, p4, q4, rfl, rfl, rfl, h4, r4⟩ := trodAll_cons r3
  obtain ⟨v5, u5, d5, e5, p5, q5, rfl, rfl, rfl, h5, r5⟩ := trodAll_cons r4
  obtain ⟨v6, u6, d6, e6, p6, q6, rfl, rfl, rfl, h6, r6⟩ := trodAll_cons r5
  obtain ⟨v7, u7, d7, e7, p7, q7, rfl, rfl, rfl, h7, r7⟩ := trodAll_cons r6
  obtain ⟨rfl, rfl, rfl⟩ := trodAll_nil r7
  exact ⟨v1, v2, v3, v4, v5, v6, v7, d1, d2, d3, d4, d5, d6, d7, p1, p2, p3, p4, p5, p6, p7, by cases args; simp_all, rfl, by simp, h1, h2, h3, h4, h5, h6, h7⟩
theorem trodAll_mk7 {t1 t2 t3 t4 t5 t6 t7 : TypeId} {v1 v2 v3 v4 v5 v6 v7 : Value} {d1 d2 d3 d4 d5 d6 d7 : DataW H} {p1 p2 p3 p4 p5 p6 p7 : List MemPlace} (h1 : DataW.Trod enc P w base spare held t1 v1 d1 p1) (h2 : DataW.Trod enc P w base spare held t2 v2 d2 p2)
    (h3 : DataW.Trod enc P w base spare held t3 v3 d3 p3) (h4 : DataW.Trod enc P w base spare held t4 v4 d4 p4) (h5 : DataW.Trod enc P w base spare held t5 v5 d5 p5) (h6 : DataW.Trod enc P w base spare held t6 v6 d6 p6) (h7 : DataW.Trod enc P w base spare held t7 v7 d7 p7) :
    DataW.TrodAll enc P w base spare held [t1, t2, t3, t4, t5, t6, t7] [v1, v2, v3, v4, v5, v6, v7] [d1, d2, d3, d4, d5, d6, d7] (p1 ++ (p2 ++ (p3 ++ (p4 ++ (p5 ++ (p6 ++ p7)))))) :=
  ⟨p1, _, h1, ⟨p2, _, h2, ⟨p3, _, h3, trodAll_mk4 h4 h5 h6 h7, rfl⟩, rfl⟩, rfl⟩
end
end Go.Proofs.YthgllfbigcoaiaaGreatDoor
