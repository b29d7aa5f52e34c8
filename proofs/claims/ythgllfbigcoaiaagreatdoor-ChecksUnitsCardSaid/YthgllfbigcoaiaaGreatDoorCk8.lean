/- Layer 8: what the row's condition says of the listed tables; the witness world; lists of words opened. -/
import Derived.Test.YthgllfbigcoaiaaGreatDoorCkA
import Derived.Test.YthgllfbigcoaiaaGreatDoorSaysC
import Derived.Test.YthgllfbigcoaiaaGreatDoorRows
import Derived.Test.YthgllfbigcoaiaaGreatDoorCards
import Derived.Test.YthgllfbigcoaiaaGreatDoorTie
import Derived.Lib.LaidU8T
import Derived.Deep.Slices
import Derived.ChangeSame
import Derived.SizedLaws
import Derived.Lib.LaidIn
import Derived.ProofKit
import Derived.OpenShut
import Derived.Carry
import Derived.Deep.DeepHandedRow
import Derived.Lib.LaidTab
namespace Go.Proofs.YthgllfbigcoaiaaGreatDoor
open Go Go.Eng Go.ChangeShapes Go.WideShapes Go.ChangeAt Go.ChangeMaps Go.RowKit Go.Lib
set_option maxRecDepth 100000
theorem bytes_len (s : ByteArray) : s.data.toList.length = s.size := rfl
def ntA : Array Value := #[.int .u8 2, .bool false, .string ⟨#[60]⟩, .string ⟨#[62]⟩, .int .u8 2, .bool true, .string ⟨#[60, 43]⟩, .string ⟨#[62]⟩, .int .u8 3, .bool false, .string ⟨#[60, 47]⟩, .string ⟨#[62]⟩, .int .u8 3, .bool true, .string ⟨#[60, 47, 43]⟩, .string ⟨#[62]⟩, .int .u8 4, .bool false, .string ⟨#[60]⟩, .string ⟨#[47, 62]⟩, .int .u8 5, .bool false, .string ⟨#[123]⟩, .string ⟨#[125]⟩]
def clZ : List Int := [0, 0, 0, 0, 0, 0, 0, 0, 0, 0, 0, 0, 0, 0, 0, 0, 0, 0, 0, 0, 0, 0, 0, 0, 0, 0, 0, 0, 0, 0, 0, 0, 3, 4, 4, 4, 4, 4, 4, 4, 4, 4, 4, 4, 4, 4, 4, 4, 2, 2, 2, 2, 2, 2, 2, 2, 2, 2, 4, 4, 4, 4, 4, 4, 4, 1, 1, 1, 1, 1, 1, 1, 1, 1, 1, 1, 1, 1, 1, 1, 1, 1, 1, 1, 1, 1, 1, 1, 1, 1, 1, 4, 4, 4, 4, 4, 4, 1, 1, 1, 1, 1, 1, 1, 1, 1, 1, 1, 1, 1, 1, 1, 1, 1, 1, 1, 1, 1, 1, 1, 1, 1, 1, 4, 4, 4, 4, 0]
theorem clZ_cells : clZ.map (fun z => Value.int .u8 z) = clL := by kernel_rfl
theorem ntA_cells : ntA.toList = ntL := by kernel_rfl
theorem heap_of_var {P : Program} {w : World} {n : String} {g : Nat} {cs : Array Value} (hg : P.globalNamed n = some g) (h : w.var? P n = some cs) : ∃ t fr, w.heap[g]? = some (.cells cs t fr) := by
  simp only [World.var?, hg, Option.bind_some] at h
  split at h
  · rename_i cs' t fr e
    cases h
    exact ⟨t, fr, e⟩
  · cases h
theorem cls_data : (Rows.laid_truchman_docs_classes : DataW Unit) = tabData .u8 clZ := by kernel_rfl
/-- the table of classes, in block 1 -/
theorem cls_heap {w : World} (h : VarReads Tryz.prog w "truchman/docs.classes" (Rows.laid_truchman_docs_classes : DataW Unit)) : ∃ cs t fr, w.heap[1]? = some (.cells cs t fr) ∧ cs.toList = clL := by
  rw [cls_data] at h
  obtain ⟨g, t, cs, fuel, p, hg, hty, hvar, hd⟩ := h
  obtain rfl := Option.some.inj ((show Tryz.prog.globalNamed "truchman/docs.classes" = some 1 by kernel_rfl).symm.trans hg)
  obtain rfl := Option.some.inj ((show (Tryz.prog.globals[1]?).map (·.type) = some 345 by kernel_rfl).symm.trans hty)
  have hcs := cells_of_tab Tryz.underlying345 Tryz.underlying292 (by kernel_rfl) (by kernel_rfl) hd
  obtain ⟨t, fr, e⟩ := heap_of_var hg hvar
  exact ⟨cs, t, fr, e, by rw [hcs, clZ_cells]⟩
section
variable {H : Type} {enc : TypeId × Value → H} {W : World} {base : Nat} {sp : Nat → Bool} {held : Bool}
theorem one_of {cs : List Value} {n : Nat} {v : Value} (h : (cs.drop n).take 1 = [v]) : cs[n]? = some v := by
  have := congrArg (·[0]?) h
  simpa [List.getElem?_take, List.getElem?_drop] using this
theorem nt_open {fuel : Nat} {cs : List Value} {a : Int} {b : Bool} {x y : List UInt8} {p : List MemPlace} (h : DataW.trod enc Tryz.prog W base sp held fuel 337 cs = some (.agg [.lit (.int .u8 a), .lit (.bool b), .lit (.string x), .lit (.string y)], p)) :
    cs = [.int .u8 a, .bool b, .string ⟨x.toArray⟩, .string ⟨y.toArray⟩] := by
  obtain ⟨xs, n, _, hx, hl, hxl, hf⟩ := DataW.trod_struct Tryz.underlying337 h
  have h4 : cs.length = 4 := hl.trans (by kernel_rfl)
  have hxs : xs.map (·.1) = [.lit (.int .u8 a), .lit (.bool b), .lit (.string x), .lit (.string y)] := by
    have := congrArg Prod.fst hx
    simpa using this.symm
  match xs, hxs with
  | [y0, y1, y2, y3], hxs =>
    simp at hxs
    obtain ⟨e0, e1, e2, e3⟩ := hxs
    have f0 : DataW.trod enc Tryz.prog W base sp held n 106 ((cs.drop 0).take (Tryz.prog.cellsOf 106)) = some y0 := hf 0 _ rfl
    have f1 : DataW.trod enc Tryz.prog W base sp held n 4 ((cs.drop 1).take (Tryz.prog.cellsOf 4)) = some y1 := hf 1 _ rfl
    have f2 : DataW.trod enc Tryz.prog W base sp held n 9 ((cs.drop 2).take (Tryz.prog.cellsOf 9)) = some y2 := hf 2 _ rfl
    have f3 : DataW.trod enc Tryz.prog W base sp held n 9 ((cs.drop 3).take (Tryz.prog.cellsOf 9)) = some y3 := hf 3 _ rfl
    rw [show Tryz.prog.cellsOf 106 = 1 by kernel_rfl] at f0
    rw [show Tryz.prog.cellsOf 4 = 1 by kernel_rfl] at f1
    rw [show Tryz.prog.cellsOf 9 = 1 by kernel_rfl] at f2 f3
    obtain ⟨z, c0, g0, _⟩ := DataW.trod_int Tryz.underlying106 f0
    obtain ⟨z1, c1, g1⟩ := DataW.trod_bool Tryz.underlying4 f1
    obtain ⟨z2, c2, g2, _⟩ := DataW.trod_string Tryz.underlying9 f2
    obtain ⟨z3, c3, g3, _⟩ := DataW.trod_string Tryz.underlying9 f3
    rw [g0] at e0
    rw [g1] at e1
    rw [g2] at e2
    rw [g3] at e3
    simp at e0 e1 e2 e3
    subst e0 e1
    have k0 := one_of c0
    have k1 := one_of c1
    have k2 := one_of c2
    have k3 := one_of c3
    match cs, h4 with
    | [q0, q1, q2, q3], _ =>
      simp at k0 k1 k2 k3
      subst k0 k1 k2 k3
      subst e2 e3
      rfl
theorem weights_all {e : TypeId} {l : List (DataW H)} {d : DataW H} (hd : d ∈ l) {n : Nat} (hn : n ∈ d.weights Tryz.prog e) : n ∈ DataW.weightsAll Tryz.prog e l := by
  induction l with
  | nil => cases hd
  | cons x l ih =>
    simp only [DataW.weightsAll, List.mem_append]
    rcases List.mem_cons.1 hd with rfl | h
    · exact .inl hn
    · exact .inr (ih h)
theorem wds_open {fuel : Nat} {cs : List Value} {d : DataW H} {p : List MemPlace} (h : DataW.trod enc Tryz.prog W 0 sp held fuel 22 cs = some (d, p))
    (hw : ∀ n ∈ d.weights Tryz.prog 22, n ≤ reachBytes) :
    ∃ (l : List ByteArray) (v : Value), cs = [v] ∧ WdsAt W v l := by
  have hr : reachBytes ≤ 140737488355328 := by decide
  rcases Go.Deep.open_slice Tryz.underlying22 h with ⟨rfl, _⟩ | ⟨a, len, cap, m, n, D, Pl, rfl, _, hl, hm, hmm, hx, hel⟩
  · exact ⟨[], _, rfl, ⟨none, 0, rfl, by simp, by simp, fun h => absurd h (by simp)⟩, by simp⟩
  · have hlm : len ≤ m := by rw [hmm]; split <;> omega
    have c3 : Tryz.prog.cellsOf 9 = 1 := by kernel_rfl
    rw [c3] at hel
    have wl : ∀ (x : ByteArray) (d : DataW H), d = .lit (.string x.data.toList) → x.data.toList.length ∈ d.weights Tryz.prog 9 := by
      rintro x d rfl
      simp [DataW.weights]
    have each : ∀ i : Fin len, ∃ x : ByteArray, (∃ cs', W.cells? 0 (a.add (i.1 * 1)) 1 = some cs' ∧ cs' = [.string x]) ∧ D i.1 = .lit (.string x.data.toList) := fun i => by
      obtain ⟨cs', h1, h2⟩ := hel i.1 (by have := i.2; omega)
      obtain ⟨x, hx1, hx2, _⟩ := DataW.trod_string Tryz.underlying9 h2
      exact ⟨x, ⟨cs', h1, hx1⟩, congrArg Prod.fst hx2⟩
    have hd : d = .slice ((List.range len).map D) ((List.range (m - len)).map fun j => D (len + j)) := congrArg Prod.fst hx
    have hwl : ∀ n ∈ (((List.range len).map D).length + ((List.range (m - len)).map fun j => D (len + j)).length) * Tryz.prog.bytesOf 9 :: (DataW.weightsAll Tryz.prog 9 ((List.range len).map D) ++ DataW.weightsAll Tryz.prog 9 ((List.range (m - len)).map fun j => D (len + j))), n ≤ reachBytes := by
      intro n hn
      apply hw
      rw [hd]
      simp only [DataW.weights, Tryz.underlying22]
      exact hn
    refine ⟨List.ofFn fun i => Classical.choose (each i), _, rfl, ⟨some a, cap, by simp, by simpa using hl, hm, fun h0 => ⟨a, rfl, ?_, ?_⟩⟩, ?_⟩
    · have h0' : 0 < len := by simpa using h0
      obtain ⟨⟨cs', h1, hcs⟩, _⟩ := Classical.choose_spec (each ⟨0, h0'⟩)
      obtain ⟨_, hlen, hcl⟩ := World.cells?_some h1
      have := hcl 0 (by omega)
      rw [List.getElem?_eq_getElem (by omega)] at this
      have hb := World.block_lt_of_cell? W _ this
      rwa [add_block, add_block] at hb
    · intro i j hi hj
      have hi' : i < len := by simpa using hi
      obtain ⟨⟨cs', h1, hcs⟩, _⟩ := Classical.choose_spec (each ⟨i, hi'⟩)
      obtain ⟨_, hlen, hcl⟩ := World.cells?_some h1
      have e1 := hcl j hj
      rw [Go.Deep.add_add] at e1
      rw [e1, hcs]
      have hg : (List.ofFn fun i => Classical.choose (each i)).getD i ⟨#[]⟩ = Classical.choose (each ⟨i, hi'⟩) := by
        rw [List.getD_eq_getElem?_getD, List.getElem?_eq_getElem hi]
        simp
      unfold wdF
      rw [hg]
      match j, hj with
      | 0, _ => simp
    · intro x hx
      obtain ⟨i, hi, rfl⟩ := List.getElem_of_mem hx
      have hi' : i < len := by simpa using hi
      obtain ⟨_, hD⟩ := Classical.choose_spec (each ⟨i, hi'⟩)
      have hmem : D i ∈ (List.range len).map D := List.mem_map.2 ⟨i, List.mem_range.2 hi', rfl⟩
      have key := hwl _ (List.mem_cons_of_mem _ (List.mem_append_left _ (weights_all hmem (wl _ _ hD))))
      have e : (List.ofFn fun i => Classical.choose (each i))[i] = Classical.choose (each ⟨i, hi'⟩) := by simp
      rw [e]
      rw [bytes_len] at key
      unfold maxLen
      omega
end
theorem own : ownKnob Tryz.prog.godebug = none := by kernel_rfl
def layAt (h : Array Obj) (g : Nat) (vs : Array Value) : Array Obj := h.modify g fun
  | .cells _ t frozen => .cells vs t frozen
  | o => o
def powA : Array Value := #[.int .u64 1, .int .u64 10, .int .u64 100, .int .u64 1000, .int .u64 10000, .int .u64 100000, .int .u64 1000000, .int .u64 10000000, .int .u64 100000000, .int .u64 1000000000, .int .u64 10000000000, .int .u64 100000000000, .int .u64 1000000000000, .int .u64 10000000000000, .int .u64 100000000000000, .int .u64 1000000000000000, .int .u64 10000000000000000, .int .u64 100000000000000000, .int .u64 1000000000000000000, .int .u64 10000000000000000000]
def b32A : Array Value := #[.int .u8 0, .int .u8 1, .int .u8 28, .int .u8 2, .int .u8 29, .int .u8 14, .int .u8 24, .int .u8 3, .int .u8 30, .int .u8 22, .int .u8 20, .int .u8 15, .int .u8 25, .int .u8 17, .int .u8 4, .int .u8 8, .int .u8 31, .int .u8 27, .int .u8 13, .int .u8 23, .int .u8 21, .int .u8 19, .int .u8 16, .int .u8 7, .int .u8 26, .int .u8 12, .int .u8 18, .int .u8 6, .int .u8 11, .int .u8 5, .int .u8 10, .int .u8 9]
def b64A : Array Value := #[.int .u8 0, .int .u8 1, .int .u8 56, .int .u8 2, .int .u8 57, .int .u8 49, .int .u8 28, .int .u8 3, .int .u8 61, .int .u8 58, .int .u8 42, .int .u8 50, .int .u8 38, .int .u8 29, .int .u8 17, .int .u8 4, .int .u8 62, .int .u8 47, .int .u8 59, .int .u8 36, .int .u8 45, .int .u8 43, .int .u8 51, .int .u8 22, .int .u8 53, .int .u8 39, .int .u8 33, .int .u8 30, .int .u8 24, .int .u8 18, .int .u8 12, .int .u8 5, .int .u8 63, .int .u8 55, .int .u8 48, .int .u8 27, .int .u8 60, .int .u8 41, .int .u8 37, .int .u8 16, .int .u8 46, .int .u8 35, .int .u8 44, .int .u8 21, .int .u8 52, .int .u8 32, .int .u8 23, .int .u8 11, .int .u8 54, .int .u8 26, .int .u8 40, .int .u8 15, .int .u8 34, .int .u8 20, .int .u8 31, .int .u8 10, .int .u8 25, .int .u8 14, .int .u8 19, .int .u8 9, .int .u8 13, .int .u8 8, .int .u8 7, .int .u8 6]
noncomputable def laidHeap (h : Array Obj) : Array Obj :=
  ((layAt (layAt (layAt (layAt (layAt (layAt (layAt (layAt (layAt h 0 ntA) 1 (clZ.map fun z => Value.int .u8 z).toArray)
    2 (firstTab.map fun z => Value.int .u8 z).toArray) 3 ((List.range 16).flatMap fun i => [Value.int .u8 (accLo i), Value.int .u8 (accHi i)]).toArray)
    5 powA) 8 b32A) 9 b64A)
    6 #[.iface 394 (.pointer (some ⟨h.size, 0, none⟩))]) 7 #[.iface 394 (.pointer (some ⟨h.size + 1, 0, none⟩))]).push
    (.cells #[.string ⟨#[105, 110, 118, 97, 108, 105, 100, 32, 115, 121, 110, 116, 97, 120]⟩] 396)).push (.cells #[.string ⟨#[118, 97, 108, 117, 101, 32, 111, 117, 116, 32, 111, 102, 32, 114, 97, 110, 103, 101]⟩] 396)
/-- The settled world, the listed variables laid. -/
noncomputable def laidWorld (os : Os) : World :=
  { World.holding Tryz.prog os ⟨#[], #[], []⟩ with heap := laidHeap (World.holding Tryz.prog os ⟨#[], #[], []⟩).heap }
theorem globalsN : Tryz.prog.globals.size = 10 := by kernel_rfl
theorem begunmore : decide (10 < (begin Tryz.prog (fun _ _ => 0) default).world.heap.size) = true := by kernel_rfl
/-- There are as many blocks as package-level variables, at least. -/
theorem blocks {W : World} (hs : W.ShapedOpen Tryz.prog) : 10 ≤ W.heap.size := by
  obtain ⟨o, _, ho, _⟩ := hs.2 10 (by rw [globalsN]; exact Nat.le_refl _) (of_decide_eq_true begunmore)
  have := (Array.getElem?_eq_some_iff.1 ho).1
  omega
theorem laid_out : laidOutB Tryz.prog = true := by kernel_rfl
/-- the table of notations, in block 0 -/
theorem nts_heap {w : World} (h : VarReads Tryz.prog w "truchman/docs.notations" (Rows.laid_truchman_docs_notations : DataW Unit)) : ∃ cs t fr, w.heap[0]? = some (.cells cs t fr) ∧ cs = ntA := by
  obtain ⟨g, t, cs, fuel, p, hg, hty, hvar, hd⟩ := h
  obtain rfl := Option.some.inj ((show Tryz.prog.globalNamed "truchman/docs.notations" = some 0 by kernel_rfl).symm.trans hg)
  obtain rfl := Option.some.inj ((show (Tryz.prog.globals[0]?).map (·.type) = some 338 by kernel_rfl).symm.trans hty)
  obtain ⟨t, fr, e⟩ := heap_of_var hg hvar
  refine ⟨cs, t, fr, e, ?_⟩
  have el := fun i hi => array_elem Tryz.underlying338 hd i hi
  have c4 : Tryz.prog.cellsOf 337 = 4 := by kernel_rfl
  have hl : cs.toList.length = 24 := by
    cases fuel with
    | zero => simp [DataW.trod] at hd
    | succ fuel =>
      simp only [DataW.trod, Tryz.underlying338] at hd
      split at hd
      · rename_i hl
        rw [hl]; kernel_rfl
      · cases hd
  rw [c4] at el
  obtain ⟨_, d0, _, q0, e0⟩ := el 0 (by omega)
  obtain ⟨_, d1, _, q1, e1⟩ := el 1 (by omega)
  obtain ⟨_, d2, _, q2, e2⟩ := el 2 (by omega)
  obtain ⟨_, d3, _, q3, e3⟩ := el 3 (by omega)
  obtain ⟨_, d4, _, q4, e4⟩ := el 4 (by omega)
  obtain ⟨_, d5, _, q5, e5⟩ := el 5 (by omega)
  cases q0; cases q1; cases q2; cases q3; cases q4; cases q5
  have r0 := nt_open e0
  have r1 := nt_open e1
  have r2 := nt_open e2
  have r3 := nt_open e3
  have r4 := nt_open e4
  have r5 := nt_open e5
  apply Array.ext'
  generalize cs.toList = L at hl r0 r1 r2 r3 r4 r5
  have key : ∀ (L : List Value), L.length = 24 → L = (L.drop (0 * 4)).take 4 ++ ((L.drop (1 * 4)).take 4 ++ ((L.drop (2 * 4)).take 4 ++ ((L.drop (3 * 4)).take 4 ++ ((L.drop (4 * 4)).take 4 ++ (L.drop (5 * 4)).take 4)))) := by
    intro L hL
    match L, hL with
    | [a0, a1, a2, a3, a4, a5, a6, a7, a8, a9, b0, b1, b2, b3, b4, b5, b6, b7, b8, b9, c0, c1, c2, c3], _ => rfl
  rw [key L hl, r0, r1, r2, r3, r4, r5]
  rfl
/-- what the listed tables give: the closed run of the examples, in any world behind -/
theorem tables {W : World} (h5 : 10 ≤ W.heap.size) (hn : VarReads Tryz.prog W "truchman/docs.notations" (Rows.laid_truchman_docs_notations : DataW Unit)) (hc : VarReads Tryz.prog W "truchman/docs.classes" (Rows.laid_truchman_docs_classes : DataW Unit)) :
    ∀ w', Below W.heap.size W w' → Calls Tryz.prog 11 #[] w' fun e w'' => e = .returned (.bool true) ∧ Below w'.heap.size w' w'' := by
  obtain ⟨c0, t0, f0, e0, rfl⟩ := nts_heap hn
  obtain ⟨c1, t1, f1, e1, r1⟩ := cls_heap hc
  exact fun w' hb => says_calls w' (Nat.le_trans h5 hb.size) (by rw [hb.block 0 (by omega)]; exact e0) (by rw [hb.block 1 (by omega)]; exact e1) ntA_cells r1
theorem slice_of2 {W : World} {base : Nat} {v u : Value} (hv : Value.okWide Tryz.prog W .any base 22 v) (h : v.cells.toList = [u]) : v = u := by
  obtain ⟨a0, len0, cap0, rfl⟩ := okWide_slice Tryz.underlying22 hv
  simpa [Value.cells] using h
theorem int_of {W : World} {base : Nat} {v : Value} (hv : Value.okWide Tryz.prog W .any base 3 v) : ∃ n : Int, v = .int .i64 n := by
  exact okWide_int Tryz.underlying3 hv
end Go.Proofs.YthgllfbigcoaiaaGreatDoor
