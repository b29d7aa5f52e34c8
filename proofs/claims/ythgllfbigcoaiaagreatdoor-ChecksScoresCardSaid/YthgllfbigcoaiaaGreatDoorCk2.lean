/- Grams of words, by the program: how many a list has, and the one at a place. -/
import Derived.Test.YthgllfbigcoaiaaGreatDoorProg
import Derived.Test.YthgllfbigcoaiaaGreatDoorCk1
import Derived.WalkKit
import Derived.WalkSpells
import Derived.WalkLawsBesides
import Derived.Lib.Hide
import Derived.Deep.QuietTactic
import Derived.Deep.LoopGhost
import Derived.BigQuiet
import Derived.WalkSmall
import Derived.Sort.Walk0
import Derived.Deep.RegionHeld3
import Derived.Laws.CopyOwn
namespace Go.Proofs.YthgllfbigcoaiaaGreatDoor
open Go Go.RowKit Go.Lib
set_option maxRecDepth 100000
theorem below_box {w : World} (o : Obj) : Below w.heap.size w (w.alloc o) := (Below.refl _ _).alloc (Nat.le_refl _) _
theorem below_next {w wr w' : World} (h : Below w.heap.size w wr) (hb : Below wr.heap.size wr w') : Below w.heap.size w w' := h.trans (hb.mono h.size)
theorem ret_bool {a b : Bool} (h : a = b) : Ending.returned (.bool a) = .returned (.bool b) := by rw [h]
theorem ret_int {a b : Int} (h : a = b) : Ending.returned (.int .i64 a) = .returned (.int .i64 b) := by rw [h]
theorem add_block (A : Addr) (k : Nat) : (A.add k).block = A.block := by unfold Addr.add; split <;> rfl
theorem cell_off {w : World} {a : Addr} {n d : Nat} {v : Value} (hd : 0 < d) (h : w.cell? (a.add (n + d)) = some v) : w.cell? { block := (a.add n).block, off := (a.add n).off + d } = some v := by
  have e : ({ block := (a.add n).block, off := (a.add n).off + d } : Addr) = a.add (n + d) := by
    unfold Addr.add
    by_cases h0 : n = 0
    · subst h0; simp; omega
    · simp [h0]; omega
  rw [e]; exact h
def SliceAt (B : Nat) (w : World) (v : Value) (n sz : Nat) (f : Nat → Nat → Value) : Prop :=
  ∃ (p : Option Addr) (cap : Nat), v = .slice p n cap ∧ n ≤ cap ∧ cap ≤ maxLen ∧
    (0 < n → ∃ A, p = some A ∧ A.block < B ∧ ∀ i j, i < n → j < sz → w.cell? (A.add (i * sz + j)) = some (f i j))
theorem SliceAt.below {B : Nat} {w w' : World} {v : Value} {n sz : Nat} {f : Nat → Nat → Value} (hb : Below B w w') (h : SliceAt B w v n sz f) : SliceAt B w' v n sz f := by
  obtain ⟨p, cap, e, h1, h2, h3⟩ := h
  refine ⟨p, cap, e, h1, h2, fun hn => ?_⟩
  obtain ⟨A, e, hA, hc⟩ := h3 hn
  exact ⟨A, e, hA, fun i j hi hj => by rw [hb.cell (by rw [add_block]; exact hA)]; exact hc i j hi hj⟩
theorem SliceAt.mono {B B' : Nat} {w : World} {v : Value} {n sz : Nat} {f : Nat → Nat → Value} (hB : B ≤ B') (h : SliceAt B w v n sz f) : SliceAt B' w v n sz f := by
  obtain ⟨p, cap, e, h1, h2, h3⟩ := h
  refine ⟨p, cap, e, h1, h2, fun hn => ?_⟩
  obtain ⟨A, e, hA, hc⟩ := h3 hn
  exact ⟨A, e, by omega, hc⟩
/-- a list of words -/
def wdF (l : List ByteArray) (i _j : Nat) : Value := .string (l.getD i ⟨#[]⟩)
def WdsAt (w : World) (v : Value) (l : List ByteArray) : Prop := SliceAt w.heap.size w v l.length 1 (wdF l) ∧ ∀ s ∈ l, s.size ≤ maxLen
theorem WdsAt.step {w w' : World} {v : Value} {l : List ByteArray} (hb : Below w.heap.size w w') (h : WdsAt w v l) : WdsAt w' v l := ⟨(SliceAt.below hb h.1).mono hb.size, h.2⟩
theorem WdsAt.len {w : World} {v : Value} {l : List ByteArray} (h : WdsAt w v l) : l.length ≤ maxLen := by
  obtain ⟨⟨p, cap, e, h1, h2, h3⟩, _⟩ := h
  omega
theorem wd_mem {l : List ByteArray} {k : Nat} (hk : k < l.length) : l.getD k ⟨#[]⟩ ∈ l := by
  rw [List.getD_eq_getElem?_getD, List.getElem?_eq_getElem hk]; exact List.getElem_mem hk
theorem al (w : World) (o : Obj) (a : Addr) (h : a.block < w.heap.size) : (w.alloc o).cell? a = w.cell? a := (below_box o).cell h
theorem results_c0 {fn : Func} {p : Tmp} {ty : TypeId} (h : fn.results = #[.cell p ty]) (tmps : Array Value) (P : Program) (w : World) :
    (results fn tmps).run P w = ((asAddr (tmps.getD p undef)).run P w).andThen fun a w1 => (loadVar ty a).run P w1 := by
  simp only [results, h]
  simp [Sem.run_bind, Result.andThen]
theorem results_c {fn : Func} {p : Tmp} {ty : TypeId} (h : fn.results = #[.cell p ty]) {tmps : Array Value} {P : Program} {w : World} {a : Addr} {xs : List Value}
    (ha : tmps.getD p undef = .pointer (some a)) (iy : ∀ w, (isAgg ty).run P w = .ok true w) (sy : ∀ w, (sizeOf ty).run P w = .ok xs.length w)
    (cx : ∀ j v, xs[j]? = some v → w.cell? (a.add j) = some v) :
    (results fn tmps).run P w = .ok (.agg xs.toArray) w := by
  have hx := run_loadCells_list (P := P) w a xs cx
  rw [results_c0 h, ha]
  simp [Result.andThen, asAddr, loadVar, iy, sy, hx]
theorem four_cells {w : World} {n : Nat} {v0 v1 v2 v3 : Value} (h0 : w.cell? ⟨n, 0, none⟩ = some v0) (h1 : w.cell? ⟨n, 1, none⟩ = some v1) (h2 : w.cell? ⟨n, 2, none⟩ = some v2) (h3 : w.cell? ⟨n, 3, none⟩ = some v3) : ∀ j v, [v0, v1, v2, v3][j]? = some v → w.cell? ((⟨n, 0, none⟩ : Addr).add j) = some v := by
  intro j v hj
  match j, hj with
  | 0, hj => simp only [List.getElem?_cons_zero, Option.some.injEq] at hj; subst hj; exact h0
  | 1, hj => simp only [List.getElem?_cons_succ, List.getElem?_cons_zero, Option.some.injEq] at hj; subst hj; exact h1
  | 2, hj => simp only [List.getElem?_cons_succ, List.getElem?_cons_zero, Option.some.injEq] at hj; subst hj; exact h2
  | 3, hj => simp only [List.getElem?_cons_succ, List.getElem?_cons_zero, Option.some.injEq] at hj; subst hj; exact h3
/-- how many grams of n words a list has, as the program reckons -/
def gramsN (len : Nat) (n : Int) : Int := max 0 ((len : Int) - n + 1)
set_option maxHeartbeats 1000000 in
theorem gramsIn_any (l : List ByteArray) (v : Value) (n : Int) (w : World) (hv : WdsAt w v l) (h1 : 1 ≤ n) (h4 : n ≤ 4) : Calls Tryz.prog 35 #[v, .int .i64 n] w fun e w' => e = .returned (.int .i64 (gramsN l.length n)) ∧ w' = w := by
  obtain ⟨⟨p, cap, rfl, hl, hc, hrow⟩, hz⟩ := hv
  unfold maxLen at hc
  clear hrow hz
  have HG := Lib.hid (show gramsN l.length n = max 0 ((l.length : Int) - n + 1) from rfl)
  by_cases hg : 0 ≤ (l.length : Int) - n + 1
  all_goals
    go_enter Tryz.func35, Tryz.ntmps35
    go_wp2
    go_ret
    exact ⟨ret_int (by rw [HG.out]), rfl⟩
/-- a gram as a value -/
def κQ (q : Q4) : Value := .agg #[.string q.a, .string q.b, .string q.c, .string q.d]
end Go.Proofs.YthgllfbigcoaiaaGreatDoor
