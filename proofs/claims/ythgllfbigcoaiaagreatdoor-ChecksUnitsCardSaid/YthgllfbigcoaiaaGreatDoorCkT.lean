/- Steps: the table of what is needed, by the program. Steps: the table of what is needed, by the program: the two loops. Steps: a list of them, as data. Steps: the list of them, by the program. Steps: append of any list of words; what the law asks of numbers. -/
import Derived.Test.YthgllfbigcoaiaaGreatDoorCkS
import Derived.Deep.RegionHeld3
import Derived.OwnWalk
import Derived.Laws.OwnMore
import Derived.Laws.AppendOwnNone
namespace Go.Proofs.YthgllfbigcoaiaaGreatDoor
open Go Go.RowKit Go.Lib
set_option maxRecDepth 100000
/-- a row of cells, as data -/
def RowK (w : World) (g : Nat) (t : TypeId) (n : Nat) (f : Nat → Value) : Prop := ∃ cur : Array Value, w.heap[g]? = some (.cells cur t (0, 0)) ∧ cur.size = n ∧ ∀ j, j < n → cur[j]? = some (f j)
theorem RowK.cell {w : World} {g : Nat} {t : TypeId} {n : Nat} {f : Nat → Value} (h : RowK w g t n f) {j : Nat} (hj : j < n) : w.cell? ⟨g, j, none⟩ = some (f j) := by
  obtain ⟨cur, h1, _, h3⟩ := h
  simp [World.cell?, h1, h3 j hj]
theorem RowK.frozen {w : World} {g : Nat} {t : TypeId} {n : Nat} {f : Nat → Value} (h : RowK w g t n f) (j : Nat) : w.frozen? ⟨g, j, none⟩ = false := by
  obtain ⟨cur, h1, _, _⟩ := h
  exact frozen_of_row w g j cur t h1
theorem RowK.lt {w : World} {g : Nat} {t : TypeId} {n : Nat} {f : Nat → Value} (h : RowK w g t n f) : g < w.heap.size := by
  obtain ⟨cur, h1, _, _⟩ := h
  exact (Array.getElem?_eq_some_iff.1 h1).1
theorem RowK.step {w w' : World} {g : Nat} {t : TypeId} {n : Nat} {f : Nat → Value} (hb : Below w.heap.size w w') (h : RowK w g t n f) : RowK w' g t n f := by
  have hlt := h.lt
  obtain ⟨cur, h1, h2, h3⟩ := h
  exact ⟨cur, (hb.block g hlt).trans h1, h2, h3⟩
theorem RowK.set {w : World} {g : Nat} {t : TypeId} {n : Nat} {f : Nat → Value} (h : RowK w g t n f) (j : Nat) (v : Value) (f' : Nat → Value) (hf : ∀ k, k < n → f' k = if k = j then v else f k) : RowK (w.setCell ⟨g, j, none⟩ v) g t n f' := by
  obtain ⟨cur, h1, h2, h3⟩ := h
  refine ⟨cur.setIfInBounds j v, heap_setCell_same w g j cur t v h1, by simpa using h2, fun k hk => ?_⟩
  rw [hf k hk]
  by_cases e : k = j
  · subst e
    simp [h2, hk]
  · rw [if_neg e, Array.getElem?_setIfInBounds_ne (fun h => e h.symm)]
    exact h3 k hk
theorem RowK.far {w : World} {g : Nat} {t : TypeId} {n : Nat} {f : Nat → Value} (h : RowK w g t n f) {a : Addr} (v : Value) (hg : a.block ≠ g) : RowK (w.setCell a v) g t n f := by
  obtain ⟨cur, h1, h2, h3⟩ := h
  exact ⟨cur, (heap_setCell_other w a g v (fun e => hg e.symm)).trans h1, h2, h3⟩
theorem RowK.make (w : World) (z : Value) (n : Nat) (t : TypeId) : RowK (w.alloc (.cells (madeCells #[z] n) t)) w.heap.size t n (fun _ => z) := by
  refine ⟨_, (MapKept.heap_alloc w _).1, size_madeCells _ _, fun j hj => ?_⟩
  have e := toList_madeCells_one z n
  rw [← Array.getElem?_toList, e]
  simp [hj]

set_option maxHeartbeats 1000000 in
theorem made {t e : TypeId} {z : Value} {B : Nat} (ht : Tryz.prog.underlying t = some (.slice e)) (hi : (Tryz.prog.info? e).map (fun i => (i.zero, i.size, i.bytes)) = some (some z, 1, B)) (hz : z.cells = #[z]) (hB : B ≤ 100) (n : Nat) (hn : n ≤ 1000) (w : World) :
    (Instr.makeSlice t (.int .i64 ((n : Int) + 1)) (.int .i64 ((n : Int) + 1))).run Tryz.prog w = .ok (.slice (some ⟨w.heap.size, 0, none⟩) (n + 1) (n + 1)) (w.alloc (.cells (madeCells #[z] (n + 1)) e)) := by
  obtain ⟨i, h1, h2, h3, h4⟩ := info_parts hi
  have hb : i.bytes * (n + 1) ≤ 100 * 1001 := Nat.mul_le_mul (by omega) (by omega)
  have hbi : (i.bytes : Int) * ((n : Int) + 1) ≤ 281474976710656 := by
    have e : ((i.bytes * (n + 1) : Nat) : Int) = (i.bytes : Int) * ((n : Int) + 1) := by push_cast; rfl
    omega
  have hr := run_make (P := Tryz.prog) w t e i z ht h1 h2 .i64 .i64 ((n : Int) + 1) ((n : Int) + 1) (by omega) (Int.le_refl _) hbi (by omega)
  rw [hz, h3, Nat.mul_one, show ((n : Int) + 1).toNat = n + 1 by omega] at hr
  exact hr
theorem made_out (n : Nat) (hn : n ≤ 1000) (w : World) : (Instr.makeSlice 43 (.int .i64 ((n : Int) + 1)) (.int .i64 ((n : Int) + 1))).run Tryz.prog w = .ok (.slice (some ⟨w.heap.size, 0, none⟩) (n + 1) (n + 1)) (w.alloc (.cells (madeCells #[.slice none 0 0] (n + 1)) 46)) :=
  made (B := 24) Tryz.underlying43 (by kernel_rfl) rfl (by omega) n hn w
theorem made_in (n : Nat) (hn : n ≤ 1000) (w : World) : (Instr.makeSlice 46 (.int .i64 ((n : Int) + 1)) (.int .i64 ((n : Int) + 1))).run Tryz.prog w = .ok (.slice (some ⟨w.heap.size, 0, none⟩) (n + 1) (n + 1)) (w.alloc (.cells (madeCells #[.int .i64 0] (n + 1)) 3)) :=
  made (B := 8) Tryz.underlying46 (by kernel_rfl) rfl (by omega) n hn w
/-- the rows from m on are full -/
def rowV (lb : Nat) (rb : Nat → Nat) (m : Nat) (k : Nat) : Value := if m ≤ k then .slice (some ⟨rb k, 0, none⟩) (lb + 1) (lb + 1) else .slice none 0 0
def numV (a b : List ByteArray) (i n : Nat) (j : Nat) : Value := if n ≤ j then .int .i64 (dL a b i j) else .int .i64 0
structure Full (a b : List ByteArray) (o : Nat) (rb : Nat → Nat) (m : Nat) (w : World) : Prop where
  rows : ∀ k, m ≤ k → k ≤ a.length → rb k ≠ o ∧ RowK w (rb k) 3 (b.length + 1) (numV a b k 0)
structure OutI (a b : List ByteArray) (o : Nat) (rb : Nat → Nat) (m : Nat) (w : World) : Prop where
  top : RowK w o 46 (a.length + 1) (rowV b.length rb m)
  full : Full a b o rb m w
structure InI (a b : List ByteArray) (o : Nat) (rb : Nat → Nat) (i n : Nat) (w : World) : Prop where
  top : RowK w o 46 (a.length + 1) (rowV b.length rb i)
  full : Full a b o rb (i + 1) w
  apart : rb i ≠ o ∧ ∀ k, i + 1 ≤ k → k ≤ a.length → rb k ≠ rb i
  row : RowK w (rb i) 3 (b.length + 1) (numV a b i n)
theorem OutI.step {a b : List ByteArray} {o : Nat} {rb : Nat → Nat} {m : Nat} {w w' : World} (hb : Below w.heap.size w w') (h : OutI a b o rb m w) : OutI a b o rb m w' :=
  ⟨h.top.step hb, ⟨fun k h1 h2 => ⟨(h.full.rows k h1 h2).1, (h.full.rows k h1 h2).2.step hb⟩⟩⟩
theorem InI.step {a b : List ByteArray} {o : Nat} {rb : Nat → Nat} {i n : Nat} {w w' : World} (hb : Below w.heap.size w w') (h : InI a b o rb i n w) : InI a b o rb i n w' :=
  ⟨h.top.step hb, ⟨fun k h1 h2 => ⟨(h.full.rows k h1 h2).1, (h.full.rows k h1 h2).2.step hb⟩⟩, h.apart, h.row.step hb⟩
/-- a row is made and put into its place -/
theorem OutI.enter {a b : List ByteArray} {o : Nat} {rb : Nat → Nat} {i : Nat} {w : World} (h : OutI a b o rb (i + 1) w) :
    InI a b o (fun k => if k = i then w.heap.size else rb k) i (b.length + 1) ((w.alloc (.cells (madeCells #[.int .i64 0] (b.length + 1)) 3)).setCell ⟨o, i, none⟩ (.slice (some ⟨w.heap.size, 0, none⟩) (b.length + 1) (b.length + 1))) := by
  have h1 := h.step (w' := w.alloc (.cells (madeCells #[.int .i64 0] (b.length + 1)) 3)) (below_box _)
  have ho : o < w.heap.size := h.top.lt
  have hk : ∀ k, i + 1 ≤ k → (if k = i then w.heap.size else rb k) = rb k := fun k hk => if_neg (by omega)
  refine ⟨h1.top.set i _ _ ?_, ⟨?_⟩, ⟨?_, ?_⟩, ?_⟩
  · intro k _
    unfold rowV
    by_cases e : k = i
    · subst e; simp
    · rw [if_neg e]
      by_cases e2 : i + 1 ≤ k
      · rw [if_pos (by omega), if_pos e2]; simp only [if_neg e]
      · rw [if_neg (by omega), if_neg e2]
  · intro k h2 h3
    simp only [hk k h2]
    exact ⟨(h1.full.rows k h2 h3).1, (h1.full.rows k h2 h3).2.far _ (fun e => (h1.full.rows k h2 h3).1 e.symm)⟩
  · simp only [if_true]; omega
  · intro k h2 h3
    simp only [hk k h2, if_true]
    have := (h.full.rows k h2 h3).2.lt
    omega
  · simp only [if_true]
    refine RowK.far ?_ _ (by show o ≠ _; omega)
    obtain ⟨cur, c1, c2, c3⟩ := RowK.make w (.int .i64 0) (b.length + 1) 3
    refine ⟨cur, c1, c2, fun j hj => ?_⟩
    rw [c3 j hj]
    unfold numV
    rw [if_neg (by omega)]
/-- a number is put into its place -/
theorem InI.put {a b : List ByteArray} {o : Nat} {rb : Nat → Nat} {i n : Nat} {w : World} (h : InI a b o rb i (n + 1) w) : InI a b o rb i n (w.setCell ⟨rb i, n, none⟩ (.int .i64 (dL a b i n))) := by
  refine ⟨h.top.far _ h.apart.1, ⟨fun k h2 h3 => ⟨(h.full.rows k h2 h3).1, (h.full.rows k h2 h3).2.far _ (fun e => h.apart.2 k h2 h3 e.symm)⟩⟩, h.apart, h.row.set n _ _ ?_⟩
  intro k _
  unfold numV
  by_cases e : k = n
  · subst e; simp
  · rw [if_neg e]
    by_cases e2 : n + 1 ≤ k
    · rw [if_pos (by omega), if_pos e2]
    · rw [if_neg (by omega), if_neg e2]
/-- the last place needs nothing -/
theorem InI.last {a b : List ByteArray} {o : Nat} {rb : Nat → Nat} {w : World} (h : InI a b o rb a.length (b.length + 1) w) : InI a b o rb a.length b.length w := by
  refine ⟨h.top, h.full, h.apart, ?_⟩
  obtain ⟨cur, c1, c2, c3⟩ := h.row
  refine ⟨cur, c1, c2, fun j hj => ?_⟩
  rw [c3 j hj]
  unfold numV
  rw [if_neg (by omega)]
  by_cases e : b.length ≤ j
  · have : j = b.length := by omega
    subst this
    rw [if_pos (Nat.le_refl _), dL_end (Nat.le_refl _) (Nat.le_refl _)]; rfl
  · rw [if_neg e]
theorem InI.leave {a b : List ByteArray} {o : Nat} {rb : Nat → Nat} {i : Nat} {w : World} (h : InI a b o rb i 0 w) : OutI a b o rb i w := by
  refine ⟨h.top, ⟨fun k h1 h2 => ?_⟩⟩
  by_cases e : k = i
  · subst e; exact ⟨h.apart.1, h.row⟩
  · exact h.full.rows k (by omega) h2
theorem InI.tab {a b : List ByteArray} {o : Nat} {rb : Nat → Nat} {i n : Nat} {w : World} (h : InI a b o rb i (n + 1) w) : TabW w o rb a.length b.length (dL a b) (Behind i n) := by
  intro i' j' hi hj hP
  have ht := h.top.cell (j := i') (by omega)
  unfold rowV at ht
  rcases hP with hlt | ⟨rfl, hlt⟩
  · rw [if_pos (by omega)] at ht
    refine ⟨ht, ?_⟩
    have := (h.full.rows i' hlt hi).2.cell (j := j') (by omega)
    unfold numV at this
    rwa [if_pos (by omega)] at this
  · rw [if_pos (by omega)] at ht
    refine ⟨ht, ?_⟩
    have := h.row.cell (j := j') (by omega)
    unfold numV at this
    rwa [if_pos (by omega)] at this
theorem OutI.tab {a b : List ByteArray} {o : Nat} {rb : Nat → Nat} {w : World} (h : OutI a b o rb 0 w) : TabW w o rb a.length b.length (dL a b) (fun _ _ => True) := by
  intro i' j' hi hj _
  have ht := h.top.cell (j := i') (by omega)
  unfold rowV at ht
  rw [if_pos (by omega)] at ht
  refine ⟨ht, ?_⟩
  have := (h.full.rows i' (Nat.zero_le _) hi).2.cell (j := j') (by omega)
  unfold numV at this
  rwa [if_pos (by omega)] at this
theorem OutI.new {a b : List ByteArray} {w : World} : OutI a b w.heap.size (fun _ => 0) (a.length + 1) (w.alloc (.cells (madeCells #[.slice none 0 0] (a.length + 1)) 46)) := by
  refine ⟨?_, ⟨fun k h1 h2 => by omega⟩⟩
  obtain ⟨cur, c1, c2, c3⟩ := RowK.make w (.slice none 0 0) (a.length + 1) 46
  refine ⟨cur, c1, c2, fun j hj => ?_⟩
  rw [c3 j hj]
  unfold rowV
  rw [if_neg (by omega)]
theorem BoxE.far {g : Nat} {va vb : Value} {o la : Nat} {w : World} (h : BoxE g va vb o la w) {p : Addr} (v : Value) (hg : p.block ≠ g) : BoxE g va vb o la (w.setCell p v) := by
  obtain ⟨⟨h0, h1, h2⟩, h3⟩ := h
  exact ⟨⟨by rw [World.cell?_setCell_far _ _ _ _ hg]; exact h0, by rw [World.cell?_setCell_far _ _ _ _ hg]; exact h1, by rw [World.cell?_setCell_far _ _ _ _ hg]; exact h2⟩, by simpa [World.setCell] using h3⟩
end Go.Proofs.YthgllfbigcoaiaaGreatDoor
namespace Go.Proofs.YthgllfbigcoaiaaGreatDoor
open Go Go.RowKit Go.Lib
set_option maxRecDepth 100000
theorem set3_cells {w : World} {b : Nat} {u0 u1 u2 : Value} {t : TypeId} (h : w.heap[b]? = some (.cells #[u0, u1, u2] t (0, 0))) (v0 v1 v2 : Value) :
    (((w.setCell ⟨b, 0, none⟩ v0).setCell ⟨b, 1, none⟩ v1).setCell ⟨b, 2, none⟩ v2).heap[b]? = some (.cells #[v0, v1, v2] t (0, 0)) := by
  simp [World.setCell, Array.getElem?_modify, h]
theorem three_cells {w : World} {n : Nat} {v0 v1 v2 : Value} (h0 : w.cell? ⟨n, 0, none⟩ = some v0) (h1 : w.cell? ⟨n, 1, none⟩ = some v1) (h2 : w.cell? ⟨n, 2, none⟩ = some v2) : ∀ j v, [v0, v1, v2][j]? = some v → w.cell? ((⟨n, 0, none⟩ : Addr).add j) = some v := by
  intro j v hj
  match j, hj with
  | 0, hj => simp only [List.getElem?_cons_zero, Option.some.injEq] at hj; subst hj; exact h0
  | 1, hj => simp only [List.getElem?_cons_succ, List.getElem?_cons_zero, Option.some.injEq] at hj; subst hj; exact h1
  | 2, hj => simp only [List.getElem?_cons_succ, List.getElem?_cons_zero, Option.some.injEq] at hj; subst hj; exact h2
/-- the result's cells, not yet written -/
def Res3 (g : Nat) (w : World) : Prop := w.heap[g]? = some (.cells #[.slice none 0 0, .slice none 0 0, .slice none 0 0] 78 (0, 0))
theorem Res3.step {g : Nat} {w w' : World} (hb : Below w.heap.size w w') (h : Res3 g w) : Res3 g w' := (hb.block g ((Array.getElem?_eq_some_iff.1 h).1)).trans h
theorem Res3.far {g : Nat} {w : World} (h : Res3 g w) {a : Addr} (v : Value) (hg : a.block ≠ g) : Res3 g (w.setCell a v) := (heap_setCell_other w a g v (fun e => hg e.symm)).trans h
/-- what holds all the while -/
structure Meant (w : World) (va vb : Value) (la : Nat) (wr : World) : Prop where
  below : Below w.heap.size w wr
  box : BoxE (w.heap.size + 1 + 1) va vb (w.heap.size + 1) la wr
  res : Res3 w.heap.size wr
theorem Meant.step {w : World} {va vb : Value} {la : Nat} {wr w' : World} (hb : Below wr.heap.size wr w') (h : Meant w va vb la wr) : Meant w va vb la w' := ⟨below_next h.below hb, h.box.step hb, h.res.step hb⟩
theorem Meant.far {w : World} {va vb : Value} {la : Nat} {wr : World} (h : Meant w va vb la wr) {a : Addr} (v : Value) (h0 : w.heap.size ≤ a.block) (h1 : a.block ≠ w.heap.size + 1 + 1) (h2 : a.block ≠ w.heap.size) : Meant w va vb la (wr.setCell a v) :=
  ⟨below_set h.below h0 v, h.box.far v h1, h.res.far v h2⟩
theorem far_cell {w : World} {p a : Addr} {v u : Value} (hb : a.block ≠ p.block) (h : w.cell? p = some u) : (w.setCell a v).cell? p = some u := by
  rw [World.cell?_setCell_far _ _ _ _ hb]; exact h
theorem OutI.apart {a b : List ByteArray} {o : Nat} {rb : Nat → Nat} {m : Nat} {w : World} (h : OutI a b o rb m w) {g : Nat} (hr : Res3 g w) : o ≠ g ∧ ∀ k, m ≤ k → k ≤ a.length → rb k ≠ g := by
  refine ⟨?_, fun k h1 h2 => ?_⟩
  · rintro rfl
    obtain ⟨cur, c1, _, _⟩ := h.top
    unfold Res3 at hr
    rw [hr] at c1
    simp at c1
  · rintro rfl
    obtain ⟨cur, c1, _, _⟩ := (h.full.rows k h1 h2).2
    unfold Res3 at hr
    rw [hr] at c1
    simp at c1
theorem OutI.far {a b : List ByteArray} {o : Nat} {rb : Nat → Nat} {m : Nat} {w : World} (h : OutI a b o rb m w) {g : Nat} (hg : o ≠ g ∧ ∀ k, m ≤ k → k ≤ a.length → rb k ≠ g) (i : Nat) (v : Value) : OutI a b o rb m (w.setCell ⟨g, i, none⟩ v) :=
  ⟨h.top.far v (fun e => hg.1 e.symm), ⟨fun k h1 h2 => ⟨(h.full.rows k h1 h2).1, (h.full.rows k h1 h2).2.far v (fun e => hg.2 k h1 h2 e.symm)⟩⟩⟩
set_option maxHeartbeats 8000000 in
theorem distances_any (a b : List ByteArray) (va vb : Value) (w : World) (ha : WdsAt w va a) (hb : WdsAt w vb b) (hal : a.length ≤ 512) (hbl : b.length ≤ 512) :
    Calls Tryz.prog 39 #[va, vb] w fun e w' => (∃ o rb, e = .returned (editsV va vb o a.length) ∧ TabW w' o rb a.length b.length (dL a b) (fun _ _ => True)) ∧ Below w.heap.size w w' := by
  have agE := Tryz.isAgg78
  have zgE := Tryz.sizeOf78
  have HA := Lib.hid ha
  have HB := Lib.hid hb
  obtain ⟨⟨p, cap, rfl, hl, hc, hrA⟩, hza⟩ := ha
  obtain ⟨⟨p2, cap2, rfl, hl2, hc2, hrB⟩, hzb⟩ := hb
  unfold maxLen at hc hc2
  clear hrA hrB hza hzb
  have hmo := made_out a.length (by omega)
  have hmi := made_in b.length (by omega)
  go_enter Tryz.func39, Tryz.ntmps39
  go_wp2
  clear hmo
  have hO0 : Hid (OutI a b (w.heap.size + 1) (fun _ => 0) (a.length + 1) ((((w.alloc (.cells #[.slice none 0 0, .slice none 0 0, .slice none 0 0] 78)).alloc (.cells (madeCells #[.slice none 0 0] (a.length + 1)) 46)).alloc (.cells #[.slice p a.length cap, .slice p2 b.length cap2, .slice (some ⟨w.heap.size + 1, 0, none⟩) (a.length + 1) (a.length + 1)] 78)))) := by
    have h := OutI.new (a := a) (b := b) (w := w.alloc (.cells #[.slice none 0 0, .slice none 0 0, .slice none 0 0] 78))
    rw [show (w.alloc (.cells #[.slice none 0 0, .slice none 0 0, .slice none 0 0] 78)).heap.size = w.heap.size + 1 by simp] at h
    exact h.step (below_box _)
  have hM0 : Hid (Meant w (.slice p a.length cap) (.slice p2 b.length cap2) a.length ((((w.alloc (.cells #[.slice none 0 0, .slice none 0 0, .slice none 0 0] 78)).alloc (.cells (madeCells #[.slice none 0 0] (a.length + 1)) 46)).alloc (.cells #[.slice p a.length cap, .slice p2 b.length cap2, .slice (some ⟨w.heap.size + 1, 0, none⟩) (a.length + 1) (a.length + 1)] 78)))) := by
    refine ⟨below_next (below_next (below_box _) (below_box _)) (below_box _), ?_, Res3.step (below_box _) (Res3.step (below_box _) ?_)⟩
    · have h := BoxE.new ((w.alloc (.cells #[.slice none 0 0, .slice none 0 0, .slice none 0 0] 78)).alloc (.cells (madeCells #[.slice none 0 0] (a.length + 1)) 46)) (.slice p a.length cap) (.slice p2 b.length cap2) (w.heap.size + 1) a.length 78
      rwa [show ((w.alloc (.cells #[.slice none 0 0, .slice none 0 0, .slice none 0 0] 78)).alloc (.cells (madeCells #[.slice none 0 0] (a.length + 1)) 46)).heap.size = w.heap.size + 1 + 1 by simp] at h
    · exact (MapKept.heap_alloc w _).1
  generalize (((w.alloc (.cells #[.slice none 0 0, .slice none 0 0, .slice none 0 0] 78)).alloc (.cells (madeCells #[.slice none 0 0] (a.length + 1)) 46)).alloc (.cells #[.slice p a.length cap, .slice p2 b.length cap2, .slice (some ⟨w.heap.size + 1, 0, none⟩) (a.length + 1) (a.length + 1)] 78)) = W0 at *
  go_loopw [6, 7] (fun iv _ wr => ∃ m : Nat, m ≤ a.length + 1 ∧ iv = .int .i64 ((m : Int) - 1) ∧ Hid (∃ rb, OutI a b (w.heap.size + 1) rb m wr) ∧ Hid (Meant w (.slice p a.length cap) (.slice p2 b.length cap2) a.length wr)) (fun iv _ _ => (RowKit.intOf iv + 1).toNat)
  case atStart => exact ⟨a.length + 1, by omega, by go_num, ⟨_, hO0.out⟩, hM0.out⟩
  case round =>
    obtain ⟨m, hm, rfl, HO, HM⟩ := hrel
    clear hO0 hM0
    cases m with
    | zero =>
      have x0 := HM.out.box.1.1
      have x1 := HM.out.box.1.2.1
      have x2 := HM.out.box.1.2.2
      have hr := HM.out.res
      unfold Res3 at hr
      have HR := Lib.hid hr
      have f0 : wr.frozen? ⟨w.heap.size, 0, none⟩ = false := by simp [World.frozen?, hr]
      have f1 : wr.frozen? ⟨w.heap.size, 1, none⟩ = false := by simp [World.frozen?, hr]
      have f2 : wr.frozen? ⟨w.heap.size, 2, none⟩ = false := by simp [World.frozen?, hr]
      have r0 : wr.cell? ⟨w.heap.size, 0, none⟩ = some (.slice none 0 0) := by simp [World.cell?, hr]
      have r1 : wr.cell? ⟨w.heap.size, 1, none⟩ = some (.slice none 0 0) := by simp [World.cell?, hr]
      have r2 : wr.cell? ⟨w.heap.size, 2, none⟩ = some (.slice none 0 0) := by simp [World.cell?, hr]
      clear hr
      go_wp2
      have hfin := set3_cells HR.out (.slice p a.length cap) (.slice p2 b.length cap2) (.slice (some ⟨w.heap.size + 1, 0, none⟩) (a.length + 1) (a.length + 1))
      refine bodyPost_ret (results_c (xs := [.slice p a.length cap, .slice p2 b.length cap2, .slice (some ⟨w.heap.size + 1, 0, none⟩) (a.length + 1) (a.length + 1)]) rfl rfl agE zgE (three_cells (by rw [Lib.cell_of_heap hfin]; rfl) (by rw [Lib.cell_of_heap hfin]; rfl) (by rw [Lib.cell_of_heap hfin]; rfl))) rfl ?_
      refine ⟨?_, below_set (below_set (below_set HM.out.below (Nat.le_refl _) _) (Nat.le_refl _) _) (Nat.le_refl _) _⟩
      obtain ⟨rb, ho⟩ := HO.out
      have hap := ho.apart HM.out.res
      exact ⟨w.heap.size + 1, rb, rfl, (((ho.far hap 0 _).far hap 1 _).far hap 2 _).tab⟩
    | succ k =>
      have hk : (((k + 1 : Nat) : Int) - 1) = (k : Int) := by omega
      obtain ⟨rb, ho⟩ := HO.out
      have hkl : k < a.length + 1 := by omega
      have x2 := HM.out.box.1.2.2
      have c0 := ho.top.cell hkl
      have f0 := ho.top.frozen k
      have hr0 : rowV b.length rb (k + 1) k = .slice none 0 0 := by unfold rowV; rw [if_neg (by omega)]
      rw [hr0] at c0
      rw [hk]
      have hki : (k : Int) < (a.length : Int) + 1 := by omega
      have HO1 := Lib.hid ho
      have hwb : IntKind.i64.wrap ((b.length : Int) + 1) = (b.length : Int) + 1 := by rw [IntKind.wrap_i64] <;> omega
      have hMd := HM.out
      have hen := ho.enter
      have hba := below_box (w := wr) (.cells (madeCells #[.int .i64 0] (b.length + 1)) 3)
      have hMe := hMd.step hba
      have hEn := Lib.hid hen
      have c1 := (ho.step hba).top.cell hkl
      rw [hr0] at c1
      have f1 := (ho.step hba).top.frozen k
      have x3 := (hMd.step hba).box.1.2.2
      have HME := Lib.hid hMe
      clear ho HO hr0 hen hba hMe hMd
      go_wp2
      go_region_held3 (fun w' => w'.cell? ⟨w.heap.size + 1 + 1, 2, none⟩ = some (.slice (some ⟨w.heap.size + 1, 0, none⟩) (a.length + 1) (a.length + 1)))
        (first | exact x2 | exact x3 | (go_keep; done)) (fail)
      rename_i hHeld
      clear hHeld x2 x3 c0 c1 f0 f1
      have hEl : w.heap.size + 1 + 1 < wr.heap.size := HM.out.box.2
      have hI0 : Hid (InI a b (w.heap.size + 1) (fun k_1 => if k_1 = k then wr.heap.size else rb k_1) k (b.length + 1) ((wr.alloc (.cells (madeCells #[.int .i64 0] (b.length + 1)) 3)).setCell ⟨w.heap.size + 1, k, none⟩ (.slice (some ⟨wr.heap.size, 0, none⟩) (b.length + 1) (b.length + 1))).drew) := hEn.out.step (Below.refl _ _).drew
      have hM0 : Hid (Meant w (.slice p a.length cap) (.slice p2 b.length cap2) a.length ((wr.alloc (.cells (madeCells #[.int .i64 0] (b.length + 1)) 3)).setCell ⟨w.heap.size + 1, k, none⟩ (.slice (some ⟨wr.heap.size, 0, none⟩) (b.length + 1) (b.length + 1))).drew) :=
        (HME.out.far _ (by show w.heap.size ≤ w.heap.size + 1; omega) (by show w.heap.size + 1 ≠ _; omega) (by show w.heap.size + 1 ≠ _; omega)).step (Below.refl _ _).drew
      generalize ((wr.alloc (.cells (madeCells #[.int .i64 0] (b.length + 1)) 3)).setCell ⟨w.heap.size + 1, k, none⟩ (.slice (some ⟨wr.heap.size, 0, none⟩) (b.length + 1) (b.length + 1))).drew = wi at *
      have hrk : (fun k_1 => if k_1 = k then wr.heap.size else rb k_1) k = wr.heap.size := by simp
      clear hEn HME HM HO1
      generalize (fun k_1 => if k_1 = k then wr.heap.size else rb k_1) = rb' at *
      generalize wr.heap.size = B at *
      go_wp2
      go_loopw [7] (fun jv wj => ∃ n : Nat, n ≤ b.length + 1 ∧ jv = .int .i64 ((n : Int) - 1) ∧ Hid (InI a b (w.heap.size + 1) rb' k n wj) ∧ Hid (Meant w (.slice p a.length cap) (.slice p2 b.length cap2) a.length wj)) (fun jv _ => (RowKit.intOf jv + 1).toNat)
      case atStart => exact ⟨b.length + 1, by omega, by go_num, hI0.out, hM0.out⟩
      case round =>
        obtain ⟨n, hn, rfl, HI, HM⟩ := hrel
        clear hI0 hM0
        cases n with
        | zero =>
          have HOo := Lib.hid (HI.out.leave)
          go_wp2
          go_roundw
          case rel => exact ⟨k, by omega, by go_num, ⟨_, HOo.out⟩, HM.out⟩
          case measure => simp [RowKit.intOf] <;> omega
        | succ n =>
          have hn1 : (((n + 1 : Nat) : Int) - 1) = (n : Int) := by omega
          rw [hn1]
          by_cases hla : k < a.length ∨ n < b.length
          · obtain ⟨hb4, hcost⟩ := best_dL (a := a) (b := b) (i := k) (j := n) (by omega) (by omega) hla
            have hD : ∀ i j, dL a b i j ≤ 1024 := fun i j => Nat.le_trans (dL_le a b i j) (by omega)
            have cB := fun u ha hb hT => best_any a b (.slice p a.length cap) (.slice p2 b.length cap2) (w.heap.size + 1) rb' (dL a b) k n u ha hb hT (by omega) (by omega) hal hbl hD
            have cC := fun u ha hb hT => cost_any a b (.slice p a.length cap) (.slice p2 b.length cap2) (w.heap.size + 1) rb' (dL a b) (bestN a b (dL a b) k n) k n u ha hb hT (by omega) (by omega) (by omega) hal hbl hD
            rw [hcost] at cC
            unfold editsV at cB cC
            generalize bestN a b (dL a b) k n = bs at *
            have x0 := HM.out.box.1.1
            have x1 := HM.out.box.1.2.1
            have x2 := HM.out.box.1.2.2
            have c0 := HI.out.top.cell (j := k) (by omega)
            have hrv : rowV b.length rb' k k = .slice (some ⟨B, 0, none⟩) (b.length + 1) (b.length + 1) := by unfold rowV; rw [if_pos (Nat.le_refl _), hrk]
            rw [hrv] at c0
            have hki : (k : Int) < (a.length : Int) + 1 := by omega
            have hni : (n : Int) < (b.length : Int) + 1 := by omega
            have hnl : n < b.length + 1 := by omega
            have hkl2 : k < a.length + 1 := by omega
            have hE : B ≠ w.heap.size + 1 + 1 := by omega
            have hO : B ≠ w.heap.size + 1 := by omega
            by_cases hka : (k : Int) < (a.length : Int)
            all_goals
              try have hnb : (n : Int) < (b.length : Int) := by omega
              have HId : Hid (InI a b (w.heap.size + 1) rb' k (n + 1) wr.drew) := HI.out.step (Below.refl _ _).drew
              have HMd : Hid (Meant w (.slice p a.length cap) (.slice p2 b.length cap2) a.length wr.drew) := HM.out.step (Below.refl _ _).drew
              have cBw := cB wr.drew (HA.out.step HMd.out.below) (HB.out.step HMd.out.below) HId.out.tab
              go_wp2
              go_region_held3 (fun w' => w'.cell? ⟨w.heap.size + 1 + 1, 0, none⟩ = some (.slice p a.length cap) ∧ w'.cell? ⟨w.heap.size + 1 + 1, 1, none⟩ = some (.slice p2 b.length cap2) ∧ w'.cell? ⟨w.heap.size + 1 + 1, 2, none⟩ = some (.slice (some ⟨w.heap.size + 1, 0, none⟩) (a.length + 1) (a.length + 1)) ∧ w'.cell? ⟨w.heap.size + 1, k, none⟩ = some (.slice (some ⟨B, 0, none⟩) (b.length + 1) (b.length + 1)))
                (first | exact ⟨x0, x1, x2, c0⟩ | exact ⟨far_cell hE x0, far_cell hE x1, far_cell hE x2, far_cell hO c0⟩ | (go_keep; done))
                ((go_simp; first
                  | (go_at_call 40; (with_reducible refine cBw.mono ?_); rintro e w2 ⟨rfl, hb2⟩; clear x0 x1 x2 c0 cBw; have HI2 := Lib.hid (HId.out.step hb2); have HM2 := Lib.hid (HMd.out.step hb2); have x0 := HM2.out.box.1.1; have x1 := HM2.out.box.1.2.1; have x2 := HM2.out.box.1.2.2; have c0 := HI2.out.top.cell (j := k) hkl2; rw [hrv] at c0; have cCw := cC w2 (HA.out.step HM2.out.below) (HB.out.step HM2.out.below) HI2.out.tab; clear hb2)
                  | (go_at_call 64; (with_reducible refine cCw.mono ?_); rintro e w3 ⟨rfl, hb3⟩; clear x0 x1 x2 c0 cCw; have HI3 := Lib.hid (HI2.out.step hb3); have HM3 := Lib.hid (HM2.out.step hb3); have x0 := HM3.out.box.1.1; have x1 := HM3.out.box.1.2.1; have x2 := HM3.out.box.1.2.2; have c0 := HI3.out.top.cell (j := k) hkl2; rw [hrv] at c0; have c5 := HI3.out.row.cell (j := n) hnl; rw [hrk] at c5; have f5 := HI3.out.row.frozen n; rw [hrk] at f5; clear hb3)))
              rename_i hHeld
              clear hHeld x0 x1 x2 c0 c5 f5
              have HI4 := Lib.hid (HI3.out.put)
              rw [hrk] at HI4
              have HM4 := Lib.hid (HM3.out.far (a := ⟨B, n, none⟩) (.int .i64 (dL a b k n)) (by show w.heap.size ≤ B; omega) (by show B ≠ _; omega) (by show B ≠ _; omega))
              clear HI3 HM3 HI2 HM2 HId HMd
              go_wp2
              go_roundw
              case rel => exact ⟨n, by omega, by go_num, HI4.out, HM4.out⟩
              case measure => simp [RowKit.intOf] <;> omega
          · have HIl : Hid (InI a b (w.heap.size + 1) rb' k n wr) := by
              have e1 : k = a.length := by omega
              have e2 : n = b.length := by omega
              subst e1; subst e2
              exact HI.out.last
            have i1 : ¬ (k : Int) < (a.length : Int) := by omega
            have i2 : ¬ (n : Int) < (b.length : Int) := by omega
            go_wp2
            go_roundw
            case rel => exact ⟨n, by omega, by go_num, HIl.out, HM.out⟩
            case measure => simp [RowKit.intOf] <;> omega
end Go.Proofs.YthgllfbigcoaiaaGreatDoor
namespace Go.Proofs.YthgllfbigcoaiaaGreatDoor
open Go Go.RowKit Go.Lib
set_option maxRecDepth 100000
def stepC (s : Nat) : Nat := if s = 0 then 0 else 1
/-- steps that lead from two places to both ends, and what they cost -/
inductive PathE (a b : List ByteArray) : Nat → Nat → List Nat → Nat → Prop
  | done : PathE a b a.length b.length [] 0
  | step {i j s : Nat} {xs : List Nat} {c : Nat} : s < 4 → (costV a b (dL a b) s i j).2 = true → PathE a b (aheadI s i) (aheadJ s j) xs c → PathE a b i j (s :: xs) (c + stepC s)
/-- steps that have led from both beginnings to two places -/
structure Pre (a b : List ByteArray) (xs : List Nat) (i j c : Nat) : Prop where
  path : ∀ ys c', PathE a b i j ys c' → PathE a b 0 0 (xs ++ ys) (c + c')
  cost : dL a b 0 0 = c + dL a b i j
  len : xs.length ≤ i + j
  hi : i ≤ a.length
  hj : j ≤ b.length
  small : ∀ s ∈ xs, s < 4
section
variable {a b : List ByteArray}
theorem Pre.nil : Pre a b [] 0 0 0 := ⟨fun ys c' h => by rw [Nat.zero_add]; exact h, by rw [Nat.zero_add], Nat.zero_le _, Nat.zero_le _, Nat.zero_le _, fun s h => by cases h⟩
theorem ahead_more (s i j : Nat) : i + j + 1 ≤ aheadI s i + aheadJ s j := by
  unfold aheadI aheadJ
  split <;> split <;> omega
theorem Pre.snoc {xs : List Nat} {i j c : Nat} (h : Pre a b xs i j c) (hne : i < a.length ∨ j < b.length) :
    Pre a b (xs ++ [bestN a b (dL a b) i j]) (aheadI (bestN a b (dL a b) i j) i) (aheadJ (bestN a b (dL a b) i j) j) (c + stepC (bestN a b (dL a b) i j)) := by
  obtain ⟨h4, hc⟩ := best_dL h.hi h.hj hne
  generalize bestN a b (dL a b) i j = s at *
  have hok : (costV a b (dL a b) s i j).2 = true := by rw [hc]
  have hin := cv_ok hok
  have hcost : (costV a b (dL a b) s i j).1 = (dL a b i j : Int) := by rw [hc]
  have hdL : dL a b i j = dL a b (aheadI s i) (aheadJ s j) + stepC s := by
    unfold costV at hcost
    rw [if_pos hin] at hcost
    unfold stepC
    by_cases e : s = 0
    · rw [if_pos e] at hcost ⊢
      simp only at hcost
      omega
    · rw [if_neg e] at hcost ⊢
      simp only at hcost
      omega
  refine ⟨fun ys c' hp => ?_, ?_, ?_, hin.1, hin.2, ?_⟩
  · have := h.path (s :: ys) (c' + stepC s) (.step h4 hok hp)
    rw [List.append_assoc]
    rw [show c + stepC s + c' = c + (c' + stepC s) by omega]
    exact this
  · rw [h.cost, hdL]; omega
  · rw [List.length_append, List.length_singleton]
    have := ahead_more s i j
    have := h.len
    omega
  · intro t ht
    rcases List.mem_append.1 ht with h1 | h1
    · exact h.small t h1
    · rw [List.mem_singleton.1 h1]; exact h4
theorem Pre.full {xs : List Nat} {c : Nat} (h : Pre a b xs a.length b.length c) : PathE a b 0 0 xs (dL a b 0 0) := by
  have := h.path [] 0 .done
  rw [List.append_nil] at this
  rw [h.cost, dL_end (Nat.le_refl _) (Nat.le_refl _)]
  exact this
theorem PathE.cons {i j s : Nat} {xs : List Nat} {c : Nat} (h : PathE a b i j (s :: xs) c) : s < 4 ∧ (costV a b (dL a b) s i j).2 = true ∧ ∃ c', c = c' + stepC s ∧ PathE a b (aheadI s i) (aheadJ s j) xs c' := by
  cases h with
  | step h4 hok hp => exact ⟨h4, hok, _, rfl, hp⟩
theorem PathE.nil {i j c : Nat} (h : PathE a b i j [] c) : i = a.length ∧ j = b.length ∧ c = 0 := by
  cases h
  exact ⟨rfl, rfl, rfl⟩
theorem keep_eq {i j : Nat} (h : (costV a b (dL a b) 0 i j).2 = true) : i < a.length ∧ j < b.length ∧ a.getD i ⟨#[]⟩ = b.getD j ⟨#[]⟩ := by
  have hin := cv_ok h
  have h1 : i < a.length := hin.1
  have h2 : j < b.length := hin.2
  rw [cv0 h1 h2] at h
  exact ⟨h1, h2, eqB_iff.1 h⟩
end
/-- a list of steps that the call has made itself -/
def OwnE (B : Nat) (v : Value) (xs : List Nat) (w : World) : Prop := w.ownsRow B 31 1 v xs.length (xs.map fun s : Nat => Value.int .u8 (s : Int))
theorem ownsRow_step {w w' : World} {B : Nat} {e : TypeId} {z n : Nat} {v : Value} {xs : List Value} (hb : Below w.heap.size w w') (h : w.ownsRow B e z v n xs) : w'.ownsRow B e z v n xs :=
  h.kept (row := none) ⟨hb.os, hb.tape, hb.output, hb.size, fun k hk _ => hb.block k hk⟩ (by cases v.ownBlock <;> simp)
theorem OwnE.step {B : Nat} {v : Value} {xs : List Nat} {w w' : World} (hb : Below w.heap.size w w') (h : OwnE B v xs w) : OwnE B v xs w' := ownsRow_step hb h
theorem OwnE.form {B : Nat} {v : Value} {xs : List Nat} {w : World} (h : OwnE B v xs w) : ∃ ao cap, v = .slice ao xs.length cap := by
  rcases h.2 with ⟨hv, h0⟩ | ⟨g, cap, cur, hv, _⟩
  · exact ⟨none, 0, by rw [hv, h0]⟩
  · exact ⟨_, _, hv⟩
theorem OwnE.nil (B : Nat) (w : World) : OwnE B (.slice none 0 0) [] w := World.ownsRow_nil _ _ _ _
theorem lt_of_block {w : World} {g : Nat} {o : Obj} (h : w.heap[g]? = some o) : g < w.heap.size := (Array.getElem?_eq_some_iff.1 h).1
/-- steps in a slice -/
def StepsAt (w : World) (v : Value) (xs : List Nat) : Prop := SliceAt w.heap.size w v xs.length 1 (fun i _ => .int .u8 (xs.getD i 0))
theorem StepsAt.step {w w' : World} {v : Value} {xs : List Nat} (hb : Below w.heap.size w w') (h : StepsAt w v xs) : StepsAt w' v xs := (SliceAt.below hb h).mono hb.size
theorem OwnE.at {B : Nat} {v : Value} {xs : List Nat} {w : World} (h : OwnE B v xs w) : StepsAt w v xs := by
  have hc := h
  rcases h.2 with ⟨rfl, h0⟩ | ⟨g, cap, cur, rfl, hg, hh, hn, hm, _⟩
  · exact ⟨none, 0, by rw [h0], by omega, by unfold maxLen; omega, fun h => by omega⟩
  · refine ⟨some ⟨g, 0, none⟩, cap, rfl, hn, hm, fun _ => ⟨_, rfl, lt_of_block hh, fun i j hi hj => ?_⟩⟩
    have hj0 : j = 0 := by omega
    subst hj0
    rw [Nat.mul_one, Nat.add_zero]
    refine World.ownsRow.cells hc (g := g) rfl _ _ ?_
    show _ = some (Value.int .u8 ((xs.getD i 0 : Nat) : Int))
    rw [List.getElem?_map, List.getD_eq_getElem?_getD, List.getElem?_eq_getElem hi]
    rfl
end Go.Proofs.YthgllfbigcoaiaaGreatDoor
namespace Go.Proofs.YthgllfbigcoaiaaGreatDoor
open Go Go.RowKit Go.Lib
set_option maxRecDepth 100000
theorem info_step : (Tryz.prog.info? 31).map (fun i => (i.zero, i.size, i.bytes)) = some (some (.int .u8 0), 1, 1) := by kernel_rfl
theorem cell_new1 (w : World) (u : Value) (t : TypeId) : ∀ j x, [u][j]? = some x → (w.alloc (.cells #[u] t)).cell? ((⟨w.heap.size, 0, none⟩ : Addr).add j) = some x := by
  intro j x hj
  match j, hj with
  | 0, hj => simp at hj; subst hj; simp [Addr.add]
/-- the answer of Edits -/
def EdEnd (a b : List ByteArray) (e : Ending) (w : World) : Prop := ∃ xs ao cap, e = .returned (.tuple #[.slice ao xs.length cap, .int .i64 (dL a b 0 0), .int .u8 0]) ∧ StepsAt w (.slice ao xs.length cap) xs ∧ PathE a b 0 0 xs (dL a b 0 0) ∧ xs.length ≤ 1024
set_option maxHeartbeats 8000000 in
theorem edits_any (a b : List ByteArray) (va vb : Value) (w : World) (ha : WdsAt w va a) (hb : WdsAt w vb b) (hal : a.length ≤ 512) (hbl : b.length ≤ 512) :
    Calls Tryz.prog 14 #[va, vb] w fun e w' => EdEnd a b e w' ∧ Below w.heap.size w w' := by
  obtain ⟨i0, hi, hz0, hz1, hz2⟩ := info_parts info_step
  have agE := Tryz.isAgg78
  have zgE := Tryz.sizeOf78
  have HA := Lib.hid ha
  have HB := Lib.hid hb
  have cD := distances_any a b va vb w ha hb hal hbl
  obtain ⟨⟨p, cap, rfl, hl, hc, hrA⟩, hza⟩ := ha
  obtain ⟨⟨p2, cap2, rfl, hl2, hc2, hrB⟩, hzb⟩ := hb
  unfold maxLen at hc hc2
  clear hrA hrB hza hzb
  have i1 : ¬ (512 : Int) < (a.length : Int) := by omega
  have i2 : ¬ (512 : Int) < (b.length : Int) := by omega
  unfold editsV at cD
  go_enter Tryz.func14, Tryz.ntmps14
  go_wp2_with (go_at_call 39; (with_reducible refine cD.mono ?_); rintro e w1 ⟨⟨o, rb, rfl, hT⟩, hb1⟩; have HT := Lib.hid hT; have HB1 := Lib.hid hb1; clear hT hb1)
  have hX0 : Hid (BoxE w1.heap.size (.slice p a.length cap) (.slice p2 b.length cap2) o a.length (w1.alloc (.cells #[.slice p a.length cap, .slice p2 b.length cap2, .slice (some ⟨o, 0, none⟩) (a.length + 1) (a.length + 1)] 78))) := BoxE.new w1 _ _ _ _ _
  have hT0 : Hid (TabW (w1.alloc (.cells #[.slice p a.length cap, .slice p2 b.length cap2, .slice (some ⟨o, 0, none⟩) (a.length + 1) (a.length + 1)] 78)) o rb a.length b.length (dL a b) (fun _ _ => True)) := HT.out.step (below_box _)
  have hB0 : Hid (Below w.heap.size w (w1.alloc (.cells #[.slice p a.length cap, .slice p2 b.length cap2, .slice (some ⟨o, 0, none⟩) (a.length + 1) (a.length + 1)] 78))) := below_next HB1.out (below_box _)
  clear cD HT HB1
  generalize w1.alloc (.cells #[.slice p a.length cap, .slice p2 b.length cap2, .slice (some ⟨o, 0, none⟩) (a.length + 1) (a.length + 1)] 78) = W0 at *
  generalize w1.heap.size = G at *
  have HA0 := Lib.hid (HA.out.step hB0.out)
  have HBB0 := Lib.hid (HB.out.step hB0.out)
  clear HA HB
  go_loopw [8, 9, 10, 11] (fun out iv jv _ wr => ∃ (xs : List Nat) (i j c : Nat), iv = .int .i64 i ∧ jv = .int .i64 j ∧ Hid (Pre a b xs i j c) ∧ Hid (OwnE W0.heap.size out xs wr) ∧ Hid (Below W0.heap.size W0 wr))
    (fun _ iv jv _ _ => (a.length + b.length) - ((RowKit.intOf iv).toNat + (RowKit.intOf jv).toNat))
  case atStart => exact ⟨[], 0, 0, 0, rfl, rfl, Pre.nil, OwnE.nil _ _, Below.refl _ _⟩
  case round =>
    obtain ⟨xs, i, j, c, rfl, rfl, HP, HK, HBW⟩ := hrel
    have hil := HP.out.hi
    have hjl := HP.out.hj
    have hxl := HP.out.len
    have hD : ∀ i j, dL a b i j ≤ 1024 := fun i j => Nat.le_trans (dL_le a b i j) (by omega)
    obtain ⟨ao, cpo, rfl⟩ := HK.out.form
    have HX := Lib.hid (hX0.out.step HBW.out)
    have HT := Lib.hid (hT0.out.step HBW.out)
    obtain ⟨⟨x0, x1, x2⟩, hGs⟩ := HX.out
    by_cases hne : i < a.length ∨ j < b.length
    · have hP2 := HP.out.snoc hne
      have hs4 := (best_dL hil hjl hne).1
      have cB := best_any a b (.slice p a.length cap) (.slice p2 b.length cap2) o rb (dL a b) i j wr (HA0.out.step HBW.out) (HBB0.out.step HBW.out) (HT.out.weak (fun _ _ _ _ _ => trivial)) hil hjl hal hbl hD
      unfold editsV at cB
      have cA := fun w => ahead_any (bestN a b (dL a b) i j) i j w (by omega) (by omega) (by omega)
      have hmore := ahead_more (bestN a b (dL a b) i j) i j
      have hil2 := hP2.hi
      have hjl2 := hP2.hj
      have HP2 := Lib.hid hP2
      clear hP2 HT HX
      generalize bestN a b (dL a b) i j = s at *
      generalize aheadI s i = I at *
      generalize aheadJ s j = J at *
      clear hD
      by_cases hia : (i : Int) < (a.length : Int)
      all_goals
        try have hjb : (j : Int) < (b.length : Int) := by omega
        go_wp2_with (first
          | (go_at_call 40; (with_reducible refine cB.mono ?_); rintro e w2 ⟨rfl, hb2⟩; have HB2 := Lib.hid (below_next HBW.out hb2); have HK2 := Lib.hid (HK.out.step hb2); clear hb2; have hown := HK2.out; unfold OwnE at hown; have hsz2 := HB2.out.size)
          | (go_at_call 41; (with_reducible refine (cA _).mono ?_); rintro e w5 ⟨rfl, hw⟩; obtain rfl := hw.symm)
          | (at_builtin; refine wpList_append_own _ rfl _ _ 28 rfl W0.heap.size 31 i0 (.int .u8 0) 1 1 Tryz.underlying28 hi hz0 hz1 hz2 rfl (by decide) _ _ _ rfl (hown.alloc _) ⟨w2.heap.size, 0, none⟩ 1 1 [.int .u8 s] rfl rfl (cell_new1 _ _ _) (fun x hx => by simp at hx; subst hx; rfl) (by unfold maxLen; omega) (by omega) (by simp; omega) ?_; intro v3 w3 hown3 hgrow3 hnil3
             have HB3 := Lib.hid ((HB2.out.alloc HB2.out.size (.cells #[.int .u8 s] 31)).grown hgrow3 (by simp; omega) (fun k hk => (hown.lt k hk).1))
             have HK3 := Lib.hid (show OwnE W0.heap.size v3 (xs ++ [s]) w3 by unfold OwnE; rw [List.length_append, List.map_append]; exact hown3)
             obtain ⟨ao3, cap3, rfl⟩ := HK3.out.form
             clear hown hown3 hgrow3 hnil3))
        go_roundw
        case rel => exact ⟨xs ++ [s], I, J, _, rfl, rfl, HP2.out, (by have h := HK3.out; rw [List.length_append] at h; exact h), HB3.out⟩
        case measure => simp [RowKit.intOf]; omega
    · have hi0 : i = a.length := by omega
      have hj0 : j = b.length := by omega
      subst hi0; subst hj0
      obtain ⟨y0, y1⟩ := HT.out 0 0 (Nat.zero_le _) (Nat.zero_le _) trivial
      have HPF := Lib.hid HP.out.full
      have hn0 : (0 : Int) < (a.length : Int) + 1 := by omega
      have hn1 : (0 : Int) < (b.length : Int) + 1 := by omega
      generalize hd : dL a b 0 0 = d at *
      have HDd := Lib.hid hd
      clear hX0 hT0 hd hD HT HX
      go_wp2
      go_quiet (fail)
      go_wp2
      refine bodyPost_ret (v := .tuple #[.slice ao xs.length cpo, .int .i64 d, .int .u8 0]) (by simp [results, Tryz.f14]) rfl ?_
      exact ⟨⟨xs, ao, cpo, by rw [HDd.out], HK.out.at.step (bdN _ _), by rw [HDd.out]; exact HPF.out, by omega⟩, below_next (below_next hB0.out HBW.out) (bdN _ _)⟩
end Go.Proofs.YthgllfbigcoaiaaGreatDoor
namespace Go.Proofs.YthgllfbigcoaiaaGreatDoor
open Go Go.RowKit Go.Lib
set_option maxRecDepth 100000
theorem run_app_none {P : Program} {w : World} (base : Nat) (t ty e : TypeId) (i : TypeInfo) (size : Nat) (ht : P.underlying t = some (.slice e)) (hi : P.info? e = some i)
    (v : Value) (n c : Nat) (xs : List Value) (hown : w.ownsRow base e size v n xs) :
    (Builtin.append_ #[t, t] ty #[v, .slice none 0 c]).run P w = .ok v w := by
  rcases hown.2 with ⟨rfl, rfl⟩ | ⟨g, cap, cur, rfl, _, _, hnc, _⟩
  · simp [Builtin.append_, run_underlying ht, sizeOf, typeInfo, hi, Builtin.lenOf, Builtin.firstCells]
  · simp [Builtin.append_, run_underlying ht, sizeOf, typeInfo, hi, Builtin.lenOf, Builtin.firstCells, hnc, storeCells]
/-- append to a row of the call's own, whatever the shape of what is appended -/
theorem app_any {P : Program} (w : World) {ops : Array Oper} {rest : List Oper} {o : Oper} {a : Act} {Q : Exit → Act → World → Prop} (hgd : o.guard = none) (s x : Operand) (t : TypeId)
    (ho : o.op = .call { callee := .builtin .append, args := #[s, x], argTypes := #[t, t] })
    (base : Nat) (e : TypeId) (i : TypeInfo) (z : Value) (bytes : Nat) (ht : P.underlying t = some (.slice e)) (hi : P.info? e = some i) (hz : i.zero = some z)
    (hsize : i.size = 1) (hby : i.bytes = bytes) (hzs : z.cells.size = 1)
    (v : Value) (n : Nat) (xs : List Value) (hs : a.eval s = v) (hown : w.ownsRow base e 1 v n xs)
    (ao : Option Addr) (m c : Nat) (news : List Value) (hx : a.eval x = .slice ao m c) (hl : news.length = m) (hnone : ao = none → m = 0) (hnews : ∀ ad, ao = some ad → ∀ j u, news[j]? = some u → w.cell? (ad.add j) = some u) (h1 : ∀ u ∈ news, u.oneCell' = true)
    (h63 : n + m ≤ maxLen) (hbytes : (n + m) * bytes ≤ 140737488355328) (hbase : base ≤ w.heap.size)
    (h : ∀ v' w', w'.ownsRow base e 1 v' (n + m) (xs ++ news) → w.grownBy w' v.ownBlock → wpList P ops Q rest (a.put o.dst v') w') : wpList P ops Q (o :: rest) a w := by
  cases ao with
  | some ad => exact wpList_append_own _ hgd s x t ho base e i z 1 bytes ht hi hz hsize hby hzs (by decide) v n xs hs hown ad m c news hx (by rw [hl, Nat.mul_one]) (hnews ad rfl) h1 h63 hbytes hbase (fun v' w' h1 h2 _ => h v' w' h1 h2)
  | none =>
    have hm := hnone rfl
    subst hm
    have hn0 : news = [] := List.eq_nil_of_length_eq_zero hl
    subst hn0
    refine wpList_plain hgd fun K hK => ?_
    have hrun := run_app_none (P := P) (w := w) base t o.type e i 1 ht hi v n c xs hown
    unfold Oper.wp
    simp [execOp, ho, resolve, invoke, builtin, hs, hx, hrun, Result.andThen]
    exact hK _ _ (h v w (by simpa using hown) (World.grownBy.refl _ _))
/-- words in a row of the call's own -/
def OwnS (B : Nat) (v : Value) (l : List ByteArray) (w : World) : Prop := w.ownsRow B 9 1 v l.length (l.map Value.string)
theorem OwnS.form {B : Nat} {v : Value} {l : List ByteArray} {w : World} (h : OwnS B v l w) : ∃ ao cap, v = .slice ao l.length cap := by
  rcases h.2 with ⟨hv, h0⟩ | ⟨g, cap, cur, hv, _⟩
  · exact ⟨none, 0, by rw [hv, h0]⟩
  · exact ⟨_, _, hv⟩
theorem OwnS.at {B : Nat} {v : Value} {l : List ByteArray} {w : World} (h : OwnS B v l w) (hz : ∀ s ∈ l, s.size ≤ maxLen) : WdsAt w v l := by
  refine ⟨?_, hz⟩
  have hc := h
  rcases h.2 with ⟨rfl, h0⟩ | ⟨g, cap, cur, rfl, hg, hh, hn, hm, _⟩
  · exact ⟨none, 0, by rw [h0], by omega, by unfold maxLen; omega, fun h => by omega⟩
  · refine ⟨some ⟨g, 0, none⟩, cap, rfl, hn, hm, fun _ => ⟨_, rfl, lt_of_block hh, fun i j hi hj => ?_⟩⟩
    have hj0 : j = 0 := by omega
    subst hj0
    rw [Nat.mul_one, Nat.add_zero]
    refine World.ownsRow.cells hc (g := g) rfl _ _ ?_
    show _ = some (Value.string (l.getD i ⟨#[]⟩))
    rw [List.getElem?_map, List.getD_eq_getElem?_getD, List.getElem?_eq_getElem hi]
    rfl
theorem OwnS.new (w : World) : OwnS w.heap.size (.slice (some ⟨w.heap.size, 0, none⟩) 0 0) [] (w.alloc (.cells #[] 9)) :=
  World.ownsRow_lit (base := w.heap.size) (size := 1) w #[] 0 (Nat.le_refl _) (Nat.zero_le _) rfl
/-- what an append takes from a list of words -/
theorem wds_src {w : World} {p : Option Addr} {cap : Nat} {l : List ByteArray} (h : WdsAt w (.slice p l.length cap) l) :
    (p = none → l.length = 0) ∧ ∀ ad, p = some ad → ∀ j u, (l.map Value.string)[j]? = some u → w.cell? (ad.add j) = some u := by
  obtain ⟨⟨p', cap', e, h1, h2, h3⟩, _⟩ := h
  obtain ⟨rfl, _, rfl⟩ : p = p' ∧ l.length = l.length ∧ cap = cap' := by simpa using e
  refine ⟨fun hp => ?_, fun ad hp j u hu => ?_⟩
  · rcases Nat.eq_zero_or_pos l.length with h0 | h0
    · exact h0
    · obtain ⟨A, hA, _⟩ := h3 h0
      rw [hp] at hA; cases hA
  · obtain ⟨hj, hu⟩ := List.getElem?_eq_some_iff.1 hu
    rw [List.length_map] at hj
    obtain ⟨A, hA, _, hc⟩ := h3 (by omega)
    rw [hp] at hA
    obtain rfl := Option.some.inj hA
    have := hc j 0 hj (by omega)
    rw [Nat.mul_one, Nat.add_zero] at this
    rw [this, ← hu, List.getElem_map]
    show some (Value.string (l.getD j ⟨#[]⟩)) = _
    rw [List.getD_eq_getElem?_getD, List.getElem?_eq_getElem hj]
    rfl
theorem info_word : (Tryz.prog.info? 9).map (fun i => (i.zero, i.size, i.bytes)) = some (some (.string ⟨#[]⟩), 1, 16) := by kernel_rfl
end Go.Proofs.YthgllfbigcoaiaaGreatDoor
