/- Models: what steps cost, by the program: the maps of a model. -/
import Derived.Test.YtgcglaagjplbfaaDm5
namespace Go.Proofs.Ytgcglaagjplbfaa
open Go Go.RowKit Go.Lib
set_option maxRecDepth 100000
theorem eqB_iff {a b : ByteArray} : eqB a b = true ↔ a = b := by
  unfold eqB
  constructor
  · intro h
    have h1 := eq_of_beq h
    rw [Lib.toList_data, Lib.toList_data] at h1
    cases a; cases b
    simp only at h1
    rw [Array.toList_inj.1 h1]
  · rintro rfl
    simp
/-- the last word of a list that is s -/
def lastU (l : List Un) (s : ByteArray) : Option Un := l.foldl (fun r x => if eqB x.w s = true then some x else r) none
def lastB (l : List Br) (p : ByteArray × ByteArray) : Option Br := l.foldl (fun r x => if eqB x.x p.1 = true ∧ eqB x.y p.2 = true then some x else r) none
def fU (l : List Un) (s : ByteArray) : Option Value := (lastU l s).map unV
def fB (l : List Br) (p : ByteArray × ByteArray) : Option Value := (lastB l p).map fun x => .int .i64 x.c
theorem takeU_succ {l : List Un} {k : Nat} (h : k < l.length) : l.take (k + 1) = l.take k ++ [l.getD k unNil] := by
  rw [List.getD_eq_getElem?_getD, List.getElem?_eq_getElem h]; simp
theorem takeB_succ {l : List Br} {k : Nat} (h : k < l.length) : l.take (k + 1) = l.take k ++ [l.getD k brNil] := by
  rw [List.getD_eq_getElem?_getD, List.getElem?_eq_getElem h]; simp
theorem fU_same {l : List Un} {k : Nat} (h : k < l.length) : fU (l.take (k + 1)) (l.getD k unNil).w = some (unV (l.getD k unNil)) := by
  unfold fU lastU
  rw [takeU_succ h, List.foldl_append]
  simp [eqB_iff]
theorem fU_other {l : List Un} {k : Nat} (h : k < l.length) {s : ByteArray} (hs : s ≠ (l.getD k unNil).w) : fU (l.take (k + 1)) s = fU (l.take k) s := by
  unfold fU lastU
  rw [takeU_succ h, List.foldl_append]
  have : eqB (l.getD k unNil).w s = false := by
    cases e : eqB (l.getD k unNil).w s
    · rfl
    · exact absurd (eqB_iff.1 e).symm hs
  simp only [List.foldl_cons, List.foldl_nil]
  rw [if_neg (by rw [this]; simp)]
theorem fB_same {l : List Br} {k : Nat} (h : k < l.length) : fB (l.take (k + 1)) ((l.getD k brNil).x, (l.getD k brNil).y) = some (.int .i64 (l.getD k brNil).c) := by
  unfold fB lastB
  rw [takeB_succ h, List.foldl_append]
  simp [eqB_iff]
theorem fB_other {l : List Br} {k : Nat} (h : k < l.length) {p : ByteArray × ByteArray} (hp : p ≠ ((l.getD k brNil).x, (l.getD k brNil).y)) : fB (l.take (k + 1)) p = fB (l.take k) p := by
  unfold fB lastB
  rw [takeB_succ h, List.foldl_append]
  have : ¬ (eqB (l.getD k brNil).x p.1 = true ∧ eqB (l.getD k brNil).y p.2 = true) := by
    rintro ⟨h1, h2⟩
    exact hp (by rw [eqB_iff.1 h1, eqB_iff.1 h2])
  simp only [List.foldl_cons, List.foldl_nil]
  rw [if_neg this]
/-- all blocks but two are as they were -/
structure Two (W0 wr : World) (m1 m2 : Nat) : Prop where
  os : wr.os = W0.os
  tape : wr.tape = W0.tape
  output : wr.output = W0.output
  size : W0.heap.size ≤ wr.heap.size
  block : ∀ j, j < W0.heap.size → j ≠ m1 → j ≠ m2 → wr.heap[j]? = W0.heap[j]?
theorem Two.refl (W0 : World) (m1 m2 : Nat) : Two W0 W0 m1 m2 := ⟨rfl, rfl, rfl, Nat.le_refl _, fun _ _ _ _ => rfl⟩
theorem Two.step {W0 wr w' : World} {m1 m2 : Nat} (h : Two W0 wr m1 m2) (hb : Below wr.heap.size wr w') : Two W0 w' m1 m2 :=
  ⟨hb.os.trans h.os, hb.tape.trans h.tape, hb.output.trans h.output, Nat.le_trans h.size hb.size, fun j hj h1 h2 => (hb.block j (Nat.lt_of_lt_of_le hj h.size)).trans (h.block j hj h1 h2)⟩
theorem Two.put {W0 wr w' : World} {m1 m2 m : Nat} (h : Two W0 wr m1 m2) (hg : wr.grownBy w' (some m)) (hm : m = m1 ∨ m = m2) : Two W0 w' m1 m2 :=
  ⟨hg.os.trans h.os, hg.tape.trans h.tape, hg.output.trans h.output, Nat.le_trans h.size hg.size, fun j hj h1 h2 => (hg.block j (Nat.lt_of_lt_of_le hj h.size) (by simp; rcases hm with rfl | rfl <;> assumption)).trans (h.block j hj h1 h2)⟩
theorem Two.cell {W0 wr : World} {m1 m2 : Nat} (h : Two W0 wr m1 m2) {a : Addr} (ha : a.block < W0.heap.size) (h1 : a.block ≠ m1) (h2 : a.block ≠ m2) : wr.cell? a = W0.cell? a := World.cell?_of_block (h.block _ ha h1 h2)
theorem Two.frozen {W0 wr : World} {m1 m2 : Nat} (h : Two W0 wr m1 m2) {a : Addr} (ha : a.block < W0.heap.size) (h1 : a.block ≠ m1) (h2 : a.block ≠ m2) : wr.frozen? a = W0.frozen? a := World.frozen?_of_block (h.block _ ha h1 h2)
theorem Two.below {W0 wr w : World} {m1 m2 : Nat} (h : Two W0 wr m1 m2) (hb : Below w.heap.size w W0) (h1 : w.heap.size ≤ m1) (h2 : w.heap.size ≤ m2) : Below w.heap.size w wr :=
  ⟨h.os.trans hb.os, h.tape.trans hb.tape, h.output.trans hb.output, Nat.le_trans hb.size h.size, fun j hj => (h.block j (Nat.lt_of_lt_of_le hj hb.size) (by omega) (by omega)).trans (hb.block j hj)⟩
theorem al (w : World) (o : Obj) (a : Addr) (h : a.block < w.heap.size) : (w.alloc o).cell? a = w.cell? a := (below_box o).cell h
theorem new_cell (w : World) (cs : Array Value) (t : TypeId) (j : Nat) : (w.alloc (.cells cs t)).cell? ⟨w.heap.size, j, none⟩ = cs[j]? := by simp
theorem gset (W : World) (a : Addr) (v : Value) : W.grownBy (W.setCell a v) (some a.block) := ⟨rfl, rfl, rfl, by simp [World.setCell], fun k _ hk => Below.heap_setCell _ _ _ k (fun e => hk (by rw [e]))⟩
theorem set3_cells {w : World} {b : Nat} {u0 u1 u2 : Value} {t : TypeId} (h : w.heap[b]? = some (.cells #[u0, u1, u2] t (0, 0))) (v0 v1 v2 : Value) :
    (((w.setCell ⟨b, 0, none⟩ v0).setCell ⟨b, 1, none⟩ v1).setCell ⟨b, 2, none⟩ v2).heap[b]? = some (.cells #[v0, v1, v2] t (0, 0)) := by
  simp [World.setCell, Array.getElem?_modify, h]
theorem three_cells {w : World} {n : Nat} {v0 v1 v2 : Value} (h0 : w.cell? ⟨n, 0, none⟩ = some v0) (h1 : w.cell? ⟨n, 1, none⟩ = some v1) (h2 : w.cell? ⟨n, 2, none⟩ = some v2) : ∀ j v, [v0, v1, v2][j]? = some v → w.cell? ((⟨n, 0, none⟩ : Addr).add j) = some v := by
  intro j v hj
  match j, hj with
  | 0, hj => simp only [List.getElem?_cons_zero, Option.some.injEq] at hj; subst hj; exact h0
  | 1, hj => simp only [List.getElem?_cons_succ, List.getElem?_cons_zero, Option.some.injEq] at hj; subst hj; exact h1
  | 2, hj => simp only [List.getElem?_cons_succ, List.getElem?_cons_zero, Option.some.injEq] at hj; subst hj; exact h2
theorem results_c0 {fn : Func} {p : Tmp} {ty : TypeId} (h : fn.results = #[.cell p ty]) (tmps : Array Value) (P : Program) (w : World) :
    (results fn tmps).run P w = ((asAddr (tmps.getD p undef)).run P w).andThen fun a w1 => (loadVar ty a).run P w1 := by
  simp only [results, h]
  simp [Sem.run_bind, Result.andThen]
theorem below_set {B : Nat} {w wr : World} {a : Addr} (h : Below B w wr) (ha : B ≤ a.block) (v : Value) : Below B w (wr.setCell a v) :=
  ⟨h.os, h.tape, h.output, Nat.le_trans h.size (by simp [World.setCell]), fun j hj => (Below.heap_setCell _ _ _ j (by omega)).trans (h.block j hj)⟩
theorem results_c {fn : Func} {p : Tmp} {ty : TypeId} (h : fn.results = #[.cell p ty]) {tmps : Array Value} {P : Program} {w : World} {a : Addr} {xs : List Value}
    (ha : tmps.getD p undef = .pointer (some a)) (iy : ∀ w, (isAgg ty).run P w = .ok true w) (sy : ∀ w, (sizeOf ty).run P w = .ok xs.length w)
    (cx : ∀ j v, xs[j]? = some v → w.cell? (a.add j) = some v) :
    (results fn tmps).run P w = .ok (.agg xs.toArray) w := by
  have hx := run_loadCells_list (P := P) w a xs cx
  rw [results_c0 h, ha]
  simp [Result.andThen, asAddr, loadVar, iy, sy, hx]
/-- the steps of a model, as a value -/
def stV (unk : Int) (b1 b2 : Nat) : Value := .agg #[.int .i64 unk, .map (some b1), .map (some b2)]
/-- two maps stand that tell what the steps of a model cost -/
def StAt (M : Mdl) (b1 b2 : Nat) (w : World) : Prop := MapIs κS okS w 9 b1 M.us.length (fU M.us) ∧ MapIs κP okP w 63 b2 M.bs.length (fB M.bs)
theorem StAt.step {M : Mdl} {b1 b2 : Nat} {w w' : World} (hb : Below w.heap.size w w') (h : StAt M b1 b2 w) : StAt M b1 b2 w' := ⟨h.1.step hb, h.2.step hb⟩
def StEnd (M : Mdl) (e : Ending) (w w' : World) : Prop := ∃ b1 b2, e = .returned (stV M.unk b1 b2) ∧ StAt M b1 b2 w' ∧ Below w.heap.size w w'
set_option maxHeartbeats 4000000 in
theorem stepsOf_any (M : Mdl) (w : World) (hM : MdlAt w M) (h1 : M.us.length ≤ 512) (h2 : M.bs.length ≤ 2048) : Calls Try.prog 14 #[mdlV M] w fun e w' => StEnd M e w w' := by
  obtain ⟨unk, us, bs, uv, bv⟩ := M
  obtain ⟨⟨pu, cu, hu, hul, huc, hur⟩, ⟨pb, cb, hb, hbl, hbc, hbr⟩, huz, hbz⟩ := hM
  simp only at hu hul hur hb hbl hbr huz hbz h1 h2
  subst hu hb
  unfold mdlV maxLen at *
  simp only
  have agM := Try.isAgg25
  have zgM := Try.sizeOf25
  have agU := Try.isAgg45
  have zgU := Try.sizeOf45
  have agB := Try.isAgg47
  have zgB := Try.sizeOf47
  have agS := Try.isAgg53
  have zgS := Try.sizeOf53
  have HUR := Lib.hid hur
  have HBR := Lib.hid hbr
  have HUZ := Lib.hid huz
  have HBZ := Lib.hid hbz
  clear hur hbr huz hbz
  have hmm := @run_makeMap Try.prog
  go_enter Try.func14, Try.ntmps14
  go_wp2
  have e4 : ((((w.alloc (.cells #[.int .i64 unk, .slice pu us.length cu, .slice pb bs.length cb] 25)).alloc (.cells #[.int .i64 0, .map none, .map none] 53)).alloc (.map #[] 0)).alloc (.map #[] 0)).heap.size = w.heap.size + 1 + 1 + 1 + 1 := by simp
  have c1 : (((((w.alloc (.cells #[.int .i64 unk, .slice pu us.length cu, .slice pb bs.length cb] 25)).alloc (.cells #[.int .i64 0, .map none, .map none] 53)).alloc (.map #[] 0)).alloc (.map #[] 0)).alloc (.cells #[.int .i64 unk, .map (some (w.heap.size + 1 + 1)), .map (some (w.heap.size + 1 + 1 + 1))] 53)).cell? ⟨w.heap.size, 1, none⟩ = some (.slice pu us.length cu) := by rw [al _ _ _ (by simp <;> omega), al _ _ _ (by simp <;> omega), al _ _ _ (by simp <;> omega), al _ _ _ (by simp <;> omega)]; simp
  have c2 : (((((w.alloc (.cells #[.int .i64 unk, .slice pu us.length cu, .slice pb bs.length cb] 25)).alloc (.cells #[.int .i64 0, .map none, .map none] 53)).alloc (.map #[] 0)).alloc (.map #[] 0)).alloc (.cells #[.int .i64 unk, .map (some (w.heap.size + 1 + 1)), .map (some (w.heap.size + 1 + 1 + 1))] 53)).cell? ⟨w.heap.size, 2, none⟩ = some (.slice pb bs.length cb) := by rw [al _ _ _ (by simp <;> omega), al _ _ _ (by simp <;> omega), al _ _ _ (by simp <;> omega), al _ _ _ (by simp <;> omega)]; simp
  have o0 : (((((w.alloc (.cells #[.int .i64 unk, .slice pu us.length cu, .slice pb bs.length cb] 25)).alloc (.cells #[.int .i64 0, .map none, .map none] 53)).alloc (.map #[] 0)).alloc (.map #[] 0)).alloc (.cells #[.int .i64 unk, .map (some (w.heap.size + 1 + 1)), .map (some (w.heap.size + 1 + 1 + 1))] 53)).cell? ⟨w.heap.size + 1 + 1 + 1 + 1, 0, none⟩ = some (.int .i64 unk) := by have := new_cell ((((w.alloc (.cells #[.int .i64 unk, .slice pu us.length cu, .slice pb bs.length cb] 25)).alloc (.cells #[.int .i64 0, .map none, .map none] 53)).alloc (.map #[] 0)).alloc (.map #[] 0)) #[.int .i64 unk, .map (some (w.heap.size + 1 + 1)), .map (some (w.heap.size + 1 + 1 + 1))] 53 0; rw [e4] at this; exact this
  have o1 : (((((w.alloc (.cells #[.int .i64 unk, .slice pu us.length cu, .slice pb bs.length cb] 25)).alloc (.cells #[.int .i64 0, .map none, .map none] 53)).alloc (.map #[] 0)).alloc (.map #[] 0)).alloc (.cells #[.int .i64 unk, .map (some (w.heap.size + 1 + 1)), .map (some (w.heap.size + 1 + 1 + 1))] 53)).cell? ⟨w.heap.size + 1 + 1 + 1 + 1, 1, none⟩ = some (.map (some (w.heap.size + 1 + 1))) := by have := new_cell ((((w.alloc (.cells #[.int .i64 unk, .slice pu us.length cu, .slice pb bs.length cb] 25)).alloc (.cells #[.int .i64 0, .map none, .map none] 53)).alloc (.map #[] 0)).alloc (.map #[] 0)) #[.int .i64 unk, .map (some (w.heap.size + 1 + 1)), .map (some (w.heap.size + 1 + 1 + 1))] 53 1; rw [e4] at this; exact this
  have o2 : (((((w.alloc (.cells #[.int .i64 unk, .slice pu us.length cu, .slice pb bs.length cb] 25)).alloc (.cells #[.int .i64 0, .map none, .map none] 53)).alloc (.map #[] 0)).alloc (.map #[] 0)).alloc (.cells #[.int .i64 unk, .map (some (w.heap.size + 1 + 1)), .map (some (w.heap.size + 1 + 1 + 1))] 53)).cell? ⟨w.heap.size + 1 + 1 + 1 + 1, 2, none⟩ = some (.map (some (w.heap.size + 1 + 1 + 1))) := by have := new_cell ((((w.alloc (.cells #[.int .i64 unk, .slice pu us.length cu, .slice pb bs.length cb] 25)).alloc (.cells #[.int .i64 0, .map none, .map none] 53)).alloc (.map #[] 0)).alloc (.map #[] 0)) #[.int .i64 unk, .map (some (w.heap.size + 1 + 1)), .map (some (w.heap.size + 1 + 1 + 1))] 53 2; rw [e4] at this; exact this
  have hsz : (((((w.alloc (.cells #[.int .i64 unk, .slice pu us.length cu, .slice pb bs.length cb] 25)).alloc (.cells #[.int .i64 0, .map none, .map none] 53)).alloc (.map #[] 0)).alloc (.map #[] 0)).alloc (.cells #[.int .i64 unk, .map (some (w.heap.size + 1 + 1)), .map (some (w.heap.size + 1 + 1 + 1))] 53)).heap.size = w.heap.size + 5 := by simp
  have hres : (((((w.alloc (.cells #[.int .i64 unk, .slice pu us.length cu, .slice pb bs.length cb] 25)).alloc (.cells #[.int .i64 0, .map none, .map none] 53)).alloc (.map #[] 0)).alloc (.map #[] 0)).alloc (.cells #[.int .i64 unk, .map (some (w.heap.size + 1 + 1)), .map (some (w.heap.size + 1 + 1 + 1))] 53)).heap[w.heap.size + 1]? = some (.cells #[.int .i64 0, .map none, .map none] 53 (0, 0)) := by rw [(below_box _).block _ (by simp <;> omega), (below_box _).block _ (by simp <;> omega), (below_box _).block _ (by simp <;> omega)]; have := (MapKept.heap_alloc (w.alloc (.cells #[.int .i64 unk, .slice pu us.length cu, .slice pb bs.length cb] 25)) (.cells #[.int .i64 0, .map none, .map none] 53)).1; simpa using this
  have HB := Lib.hid (below_next (below_next (below_next (below_next (below_box (w := w) (.cells #[.int .i64 unk, .slice pu us.length cu, .slice pb bs.length cb] 25)) (below_box (.cells #[.int .i64 0, .map none, .map none] 53))) (below_box (.map #[] 0))) (below_box (.map #[] 0))) (below_box (.cells #[.int .i64 unk, .map (some (w.heap.size + 1 + 1)), .map (some (w.heap.size + 1 + 1 + 1))] 53)))
  have HM1 : Hid (MapIs κS okS (((((w.alloc (.cells #[.int .i64 unk, .slice pu us.length cu, .slice pb bs.length cb] 25)).alloc (.cells #[.int .i64 0, .map none, .map none] 53)).alloc (.map #[] 0)).alloc (.map #[] 0)).alloc (.cells #[.int .i64 unk, .map (some (w.heap.size + 1 + 1)), .map (some (w.heap.size + 1 + 1 + 1))] 53)) 9 (w.heap.size + 1 + 1) 0 fun _ => none) := by
    have := ((MapIs.made (κ := κS) (ok := okS) ((w.alloc (.cells #[.int .i64 unk, .slice pu us.length cu, .slice pb bs.length cb] 25)).alloc (.cells #[.int .i64 0, .map none, .map none] 53)) 9).step (below_box (.map #[] 0))).step (below_box (.cells #[.int .i64 unk, .map (some (w.heap.size + 1 + 1)), .map (some (w.heap.size + 1 + 1 + 1))] 53))
    exact Lib.hid (by simpa using this)
  have HM2 : Hid (MapIs κP okP (((((w.alloc (.cells #[.int .i64 unk, .slice pu us.length cu, .slice pb bs.length cb] 25)).alloc (.cells #[.int .i64 0, .map none, .map none] 53)).alloc (.map #[] 0)).alloc (.map #[] 0)).alloc (.cells #[.int .i64 unk, .map (some (w.heap.size + 1 + 1)), .map (some (w.heap.size + 1 + 1 + 1))] 53)) 63 (w.heap.size + 1 + 1 + 1) 0 fun _ => none) := by
    have := (MapIs.made (κ := κP) (ok := okP) (((w.alloc (.cells #[.int .i64 unk, .slice pu us.length cu, .slice pb bs.length cb] 25)).alloc (.cells #[.int .i64 0, .map none, .map none] 53)).alloc (.map #[] 0)) 63).step (below_box (.cells #[.int .i64 unk, .map (some (w.heap.size + 1 + 1)), .map (some (w.heap.size + 1 + 1 + 1))] 53))
    exact Lib.hid (by simpa using this)
  generalize ((((w.alloc (.cells #[.int .i64 unk, .slice pu us.length cu, .slice pb bs.length cb] 25)).alloc (.cells #[.int .i64 0, .map none, .map none] 53)).alloc (.map #[] 0)).alloc (.map #[] 0)).alloc (.cells #[.int .i64 unk, .map (some (w.heap.size + 1 + 1)), .map (some (w.heap.size + 1 + 1 + 1))] 53) = W0 at c1 c2 o0 o1 o2 hsz hres HB HM1 HM2 ⊢
  obtain ⟨o, ho⟩ : ∃ o, o = w.heap.size + 1 + 1 + 1 + 1 := ⟨_, rfl⟩
  rw [← ho] at o0 o1 o2 ⊢
  obtain ⟨m2, hm2⟩ : ∃ m2, m2 = w.heap.size + 1 + 1 + 1 := ⟨_, rfl⟩
  rw [← hm2] at o2 HM2 ⊢
  obtain ⟨m1, hm1⟩ : ∃ m1, m1 = w.heap.size + 1 + 1 := ⟨_, rfl⟩
  rw [← hm1] at o1 HM1 ⊢
  obtain ⟨r, hr⟩ : ∃ r, r = w.heap.size + 1 := ⟨_, rfl⟩
  rw [← hr] at hres ⊢
  have HNUM := Lib.hid (show (r = w.heap.size + 1 ∧ m1 = w.heap.size + 1 + 1) ∧ m2 = w.heap.size + 1 + 1 + 1 ∧ o = w.heap.size + 1 + 1 + 1 + 1 ∧ W0.heap.size = w.heap.size + 5 from ⟨⟨hr, hm1⟩, hm2, ho, hsz⟩)
  clear ho hm2 hm1 hr hsz
  go_loopw [16] (fun i wr => ∃ k : Nat, k ≤ us.length ∧ i = .int .i64 k ∧ Hid (Two W0 wr m1 m2) ∧ Hid (MapIs κS okS wr 9 m1 k (fU (us.take k))) ∧ Hid (MapIs κP okP wr 63 m2 0 fun _ => none)) (fun i _ => us.length - (RowKit.intOf i).toNat)
  case atStart => exact ⟨0, Nat.zero_le _, rfl, Two.refl _ _ _, HM1.out, HM2.out⟩
  case round =>
    obtain ⟨k, hk, rfl, HT, HN1, HN2⟩ := hrel
    obtain ⟨⟨hr, hm1⟩, hm2, ho, hsz⟩ := HNUM.out
    have a1 : wr.cell? ⟨w.heap.size, 1, none⟩ = some (.slice pu us.length cu) := by rw [HT.out.cell (by show w.heap.size < W0.heap.size; omega) (by show w.heap.size ≠ m1; omega) (by show w.heap.size ≠ m2; omega)]; exact c1
    have a2 : wr.cell? ⟨w.heap.size, 2, none⟩ = some (.slice pb bs.length cb) := by rw [HT.out.cell (by show w.heap.size < W0.heap.size; omega) (by show w.heap.size ≠ m1; omega) (by show w.heap.size ≠ m2; omega)]; exact c2
    have q0 : wr.cell? ⟨o, 0, none⟩ = some (.int .i64 unk) := by rw [HT.out.cell (by show o < W0.heap.size; omega) (by show o ≠ m1; omega) (by show o ≠ m2; omega)]; exact o0
    have q1 : wr.cell? ⟨o, 1, none⟩ = some (.map (some m1)) := by rw [HT.out.cell (by show o < W0.heap.size; omega) (by show o ≠ m1; omega) (by show o ≠ m2; omega)]; exact o1
    have q2 : wr.cell? ⟨o, 2, none⟩ = some (.map (some m2)) := by rw [HT.out.cell (by show o < W0.heap.size; omega) (by show o ≠ m1; omega) (by show o ≠ m2; omega)]; exact o2
    have hwz : o < wr.heap.size := by have := HT.out.size; omega
    have hwz2 : w.heap.size < wr.heap.size := by have := HT.out.size; omega
    have hb1 : w.heap.size ≤ m1 := by omega
    have hb2 : w.heap.size ≤ m2 := by omega
    have h12 : m2 ≠ m1 := by omega
    clear hr hm1 hm2 ho hsz
    by_cases hlt : k < us.length
    · obtain ⟨A, rfl, hA, hcell⟩ := HUR.out (by omega)
      have hAb : (A.add (k * 3)).block < w.heap.size := by rw [add_block]; exact hA
      have HBQ := Lib.hid (HT.out.below HB.out hb1 hb2)
      have x0 : wr.cell? (A.add (k * 3)) = some (.string (us.getD k unNil).w) := by
        rw [HBQ.out.cell hAb]; have := hcell k 0 hlt (by omega); simpa [unF] using this
      have x1 : wr.cell? { block := (A.add (k * 3)).block, off := (A.add (k * 3)).off + 1 } = some (.int .i64 (us.getD k unNil).c) := by
        rw [HBQ.out.cell (p := { block := (A.add (k * 3)).block, off := (A.add (k * 3)).off + 1 }) hAb]; have := cell_off (by omega) (hcell k 1 hlt (by omega)); simpa [unF] using this
      have x2 : wr.cell? { block := (A.add (k * 3)).block, off := (A.add (k * 3)).off + 2 } = some (.int .i64 (us.getD k unNil).b) := by
        rw [HBQ.out.cell (p := { block := (A.add (k * 3)).block, off := (A.add (k * 3)).off + 2 }) hAb]; have := cell_off (by omega) (hcell k 2 hlt (by omega)); simpa [unF] using this
      have hwu := HUZ.out _ (un_mem hlt)
      have HS := Lib.hid (fU_same hlt)
      have HO := Lib.hid (fun s hs => fU_other hlt (s := s) hs)
      clear hcell
      generalize us.getD k unNil = x at x0 x1 x2 hwu HS HO
      obtain ⟨xw, xc, xb⟩ := x
      simp only [unV] at x0 x1 x2 hwu HS HO
      have HP1 := Lib.hid (HN1.out.step (below_box (.cells #[.string xw, .int .i64 xc, .int .i64 xb] 45)))
      have HP2 := Lib.hid (HN2.out.step (below_box (.cells #[.string xw, .int .i64 xc, .int .i64 xb] 45)))
      have HT2 := Lib.hid (HT.out.step (below_box (.cells #[.string xw, .int .i64 xc, .int .i64 xb] 45)))
      go_wp2_with (first
        | (at_mapUpdate; refine wpList_put _ rfl _ _ _ 50 rfl 9 45 keyS Try.underlying50 m1 k rfl HP1.out (by unfold maxLen; omega) xw _ rfl rfl _ (keyS_of hwu) κS_inj HS.out HO.out ?_; intro w1 hp1 hg1)
        | go_in)
      go_roundw
      case rel => exact ⟨k + 1, by omega, by go_num, HT2.out.put hg1 (.inl rfl), hp1, HP2.out.kept hg1 (by simp [h12])⟩
      case measure => simp [RowKit.intOf]; omega
    · obtain rfl : k = us.length := by omega
      go_wp2
      have hU0 := Lib.hid HN1.out
      rw [List.take_length] at hU0
      go_loopw [29] (fun i wr => ∃ k : Nat, k ≤ bs.length ∧ i = .int .i64 k ∧ Hid (Two W0 wr m1 m2) ∧ Hid (MapIs κS okS wr 9 m1 us.length (fU us)) ∧ Hid (MapIs κP okP wr 63 m2 k (fB (bs.take k)))) (fun i _ => bs.length - (RowKit.intOf i).toNat)
      case atStart => exact ⟨0, Nat.zero_le _, rfl, HT.out, hU0.out, HN2.out⟩
      case round =>
        clear a1 a2 q0 q1 q2 hwz hwz2 HT HN1 HN2 hU0
        obtain ⟨k, hk, rfl, HT, HN1, HN2⟩ := hrel
        obtain ⟨⟨hr, hm1⟩, hm2, ho, hsz⟩ := HNUM.out
        have a1 : wr.cell? ⟨w.heap.size, 1, none⟩ = some (.slice pu us.length cu) := by rw [HT.out.cell (by show w.heap.size < W0.heap.size; omega) (by show w.heap.size ≠ m1; omega) (by show w.heap.size ≠ m2; omega)]; exact c1
        have a2 : wr.cell? ⟨w.heap.size, 2, none⟩ = some (.slice pb bs.length cb) := by rw [HT.out.cell (by show w.heap.size < W0.heap.size; omega) (by show w.heap.size ≠ m1; omega) (by show w.heap.size ≠ m2; omega)]; exact c2
        have q0 : wr.cell? ⟨o, 0, none⟩ = some (.int .i64 unk) := by rw [HT.out.cell (by show o < W0.heap.size; omega) (by show o ≠ m1; omega) (by show o ≠ m2; omega)]; exact o0
        have q1 : wr.cell? ⟨o, 1, none⟩ = some (.map (some m1)) := by rw [HT.out.cell (by show o < W0.heap.size; omega) (by show o ≠ m1; omega) (by show o ≠ m2; omega)]; exact o1
        have q2 : wr.cell? ⟨o, 2, none⟩ = some (.map (some m2)) := by rw [HT.out.cell (by show o < W0.heap.size; omega) (by show o ≠ m1; omega) (by show o ≠ m2; omega)]; exact o2
        have hwz : o < wr.heap.size := by have := HT.out.size; omega
        have hwz2 : w.heap.size < wr.heap.size := by have := HT.out.size; omega
        clear hr hm1 hm2 ho hsz
        by_cases hlt : k < bs.length
        · obtain ⟨A, rfl, hA, hcell⟩ := HBR.out (by omega)
          have hAb : (A.add (k * 3)).block < w.heap.size := by rw [add_block]; exact hA
          have HBQ := Lib.hid (HT.out.below HB.out hb1 hb2)
          have x0 : wr.cell? (A.add (k * 3)) = some (.string (bs.getD k brNil).x) := by
            rw [HBQ.out.cell hAb]; have := hcell k 0 hlt (by omega); simpa [brF] using this
          have x1 : wr.cell? { block := (A.add (k * 3)).block, off := (A.add (k * 3)).off + 1 } = some (.string (bs.getD k brNil).y) := by
            rw [HBQ.out.cell (p := { block := (A.add (k * 3)).block, off := (A.add (k * 3)).off + 1 }) hAb]; have := cell_off (by omega) (hcell k 1 hlt (by omega)); simpa [brF] using this
          have x2 : wr.cell? { block := (A.add (k * 3)).block, off := (A.add (k * 3)).off + 2 } = some (.int .i64 (bs.getD k brNil).c) := by
            rw [HBQ.out.cell (p := { block := (A.add (k * 3)).block, off := (A.add (k * 3)).off + 2 }) hAb]; have := cell_off (by omega) (hcell k 2 hlt (by omega)); simpa [brF] using this
          have hwu := HBZ.out _ (br_mem hlt)
          have HS := Lib.hid (fB_same hlt)
          have HO := Lib.hid (fun p hp => fB_other hlt (p := p) hp)
          clear hcell
          generalize bs.getD k brNil = x at x0 x1 x2 hwu HS HO
          obtain ⟨xx, xy, xc⟩ := x
          simp only at x0 x1 x2 hwu HS HO
          have HP1 := Lib.hid (HN1.out.step (below_box (.cells #[.string xx, .string xy, .int .i64 xc] 47)))
          have HP2 := Lib.hid (HN2.out.step (below_box (.cells #[.string xx, .string xy, .int .i64 xc] 47)))
          have HT2 := Lib.hid (HT.out.step (below_box (.cells #[.string xx, .string xy, .int .i64 xc] 47)))
          obtain ⟨kl, hkl⟩ := keyP_of (p := (xx, xy)) hwu
          have HKL := Lib.hid hkl
          clear hkl
          go_wp2_with (first
            | (at_mapUpdate; refine wpList_put _ rfl _ _ _ 51 rfl 63 3 keyP Try.underlying51 m2 k rfl HP2.out (by unfold maxLen; omega) (xx, xy) _ rfl rfl kl HKL.out κP_inj HS.out HO.out ?_; intro w1 hp1 hg1)
            | go_in)
          go_roundw
          case rel => exact ⟨k + 1, by omega, by go_num, HT2.out.put hg1 (.inr rfl), HP1.out.kept hg1 (by simp [h12.symm]), hp1⟩
          case measure => simp [RowKit.intOf]; omega
        · obtain rfl : k = bs.length := by omega
          have hwr : wr.heap[r]? = some (.cells #[.int .i64 0, .map none, .map none] 53 (0, 0)) := by
            obtain ⟨⟨hr, hm1⟩, hm2, ho, hsz⟩ := HNUM.out
            rw [HT.out.block r (by omega) (by omega) (by omega)]; exact hres
          have r0 : wr.cell? ⟨r, 0, none⟩ = some (.int .i64 0) := by simp [World.cell?, hwr]
          have r1 : wr.cell? ⟨r, 1, none⟩ = some (.map none) := by simp [World.cell?, hwr]
          have r2 : wr.cell? ⟨r, 2, none⟩ = some (.map none) := by simp [World.cell?, hwr]
          have f0 : wr.frozen? ⟨r, 0, none⟩ = false := by simp [World.frozen?, hwr]
          have f1 : wr.frozen? ⟨r, 1, none⟩ = false := by simp [World.frozen?, hwr]
          have f2 : wr.frozen? ⟨r, 2, none⟩ = false := by simp [World.frozen?, hwr]
          go_wp2

          have hfin := set3_cells hwr (.int .i64 unk) (.map (some m1)) (.map (some m2))
          refine bodyPost_ret (results_c (xs := [.int .i64 unk, .map (some m1), .map (some m2)]) rfl rfl agS zgS (three_cells (by rw [Lib.cell_of_heap hfin]; rfl) (by rw [Lib.cell_of_heap hfin]; rfl) (by rw [Lib.cell_of_heap hfin]; rfl))) rfl ?_
          obtain ⟨⟨hr, hm1⟩, hm2, ho, hsz⟩ := HNUM.out
          have k1 : some m1 ≠ some r := by simp; omega
          have k2 : some m2 ≠ some r := by simp; omega
          have hBr := HT.out.below HB.out hb1 hb2
          have hlen : MapIs κP okP wr 63 m2 bs.length (fB bs) := by have := HN2.out; rwa [List.take_length] at this
          refine ⟨m1, m2, rfl, ⟨((HN1.out.kept (gset _ _ _) k1).kept (gset _ _ _) k1).kept (gset _ _ _) k1, ((hlen.kept (gset _ _ _) k2).kept (gset _ _ _) k2).kept (gset _ _ _) k2⟩, ?_⟩
          exact below_set (below_set (below_set hBr (by show _ ≤ r; omega) _) (by show _ ≤ r; omega) _) (by show _ ≤ r; omega) _
end Go.Proofs.Ytgcglaagjplbfaa
