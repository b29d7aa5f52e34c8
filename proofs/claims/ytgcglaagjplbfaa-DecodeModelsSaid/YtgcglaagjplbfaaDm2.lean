/- Models as data, in memory; which are valid; the order of pairs, by the program. -/
import Derived.Test.YtgcglaagjplbfaaDm1
import Derived.Deep.RegionHeld3
namespace Go.Proofs.Ytgcglaagjplbfaa
open Go Go.RowKit Go.Lib
set_option maxRecDepth 100000
theorem add_block (A : Addr) (k : Nat) : (A.add k).block = A.block := by unfold Addr.add; split <;> rfl
theorem cell_off {w : World} {a : Addr} {n d : Nat} {v : Value} (hd : 0 < d) (h : w.cell? (a.add (n + d)) = some v) : w.cell? { block := (a.add n).block, off := (a.add n).off + d } = some v := by
  have e : ({ block := (a.add n).block, off := (a.add n).off + d } : Addr) = a.add (n + d) := by
    unfold Addr.add
    by_cases h0 : n = 0
    · subst h0; simp; omega
    · simp [h0]; omega
  rw [e]; exact h
def SliceAt (B : Nat) (w : World) (v : Value) (n sz : Nat) (f : Nat → Nat → Value) : Prop :=
  ∃ (p : Option Addr) (cap : Nat), v = .slice p n cap ∧ n ≤ cap ∧ cap ≤ maxLen ∧
    (0 < n → ∃ A, p = some A ∧ A.block < B ∧ ∀ i j, i < n → j < sz → w.cell? (A.add (i * sz + j)) = some (f i j))
theorem SliceAt.below {B : Nat} {w w' : World} {v : Value} {n sz : Nat} {f : Nat → Nat → Value} (hb : Below B w w') (h : SliceAt B w v n sz f) : SliceAt B w' v n sz f := by
  obtain ⟨p, cap, e, h1, h2, h3⟩ := h
  refine ⟨p, cap, e, h1, h2, fun hn => ?_⟩
  obtain ⟨A, e, hA, hc⟩ := h3 hn
  exact ⟨A, e, hA, fun i j hi hj => by rw [hb.cell (by rw [add_block]; exact hA)]; exact hc i j hi hj⟩
theorem SliceAt.mono {B B' : Nat} {w : World} {v : Value} {n sz : Nat} {f : Nat → Nat → Value} (hB : B ≤ B') (h : SliceAt B w v n sz f) : SliceAt B' w v n sz f := by
  obtain ⟨p, cap, e, h1, h2, h3⟩ := h
  refine ⟨p, cap, e, h1, h2, fun hn => ?_⟩
  obtain ⟨A, e, hA, hc⟩ := h3 hn
  exact ⟨A, e, by omega, hc⟩
/-- what a model says of a word -/
structure Un where
  w : ByteArray
  c : Int
  b : Int
/-- what a model says of a pair -/
structure Br where
  x : ByteArray
  y : ByteArray
  c : Int
def unNil : Un := ⟨⟨#[]⟩, 0, 0⟩
def brNil : Br := ⟨⟨#[]⟩, ⟨#[]⟩, 0⟩
def unF (l : List Un) (i j : Nat) : Value := if j = 0 then .string (l.getD i unNil).w else if j = 1 then .int .i64 (l.getD i unNil).c else .int .i64 (l.getD i unNil).b
def brF (l : List Br) (i j : Nat) : Value := if j = 0 then .string (l.getD i brNil).x else if j = 1 then .string (l.getD i brNil).y else .int .i64 (l.getD i brNil).c
def unC (x : Un) : Obj := .cells #[.string x.w, .int .i64 x.c, .int .i64 x.b] 45
def brC (x : Br) : Obj := .cells #[.string x.x, .string x.y, .int .i64 x.c] 47
def brV (x : Br) : Value := .agg #[.string x.x, .string x.y, .int .i64 x.c]
def unV (x : Un) : Value := .agg #[.string x.w, .int .i64 x.c, .int .i64 x.b]
structure Mdl where
  unk : Int
  us : List Un
  bs : List Br
  uv : Value
  bv : Value
/-- a model in memory -/
structure MdlAt (w : World) (M : Mdl) : Prop where
  us : SliceAt w.heap.size w M.uv M.us.length 3 (unF M.us)
  bs : SliceAt w.heap.size w M.bv M.bs.length 3 (brF M.bs)
  uz : ∀ x ∈ M.us, x.w.size ≤ maxLen
  bz : ∀ x ∈ M.bs, x.x.size ≤ maxLen ∧ x.y.size ≤ maxLen
theorem MdlAt.step {w w' : World} {M : Mdl} (hb : Below w.heap.size w w') (h : MdlAt w M) : MdlAt w' M := ⟨(SliceAt.below hb h.us).mono hb.size, (SliceAt.below hb h.bs).mono hb.size, h.uz, h.bz⟩
def mdlV (M : Mdl) : Value := .agg #[.int .i64 M.unk, M.uv, M.bv]
def mdlC (M : Mdl) : Obj := .cells #[.int .i64 M.unk, M.uv, M.bv] 25
/-- a model's own words and pairs, one by one -/
def unB (x : Un) : Bool := placeB x.w && costB x.c && costB x.b
def brB (x : Br) : Bool := placeB x.x && placeB x.y && costB x.c
def nbU (a p : Un) : Int := if eqB a.w p.w = true then 6 else if ltB a.w p.w = true then 0 else 1
def nbB (a p : Br) : Int := if eqB a.x p.x = true then (if eqB a.y p.y = true then 6 else if ltB a.y p.y = true then 0 else 1) else if ltB a.x p.x = true then 0 else 1
def hereU (l : List Un) (i : Nat) : Int := if unB (l.getD i unNil) = false then 1 else if i = 0 then 0 else nbU (l.getD (i - 1) unNil) (l.getD i unNil)
def hereB (l : List Br) (i : Nat) : Int := if brB (l.getD i brNil) = false then 1 else if i = 0 then 0 else nbB (l.getD (i - 1) brNil) (l.getD i brNil)
/-- the first of several errors -/
def firstE (f : Nat → Int) : Nat → Int
  | 0 => 0
  | n + 1 => if firstE f n = 0 then f n else firstE f n
def checkM (M : Mdl) : Int :=
  if costB M.unk = false then 1
  else if 512 < M.us.length ∨ 2048 < M.bs.length then 3
  else if firstE (hereU M.us) M.us.length = 0 then firstE (hereB M.bs) M.bs.length else firstE (hereU M.us) M.us.length
theorem firstE_stay {f : Nat → Int} {i : Nat} {e : Int} (h0 : firstE f i = 0) (h : f i = e) (he : e ≠ 0) : ∀ n, i < n → firstE f n = e := by
  intro n hn
  induction n with
  | zero => omega
  | succ n ih =>
    by_cases e' : i = n
    · subst e'; simp only [firstE, h0, if_true, h]
    · simp only [firstE, ih (by omega), if_neg he]
theorem firstE_next {f : Nat → Int} {i : Nat} (h0 : firstE f i = 0) (h : f i = 0) : firstE f (i + 1) = 0 := by simp only [firstE, h0, if_true, h]
theorem firstE_zero {f : Nat → Int} {n : Nat} (h : firstE f n = 0) : ∀ i, i < n → f i = 0 := by
  induction n with
  | zero => intro i hi; omega
  | succ n ih =>
    intro i hi
    by_cases h0 : firstE f n = 0
    · rw [firstE, if_pos h0] at h
      by_cases e : i = n
      · subst e; exact h
      · exact ih h0 i (by omega)
    · rw [firstE, if_neg h0] at h; exact absurd h h0
theorem check_unk {M : Mdl} (h : costB M.unk = false) : checkM M = 1 := by rw [checkM, if_pos h]
theorem check_limit {M : Mdl} (h : costB M.unk = true) (h2 : 512 < M.us.length ∨ 2048 < M.bs.length) : checkM M = 3 := by
  rw [checkM, if_neg (by rw [h]; simp), if_pos h2]
theorem check_us {M : Mdl} (h : costB M.unk = true) (h2 : ¬ (512 < M.us.length ∨ 2048 < M.bs.length)) {e : Int} (h3 : firstE (hereU M.us) M.us.length = e) (he : e ≠ 0) : checkM M = e := by
  rw [checkM, if_neg (by rw [h]; simp), if_neg h2, h3, if_neg he]
theorem check_bs {M : Mdl} (h : costB M.unk = true) (h2 : ¬ (512 < M.us.length ∨ 2048 < M.bs.length)) (h3 : firstE (hereU M.us) M.us.length = 0) {e : Int} (h4 : firstE (hereB M.bs) M.bs.length = e) : checkM M = e := by
  rw [checkM, if_neg (by rw [h]; simp), if_neg h2, if_pos h3, h4]
def cmpP (a p : Br) : Int := orN (cmpN a.x p.x) (cmpN a.y p.y)
theorem cmpN_cases (a b : ByteArray) : (cmpN a b = 0 ∧ eqB a b = true) ∨ (cmpN a b = -1 ∧ eqB a b = false ∧ ltB a b = true) ∨ (cmpN a b = 1 ∧ eqB a b = false ∧ ltB a b = false) := by
  unfold cmpN
  cases he : eqB a b
  · cases hl : ltB a b <;> simp
  · have : ltB a b = false := by unfold eqB at he; unfold ltB; rw [eq_of_beq he]; exact lt_self _
    rw [this]; simp
theorem cmpP_nb (a p : Br) : (cmpP a p = 0 ∧ nbB a p = 6) ∨ (cmpP a p = -1 ∧ nbB a p = 0) ∨ (cmpP a p = 1 ∧ nbB a p = 1) := by
  unfold cmpP nbB orN
  rcases cmpN_cases a.x p.x with ⟨h, h1⟩ | ⟨h, h1, h2⟩ | ⟨h, h1, h2⟩ <;> rcases cmpN_cases a.y p.y with ⟨g, g1⟩ | ⟨g, g1, g2⟩ | ⟨g, g1, g2⟩ <;> simp [*]
set_option maxHeartbeats 2000000 in
theorem comparePairs_any (a p : Br) (w : World) : Calls Try.prog 26 #[brV a, brV p] w fun e w' => e = .returned (.int .i64 (cmpP a p)) ∧ Below w.heap.size w w' := by
  have cA := fun w => compare_any a.x p.x w
  have cB := fun w => compare_any a.y p.y w
  have cO := fun g w h0 h1 => or_any (cmpN a.x p.x) (cmpN a.y p.y) g w h0 h1
  have HS := Lib.hid (show cmpP a p = orN (cmpN a.x p.x) (cmpN a.y p.y) from rfl)
  obtain ⟨ax, ay, ac⟩ := a
  obtain ⟨px, py, pc⟩ := p
  unfold brV
  simp only at cA cB cO HS
  generalize cmpN ax px = x at cA cO HS
  generalize cmpN ay py = y at cB cO HS
  have ag := Try.isAgg47
  have zg := Try.sizeOf47
  go_enter Try.func26, Try.ntmps26
  go_wp2
  have x0 : ((w.alloc (.cells #[.string ax, .string ay, .int .i64 ac] 47)).alloc (.cells #[.string px, .string py, .int .i64 pc] 47)).cell? ⟨w.heap.size, 0, none⟩ = some (.string ax) := by simp
  have x1 : ((w.alloc (.cells #[.string ax, .string ay, .int .i64 ac] 47)).alloc (.cells #[.string px, .string py, .int .i64 pc] 47)).cell? ⟨w.heap.size, 1, none⟩ = some (.string ay) := by simp
  have y0 : ((w.alloc (.cells #[.string ax, .string ay, .int .i64 ac] 47)).alloc (.cells #[.string px, .string py, .int .i64 pc] 47)).cell? ⟨w.heap.size + 1, 0, none⟩ = some (.string px) := by simp
  have y1 : ((w.alloc (.cells #[.string ax, .string ay, .int .i64 ac] 47)).alloc (.cells #[.string px, .string py, .int .i64 pc] 47)).cell? ⟨w.heap.size + 1, 1, none⟩ = some (.string py) := by simp
  have HB := Lib.hid (below_next (below_box (w := w) (.cells #[.string ax, .string ay, .int .i64 ac] 47)) (below_box (.cells #[.string px, .string py, .int .i64 pc] 47)))
  generalize (w.alloc (.cells #[.string ax, .string ay, .int .i64 ac] 47)).alloc (.cells #[.string px, .string py, .int .i64 pc] 47) = wx at x0 x1 y0 y1 HB ⊢
  go_region_held3 (fun w' => w'.cell? ⟨w.heap.size, 0, none⟩ = some (.string ax) ∧ w'.cell? ⟨w.heap.size, 1, none⟩ = some (.string ay) ∧ w'.cell? ⟨w.heap.size + 1, 0, none⟩ = some (.string px) ∧ w'.cell? ⟨w.heap.size + 1, 1, none⟩ = some (.string py))
    (first
      | go_keep
      | (refine ⟨?_, ?_, ?_, ?_⟩ <;> simp [*]))
    (first
      | ((go_simp; go_at_call 32; (with_reducible refine (cA _).mono ?_); rintro e w3 ⟨rfl, rfl⟩))
      | ((go_simp; go_at_call 32; (with_reducible refine (cB _).mono ?_); rintro e w3 ⟨rfl, rfl⟩))
      | ((go_simp; go_at_call 31; (refine (cO _ _ ?_ ?_).mono ?_); (· simp); (· simp); rintro e w3 ⟨rfl, rfl⟩)))
  go_wp2
  go_ret
  exact ⟨ret_int HS.out.symm, (below_next HB.out (below_box _)).drew⟩
end Go.Proofs.Ytgcglaagjplbfaa
