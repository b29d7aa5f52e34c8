/- Matches of grams, as data: how many of a list are found again in another one, one by one. Grams of words, by the program: how many a list has, and the one at a place. A gram, by the program. Lists of lists of words; which are too many to be asked. A map of counts by grams, that a call makes itself. Matches of two lists, by the program. -/
import GoSem.Step
import Derived.Test.YthgllfbigcoaiaaGreatDoorProg
import Derived.WalkKit
import Derived.WalkSpells
import Derived.WalkLawsBesides
import Derived.Lib.Hide
import Derived.Deep.QuietTactic
import Derived.Deep.LoopGhost
import Derived.BigQuiet
import Derived.WalkSmall
import Derived.Sort.Walk0
import Derived.Deep.RegionHeld3
import Derived.Laws.CopyOwn
import Derived.Maps.OwnOps
import Derived.Maps.Views
import Derived.DeepKeys4
import Derived.WideKeyEntry
import Derived.Deep.RegionWith
namespace Go.Proofs.YthgllfbigcoaiaaGreatDoor
open Go
set_option maxRecDepth 100000
section
variable {G G' : Type} [DecidableEq G] [DecidableEq G']
/-- one fewer of an element -/
def lessOne (c : G → Nat) (g : G) : G → Nat := fun x => if x = g then c x - 1 else c x
/-- elements of a list are looked up one by one, and each that is found is used up -/
def mt (c : G → Nat) : List G → Nat
  | [] => 0
  | g :: r => if 0 < c g then 1 + mt (lessOne c g) r else mt c r
theorem mt_cons (c : G → Nat) (g : G) (r : List G) : mt c (g :: r) = if 0 < c g then 1 + mt (lessOne c g) r else mt c r := rfl
/-- how many of a list are an element -/
def cn (l : List G) (g : G) : Nat := l.count g
theorem cn_nil (g : G) : cn ([] : List G) g = 0 := rfl
theorem cn_cons (a : G) (l : List G) (g : G) : cn (a :: l) g = cn l g + if a = g then 1 else 0 := by
  unfold cn
  rw [List.count_cons]
  by_cases h : a = g <;> simp [h]
theorem cn_snoc (l : List G) (a g : G) : cn (l ++ [a]) g = cn l g + if a = g then 1 else 0 := by
  unfold cn
  rw [List.count_append, List.count_cons]
  by_cases h : a = g <;> simp [h]
theorem cn_pos {l : List G} {g : G} : 0 < cn l g ↔ g ∈ l := List.count_pos_iff
theorem cn_erase (l : List G) (g : G) : cn (l.erase g) = lessOne (cn l) g := by
  funext x
  unfold cn lessOne
  by_cases h : x = g
  · subst h; rw [if_pos rfl, List.count_erase_self]
  · rw [if_neg h, List.count_erase_of_ne h]
theorem mt_le (c : G → Nat) : ∀ l : List G, mt c l ≤ l.length
  | [] => Nat.le_refl _
  | g :: r => by
    rw [mt_cons]
    have h1 := mt_le (lessOne c g) r
    have h2 := mt_le c r
    simp only [List.length_cons]
    split <;> omega
/-- Both orders give the same: by the list of which elements are used up. -/
theorem mt_head : ∀ (r : List G) (l : List G) (g : G), mt (cn (g :: l)) r = if g ∈ r then 1 + mt (cn l) (r.erase g) else mt (cn l) r
  | [], l, g => by simp [mt]
  | x :: r, l, g => by
    rw [mt_cons]
    by_cases hx : x = g
    · subst hx
      have h0 : 0 < cn (x :: l) x := cn_pos.2 (List.mem_cons_self ..)
      rw [if_pos h0, if_pos (List.mem_cons_self ..), ← cn_erase]
      simp
    · have hne : ¬ g = x := fun e => hx e.symm
      have hm : (0 < cn (g :: l) x) ↔ 0 < cn l x := by rw [cn_cons, if_neg hne]; omega
      have hg : g ∈ x :: r ↔ g ∈ r := by simp [hne]
      have he : (x :: r).erase g = x :: r.erase g := by rw [List.erase_cons]; simp [hx]
      by_cases hp : 0 < cn l x
      · rw [if_pos (hm.2 hp), ← cn_erase]
        have : (g :: l).erase x = g :: l.erase x := by rw [List.erase_cons]; simp [hne]
        rw [this, mt_head r (l.erase x) g]
        by_cases hgr : g ∈ r
        · rw [if_pos hgr, if_pos (hg.2 hgr), he, mt_cons, if_pos hp, cn_erase]
        · rw [if_neg hgr, if_neg (fun h => hgr (hg.1 h)), mt_cons, if_pos hp, cn_erase]
      · rw [if_neg (fun h => hp (hm.1 h)), mt_head r l g]
        by_cases hgr : g ∈ r
        · rw [if_pos hgr, if_pos (hg.2 hgr), he, mt_cons, if_neg hp]
        · rw [if_neg hgr, if_neg (fun h => hgr (hg.1 h)), mt_cons, if_neg hp]
theorem mt_none : ∀ l : List G, mt (cn ([] : List G)) l = 0
  | [] => rfl
  | g :: r => by rw [mt_cons, if_neg (by simp [cn_nil]), mt_none r]
theorem mt_comm : ∀ a b : List G, mt (cn a) b = mt (cn b) a
  | [], b => by rw [mt_none]; rfl
  | g :: l, b => by
    rw [mt_head b l g, mt_cons]
    by_cases hg : g ∈ b
    · rw [if_pos hg, if_pos (cn_pos.2 hg), mt_comm l (b.erase g), cn_erase]
    · rw [if_neg hg, if_neg (fun h => hg (cn_pos.1 h)), mt_comm l b]
theorem mt_self : ∀ a : List G, mt (cn a) a = a.length
  | [] => rfl
  | g :: l => by
    rw [mt_head (g :: l) l g, if_pos (List.mem_cons_self ..)]
    have : (g :: l).erase g = l := by simp
    rw [this, mt_self l, List.length_cons]
    omega
/-- one element more, or fewer, makes one of difference at most -/
theorem mt_less (g : G) : ∀ (l : List G) (c : G → Nat), mt c l ≤ 1 + mt (lessOne c g) l
  | [], c => by simp [mt]
  | x :: r, c => by
    rw [mt_cons, mt_cons]
    by_cases hx : 0 < c x
    · rw [if_pos hx]
      by_cases h2 : 0 < lessOne c g x
      · rw [if_pos h2]
        have hcomm : lessOne (lessOne c g) x = lessOne (lessOne c x) g := by
          funext y
          unfold lessOne
          by_cases h1 : y = x
          · subst h1
            by_cases h2 : y = g
            · subst h2; rfl
            · simp [h2]
          · by_cases h2 : y = g
            · subst h2; simp [h1]
            · simp [h1, h2]
        rw [hcomm]
        have := mt_less g r (lessOne c x)
        omega
      · rw [if_neg h2]
        -- then x is g, and there was one
        have hxg : x = g := by
          by_cases e : x = g
          · exact e
          · exfalso; unfold lessOne at h2; rw [if_neg e] at h2; exact h2 hx
        subst hxg
        exact Nat.le_refl _
    · rw [if_neg hx]
      have h2 : ¬ 0 < lessOne c g x := by unfold lessOne; split <;> omega
      rw [if_neg h2]
      exact mt_less g r c
theorem mt_snoc (l m : List G) : ∀ c : G → Nat, mt c l ≤ mt c (l ++ m) := by
  induction l with
  | nil => intro c; exact Nat.zero_le _
  | cons x r ih =>
    intro c
    rw [List.cons_append, mt_cons, mt_cons]
    split
    · have := ih (lessOne c x); omega
    · exact ih c
/-- What is found finely is found coarsely. -/
theorem mt_map (f : G' → G) : ∀ (B : List G') (A : List G') (c : G → Nat), (∀ g, cn (A.map f) g ≤ c g) → mt (cn A) B ≤ mt c (B.map f)
  | [], _, _, _ => Nat.zero_le _
  | x :: r, A, c, h => by
    rw [List.map_cons, mt_cons, mt_cons]
    by_cases hx : 0 < cn A x
    · have hm := cn_pos.1 hx
      have hfx : 0 < cn (A.map f) (f x) := cn_pos.2 (List.mem_map_of_mem hm)
      have hc : 0 < c (f x) := Nat.lt_of_lt_of_le hfx (h _)
      rw [if_pos hx, if_pos hc, ← cn_erase]
      have key : ∀ g, cn ((A.erase x).map f) g ≤ lessOne c (f x) g := by
        intro g
        have hp : (A.map f).Perm ((x :: A.erase x).map f) := (List.perm_cons_erase hm).map f
        have h1 : cn (A.map f) g = cn ((x :: A.erase x).map f) g := hp.count_eq g
        rw [List.map_cons, cn_cons] at h1
        have h2 := h g
        unfold lessOne
        by_cases e : g = f x
        · rw [if_pos e]
          rw [if_pos e.symm] at h1
          omega
        · rw [if_neg e]
          rw [if_neg (fun e2 => e e2.symm)] at h1
          omega
      have := mt_map f r (A.erase x) (lessOne c (f x)) key
      omega
    · rw [if_neg hx]
      have h1 := mt_map f r A c h
      split
      · have := mt_less (f x) (r.map f) c
        omega
      · exact h1
theorem mt_coarse (f : G' → G) (A B : List G') (ra rb : List G) : mt (cn A) B ≤ mt (cn (A.map f ++ ra)) (B.map f ++ rb) := by
  have h1 := mt_map f B A (cn (A.map f ++ ra)) (fun g => by
    unfold cn
    rw [List.count_append]
    omega)
  exact Nat.le_trans h1 (mt_snoc _ _ _)
end
/-- a gram: four strings, empty ones behind its last one -/
structure Q4 where
  a : ByteArray
  b : ByteArray
  c : ByteArray
  d : ByteArray
  deriving DecidableEq
def q4 (l : List ByteArray) : Q4 := ⟨l.getD 0 ⟨#[]⟩, l.getD 1 ⟨#[]⟩, l.getD 2 ⟨#[]⟩, l.getD 3 ⟨#[]⟩⟩
/-- the gram of n words from a place on -/
def gq (l : List ByteArray) (n k : Nat) : Q4 := q4 ((l.drop k).take n)
def gramsQ (l : List ByteArray) (n : Nat) : List Q4 := (List.range (l.length + 1 - n)).map (gq l n)
theorem gramsQ_length (l : List ByteArray) (n : Nat) : (gramsQ l n).length = l.length + 1 - n := by simp [gramsQ]
/-- how many grams of the first list are matched by the second one's -/
def mtQ (a b : List ByteArray) (n : Nat) : Nat := mt (cn (gramsQ a n)) (gramsQ b n)
theorem mtQ_comm (a b : List ByteArray) (n : Nat) : mtQ a b n = mtQ b a n := mt_comm _ _
theorem mtQ_self (a : List ByteArray) (n : Nat) : mtQ a a n = a.length + 1 - n := by unfold mtQ; rw [mt_self, gramsQ_length]
theorem mtQ_right (a b : List ByteArray) (n : Nat) : mtQ a b n ≤ b.length + 1 - n := by have := mt_le (cn (gramsQ a n)) (gramsQ b n); rwa [gramsQ_length] at this
theorem mtQ_left (a b : List ByteArray) (n : Nat) : mtQ a b n ≤ a.length + 1 - n := by rw [mtQ_comm]; exact mtQ_right b a n
/-- a gram without its word of number n -/
def blank (n : Nat) (q : Q4) : Q4 := match n with
  | 0 => ⟨⟨#[]⟩, q.b, q.c, q.d⟩
  | 1 => ⟨q.a, ⟨#[]⟩, q.c, q.d⟩
  | 2 => ⟨q.a, q.b, ⟨#[]⟩, q.d⟩
  | _ => ⟨q.a, q.b, q.c, ⟨#[]⟩⟩
theorem getD_take {l : List ByteArray} {n i : Nat} : (l.take n).getD i ⟨#[]⟩ = if i < n then l.getD i ⟨#[]⟩ else ⟨#[]⟩ := by
  rw [List.getD_eq_getElem?_getD, List.getD_eq_getElem?_getD]
  split
  · rename_i h; rw [List.getElem?_take_of_lt h]
  · rename_i h; rw [List.getElem?_take_eq_none (by omega)]; rfl
theorem gq_blank {l : List ByteArray} {n k : Nat} (h1 : 1 ≤ n) (h3 : n ≤ 3) : blank n (gq l (n + 1) k) = gq l n k := by
  unfold gq q4
  simp only [getD_take]
  rcases (show n = 1 ∨ n = 2 ∨ n = 3 by omega) with rfl | rfl | rfl <;> simp [blank]
theorem gramsQ_more (l : List ByteArray) {n : Nat} (h1 : 1 ≤ n) (h3 : n ≤ 3) : ∃ r, gramsQ l n = (gramsQ l (n + 1)).map (blank n) ++ r := by
  unfold gramsQ
  rw [List.map_map]
  have hb : (blank n ∘ gq l (n + 1)) = gq l n := funext fun k => gq_blank h1 h3
  rw [hb]
  by_cases h : l.length + 1 ≤ n
  · exact ⟨[], by rw [show l.length + 1 - n = 0 by omega, show l.length + 1 - (n + 1) = 0 by omega]; rfl⟩
  · refine ⟨[gq l n (l.length + 1 - (n + 1))], ?_⟩
    rw [show l.length + 1 - n = (l.length + 1 - (n + 1)) + 1 by omega, List.range_succ, List.map_append]
    rfl
theorem mtQ_more (a b : List ByteArray) {n : Nat} (h1 : 1 ≤ n) (h3 : n ≤ 3) : mtQ a b (n + 1) ≤ mtQ a b n := by
  obtain ⟨ra, ha⟩ := gramsQ_more a h1 h3
  obtain ⟨rb, hb⟩ := gramsQ_more b h1 h3
  unfold mtQ
  rw [ha, hb]
  exact mt_coarse (blank n) _ _ ra rb
end Go.Proofs.YthgllfbigcoaiaaGreatDoor
namespace Go.Proofs.YthgllfbigcoaiaaGreatDoor
open Go Go.RowKit Go.Lib
set_option maxRecDepth 100000
theorem below_box {w : World} (o : Obj) : Below w.heap.size w (w.alloc o) := (Below.refl _ _).alloc (Nat.le_refl _) _
theorem below_next {w wr w' : World} (h : Below w.heap.size w wr) (hb : Below wr.heap.size wr w') : Below w.heap.size w w' := h.trans (hb.mono h.size)
theorem ret_bool {a b : Bool} (h : a = b) : Ending.returned (.bool a) = .returned (.bool b) := by rw [h]
theorem ret_int {a b : Int} (h : a = b) : Ending.returned (.int .i64 a) = .returned (.int .i64 b) := by rw [h]
theorem add_block (A : Addr) (k : Nat) : (A.add k).block = A.block := by unfold Addr.add; split <;> rfl
theorem cell_off {w : World} {a : Addr} {n d : Nat} {v : Value} (hd : 0 < d) (h : w.cell? (a.add (n + d)) = some v) : w.cell? { block := (a.add n).block, off := (a.add n).off + d } = some v := by
  have e : ({ block := (a.add n).block, off := (a.add n).off + d } : Addr) = a.add (n + d) := by
    unfold Addr.add
    by_cases h0 : n = 0
    · subst h0; simp; omega
    · simp [h0]; omega
  rw [e]; exact h
def SliceAt (B : Nat) (w : World) (v : Value) (n sz : Nat) (f : Nat → Nat → Value) : Prop :=
  ∃ (p : Option Addr) (cap : Nat), v = .slice p n cap ∧ n ≤ cap ∧ cap ≤ maxLen ∧
    (0 < n → ∃ A, p = some A ∧ A.block < B ∧ ∀ i j, i < n → j < sz → w.cell? (A.add (i * sz + j)) = some (f i j))
theorem SliceAt.below {B : Nat} {w w' : World} {v : Value} {n sz : Nat} {f : Nat → Nat → Value} (hb : Below B w w') (h : SliceAt B w v n sz f) : SliceAt B w' v n sz f := by
  obtain ⟨p, cap, e, h1, h2, h3⟩ := h
  refine ⟨p, cap, e, h1, h2, fun hn => ?_⟩
  obtain ⟨A, e, hA, hc⟩ := h3 hn
  exact ⟨A, e, hA, fun i j hi hj => by rw [hb.cell (by rw [add_block]; exact hA)]; exact hc i j hi hj⟩
theorem SliceAt.mono {B B' : Nat} {w : World} {v : Value} {n sz : Nat} {f : Nat → Nat → Value} (hB : B ≤ B') (h : SliceAt B w v n sz f) : SliceAt B' w v n sz f := by
  obtain ⟨p, cap, e, h1, h2, h3⟩ := h
  refine ⟨p, cap, e, h1, h2, fun hn => ?_⟩
  obtain ⟨A, e, hA, hc⟩ := h3 hn
  exact ⟨A, e, by omega, hc⟩
/-- a list of words -/
def wdF (l : List ByteArray) (i _j : Nat) : Value := .string (l.getD i ⟨#[]⟩)
def WdsAt (w : World) (v : Value) (l : List ByteArray) : Prop := SliceAt w.heap.size w v l.length 1 (wdF l) ∧ ∀ s ∈ l, s.size ≤ maxLen
theorem WdsAt.step {w w' : World} {v : Value} {l : List ByteArray} (hb : Below w.heap.size w w') (h : WdsAt w v l) : WdsAt w' v l := ⟨(SliceAt.below hb h.1).mono hb.size, h.2⟩
theorem WdsAt.len {w : World} {v : Value} {l : List ByteArray} (h : WdsAt w v l) : l.length ≤ maxLen := by
  obtain ⟨⟨p, cap, e, h1, h2, h3⟩, _⟩ := h
  omega
theorem wd_mem {l : List ByteArray} {k : Nat} (hk : k < l.length) : l.getD k ⟨#[]⟩ ∈ l := by
  rw [List.getD_eq_getElem?_getD, List.getElem?_eq_getElem hk]; exact List.getElem_mem hk
theorem al (w : World) (o : Obj) (a : Addr) (h : a.block < w.heap.size) : (w.alloc o).cell? a = w.cell? a := (below_box o).cell h
theorem results_c0 {fn : Func} {p : Tmp} {ty : TypeId} (h : fn.results = #[.cell p ty]) (tmps : Array Value) (P : Program) (w : World) :
    (results fn tmps).run P w = ((asAddr (tmps.getD p undef)).run P w).andThen fun a w1 => (loadVar ty a).run P w1 := by
  simp only [results, h]
  simp [Sem.run_bind, Result.andThen]
theorem results_c {fn : Func} {p : Tmp} {ty : TypeId} (h : fn.results = #[.cell p ty]) {tmps : Array Value} {P : Program} {w : World} {a : Addr} {xs : List Value}
    (ha : tmps.getD p undef = .pointer (some a)) (iy : ∀ w, (isAgg ty).run P w = .ok true w) (sy : ∀ w, (sizeOf ty).run P w = .ok xs.length w)
    (cx : ∀ j v, xs[j]? = some v → w.cell? (a.add j) = some v) :
    (results fn tmps).run P w = .ok (.agg xs.toArray) w := by
  have hx := run_loadCells_list (P := P) w a xs cx
  rw [results_c0 h, ha]
  simp [Result.andThen, asAddr, loadVar, iy, sy, hx]
theorem four_cells {w : World} {n : Nat} {v0 v1 v2 v3 : Value} (h0 : w.cell? ⟨n, 0, none⟩ = some v0) (h1 : w.cell? ⟨n, 1, none⟩ = some v1) (h2 : w.cell? ⟨n, 2, none⟩ = some v2) (h3 : w.cell? ⟨n, 3, none⟩ = some v3) : ∀ j v, [v0, v1, v2, v3][j]? = some v → w.cell? ((⟨n, 0, none⟩ : Addr).add j) = some v := by
  intro j v hj
  match j, hj with
  | 0, hj => simp only [List.getElem?_cons_zero, Option.some.injEq] at hj; subst hj; exact h0
  | 1, hj => simp only [List.getElem?_cons_succ, List.getElem?_cons_zero, Option.some.injEq] at hj; subst hj; exact h1
  | 2, hj => simp only [List.getElem?_cons_succ, List.getElem?_cons_zero, Option.some.injEq] at hj; subst hj; exact h2
  | 3, hj => simp only [List.getElem?_cons_succ, List.getElem?_cons_zero, Option.some.injEq] at hj; subst hj; exact h3
/-- how many grams of n words a list has, as the program reckons -/
def gramsN (len : Nat) (n : Int) : Int := max 0 ((len : Int) - n + 1)
set_option maxHeartbeats 1000000 in
theorem gramsIn_any (l : List ByteArray) (v : Value) (n : Int) (w : World) (hv : WdsAt w v l) (h1 : 1 ≤ n) (h4 : n ≤ 4) : Calls Tryz.prog 35 #[v, .int .i64 n] w fun e w' => e = .returned (.int .i64 (gramsN l.length n)) ∧ w' = w := by
  obtain ⟨⟨p, cap, rfl, hl, hc, hrow⟩, hz⟩ := hv
  unfold maxLen at hc
  clear hrow hz
  have HG := Lib.hid (show gramsN l.length n = max 0 ((l.length : Int) - n + 1) from rfl)
  by_cases hg : 0 ≤ (l.length : Int) - n + 1
  all_goals
    go_enter Tryz.func35, Tryz.ntmps35
    go_wp2
    go_ret
    exact ⟨ret_int (by rw [HG.out]), rfl⟩
/-- a gram as a value -/
def κQ (q : Q4) : Value := .agg #[.string q.a, .string q.b, .string q.c, .string q.d]
end Go.Proofs.YthgllfbigcoaiaaGreatDoor
namespace Go.Proofs.YthgllfbigcoaiaaGreatDoor
open Go Go.RowKit Go.Lib
set_option maxRecDepth 100000
theorem qd (l : List ByteArray) (k n i : Nat) (h : i < n) : ((l.drop k).take n).getD i ⟨#[]⟩ = l.getD (k + i) ⟨#[]⟩ := by
  rw [getD_take, if_pos h, List.getD_eq_getElem?_getD, List.getD_eq_getElem?_getD, List.getElem?_drop]
theorem qd0 (l : List ByteArray) (k n i : Nat) (h : ¬ i < n) : ((l.drop k).take n).getD i ⟨#[]⟩ = ⟨#[]⟩ := by
  rw [getD_take, if_neg h]
theorem set4_cells {w : World} {b : Nat} {u0 u1 u2 u3 : Value} {t : TypeId} (h : w.heap[b]? = some (.cells #[u0, u1, u2, u3] t (0, 0))) (v0 v1 v2 v3 : Value) :
    ((((w.setCell ⟨b, 0, none⟩ v0).setCell ⟨b, 1, none⟩ v1).setCell ⟨b, 2, none⟩ v2).setCell ⟨b, 3, none⟩ v3).heap[b]? = some (.cells #[v0, v1, v2, v3] t (0, 0)) := by
  simp [World.setCell, Array.getElem?_modify, h]
theorem below_set {B : Nat} {w wr : World} {a : Addr} (h : Below B w wr) (ha : B ≤ a.block) (v : Value) : Below B w (wr.setCell a v) :=
  ⟨h.os, h.tape, h.output, Nat.le_trans h.size (by simp [World.setCell]), fun j hj => (Below.heap_setCell _ _ _ j (by omega)).trans (h.block j hj)⟩
set_option maxHeartbeats 4000000 in
theorem gramAt_any (l : List ByteArray) (v : Value) (k n : Nat) (w : World) (hv : WdsAt w v l) (h1 : 1 ≤ n) (h4 : n ≤ 4) (hk : k + n ≤ l.length) (hl5 : l.length ≤ 512) :
    Calls Tryz.prog 36 #[v, .int .i64 k, .int .i64 n] w fun e w' => e = .returned (κQ (gq l n k)) ∧ Below w.heap.size w w' := by
  obtain ⟨⟨p, cap, rfl, hl, hc, hrow⟩, hz⟩ := hv
  obtain ⟨A, rfl, hA, hcell⟩ := hrow (by omega)
  unfold maxLen at hc
  clear hz hrow
  have agG := Tryz.isAgg74
  have zgG := Tryz.sizeOf74
  have HQ := Lib.hid (show κQ (gq l n k) = .agg #[.string (((l.drop k).take n).getD 0 ⟨#[]⟩), .string (((l.drop k).take n).getD 1 ⟨#[]⟩), .string (((l.drop k).take n).getD 2 ⟨#[]⟩), .string (((l.drop k).take n).getD 3 ⟨#[]⟩)] from rfl)
  go_enter Tryz.func36, Tryz.ntmps36
  go_wp2
  have HB : Hid (Below w.heap.size w ((w.alloc (.cells #[.string ⟨#[]⟩, .string ⟨#[]⟩, .string ⟨#[]⟩, .string ⟨#[]⟩] 74)).alloc (.cells #[.string ⟨#[]⟩, .string ⟨#[]⟩, .string ⟨#[]⟩, .string ⟨#[]⟩] 74))) := below_next (below_box _) (below_box _)
  have hg : ((w.alloc (.cells #[.string ⟨#[]⟩, .string ⟨#[]⟩, .string ⟨#[]⟩, .string ⟨#[]⟩] 74)).alloc (.cells #[.string ⟨#[]⟩, .string ⟨#[]⟩, .string ⟨#[]⟩, .string ⟨#[]⟩] 74)).heap[w.heap.size + 1]? = some (.cells #[.string ⟨#[]⟩, .string ⟨#[]⟩, .string ⟨#[]⟩, .string ⟨#[]⟩] 74 (0, 0)) := by
    have := (MapKept.heap_alloc (w.alloc (.cells #[.string ⟨#[]⟩, .string ⟨#[]⟩, .string ⟨#[]⟩, .string ⟨#[]⟩] 74)) (.cells #[.string ⟨#[]⟩, .string ⟨#[]⟩, .string ⟨#[]⟩, .string ⟨#[]⟩] 74)).1
    simpa using this
  have hg0 : ((w.alloc (.cells #[.string ⟨#[]⟩, .string ⟨#[]⟩, .string ⟨#[]⟩, .string ⟨#[]⟩] 74)).alloc (.cells #[.string ⟨#[]⟩, .string ⟨#[]⟩, .string ⟨#[]⟩, .string ⟨#[]⟩] 74)).heap[w.heap.size]? = some (.cells #[.string ⟨#[]⟩, .string ⟨#[]⟩, .string ⟨#[]⟩, .string ⟨#[]⟩] 74 (0, 0)) := by
    rw [(below_box _).block _ (by simp)]
    exact (MapKept.heap_alloc w (.cells #[.string ⟨#[]⟩, .string ⟨#[]⟩, .string ⟨#[]⟩, .string ⟨#[]⟩] 74)).1
  generalize (w.alloc (.cells #[.string ⟨#[]⟩, .string ⟨#[]⟩, .string ⟨#[]⟩, .string ⟨#[]⟩] 74)).alloc (.cells #[.string ⟨#[]⟩, .string ⟨#[]⟩, .string ⟨#[]⟩, .string ⟨#[]⟩] 74) = W at *
  have hkc : ¬ cap = k := by omega
  have hwr : IntKind.i64.wrap ((k : Int) + (n : Int)) = (k : Int) + (n : Int) := by rw [IntKind.wrap_i64] <;> omega
  have hb0 : (0 : Int) ≤ (k : Int) + (n : Int) := by omega
  have hb1 : (k : Int) + (n : Int) ≤ (cap : Int) := by omega
  have hb2 : ((k : Int) + (n : Int)).toNat = k + n := by omega
  have hb3 : k + n - k = n := by omega
  have hb4 : k ≤ k + n := by omega
  have HG := Lib.hid hg
  have HG0 := Lib.hid hg0
  obtain ⟨cs, hcs⟩ : ∃ cs, cs = (List.range n).map fun i => Value.string (l.getD (k + i) ⟨#[]⟩) := ⟨_, rfl⟩
  have hcl : cs.length = n := by rw [hcs]; simp
  have hcc : Hid (∀ j v, cs[j]? = some v → W.drew.cell? ((A.add k).add j) = some v) := by
    show ∀ j v, cs[j]? = some v → W.drew.cell? ((A.add k).add j) = some v
    intro j v hj
    rw [hcs] at hj
    simp only [List.getElem?_map, Option.map_eq_some_iff] at hj
    obtain ⟨i, hi, rfl⟩ := hj
    obtain ⟨hjn, rfl⟩ := List.getElem?_eq_some_iff.1 hi
    have hjn' : j < n := by simpa using hjn
    rw [List.getElem_range, Addr.add_add]
    have h9 := hcell (k + j) 0 (by omega) (by omega)
    rw [Nat.mul_one, Nat.add_zero] at h9
    have : W.drew.cell? (A.add (k + j)) = w.cell? (A.add (k + j)) := HB.out.cell (by rw [add_block]; exact hA)
    rw [this]; exact h9
  have hone : ∀ v ∈ cs, v.oneCell' = true := by
    intro v hv
    rw [hcs] at hv
    obtain ⟨i, _, rfl⟩ := List.mem_map.1 hv
    rfl
  have HC := Lib.hid hcs
  clear hcell hcs hg hg0
  go_region_law (refine step_copy_splice rfl (.tmp 8) (.tmp 14) 22 22 rfl 9 Tryz.underlying22 (by kernel_rfl) (some ⟨w.heap.size + 1, 0, none⟩) (some (A.add k)) 4 4 n (cap - k) rfl rfl (w.heap.size + 1) 0 [.string ⟨#[]⟩, .string ⟨#[]⟩, .string ⟨#[]⟩, .string ⟨#[]⟩] 74 HG.out cs (by rw [hcl]; exact (Nat.min_eq_left h4).symm) (fun _ => ⟨rfl, _, rfl, hcc.out⟩) (by rw [hcl]; simpa using h4) hone (w.heap.size + 1) W.drew (Below.refl _ _) (Nat.le_refl _) ?_; intro w4 hg4 hb9)
  have hw0 : w4.heap[w.heap.size]? = some (.cells #[.string ⟨#[]⟩, .string ⟨#[]⟩, .string ⟨#[]⟩, .string ⟨#[]⟩] 74 (0, 0)) := (hb9.block _ (Nat.lt_succ_self _)).trans HG0.out
  have HB4 := Lib.hid (HB.out.drew.trans (hb9.mono (Nat.le_succ _)))
  have hg5 := hg4.out
  rw [HC.out] at hg5
  have HW0 := Lib.hid hw0
  clear hb9 hg4 HC hcc hone hcl HG HG0 HB hb0 hb1 hb2 hb3 hb4 hwr hkc
  have f0 : w4.frozen? ⟨w.heap.size, 0, none⟩ = false := by simp [World.frozen?, hw0]
  have f1 : w4.frozen? ⟨w.heap.size, 1, none⟩ = false := by simp [World.frozen?, hw0]
  have f2 : w4.frozen? ⟨w.heap.size, 2, none⟩ = false := by simp [World.frozen?, hw0]
  have f3 : w4.frozen? ⟨w.heap.size, 3, none⟩ = false := by simp [World.frozen?, hw0]
  have r0 : w4.cell? ⟨w.heap.size, 0, none⟩ = some (.string ⟨#[]⟩) := by simp [World.cell?, hw0]
  have r1 : w4.cell? ⟨w.heap.size, 1, none⟩ = some (.string ⟨#[]⟩) := by simp [World.cell?, hw0]
  have r2 : w4.cell? ⟨w.heap.size, 2, none⟩ = some (.string ⟨#[]⟩) := by simp [World.cell?, hw0]
  have r3 : w4.cell? ⟨w.heap.size, 3, none⟩ = some (.string ⟨#[]⟩) := by simp [World.cell?, hw0]
  obtain ⟨s0, s1, s2, s3, hs, hg6⟩ : ∃ s0 s1 s2 s3 : ByteArray, Hid (κQ (gq l n k) = .agg #[.string s0, .string s1, .string s2, .string s3]) ∧ w4.heap[w.heap.size + 1]? = some (.cells #[.string s0, .string s1, .string s2, .string s3] 74 (0, 0)) := by
    refine ⟨_, _, _, _, HQ.out, ?_⟩
    rw [hg5]
    rcases (show n = 1 ∨ n = 2 ∨ n = 3 ∨ n = 4 by omega) with rfl | rfl | rfl | rfl <;> simp [splice, List.range_succ, List.getElem?_drop, List.getElem?_take]
  clear hg5 HQ
  have q0 : w4.cell? ⟨w.heap.size + 1, 0, none⟩ = some (.string s0) := by simp [World.cell?, hg6]
  have q1 : w4.cell? ⟨w.heap.size + 1, 1, none⟩ = some (.string s1) := by simp [World.cell?, hg6]
  have q2 : w4.cell? ⟨w.heap.size + 1, 2, none⟩ = some (.string s2) := by simp [World.cell?, hg6]
  have q3 : w4.cell? ⟨w.heap.size + 1, 3, none⟩ = some (.string s3) := by simp [World.cell?, hg6]
  clear hg6 hw0
  go_wp2
  have hfin := set4_cells HW0.out (.string s0) (.string s1) (.string s2) (.string s3)
  refine bodyPost_ret (results_c (xs := [.string s0, .string s1, .string s2, .string s3]) rfl rfl agG zgG (four_cells (by rw [Lib.cell_of_heap hfin]; rfl) (by rw [Lib.cell_of_heap hfin]; rfl) (by rw [Lib.cell_of_heap hfin]; rfl) (by rw [Lib.cell_of_heap hfin]; rfl))) rfl ?_
  exact ⟨by rw [hs.out], below_set (below_set (below_set (below_set HB4.out (Nat.le_refl _) _) (Nat.le_refl _) _) (Nat.le_refl _) _) (Nat.le_refl _) _⟩
end Go.Proofs.YthgllfbigcoaiaaGreatDoor
namespace Go.Proofs.YthgllfbigcoaiaaGreatDoor
open Go Go.RowKit Go.Lib
set_option maxRecDepth 100000
def BoolEnd (e : Ending) : Prop := ∃ b : Bool, e = .returned (.bool b)
/-- lists of words in a slice -/
def noList : Value × List ByteArray := (.nilIface, [])
def ListsAt (w : World) (v : Value) (ls : List (Value × List ByteArray)) : Prop := SliceAt w.heap.size w v ls.length 1 (fun i _ => (ls.getD i noList).1) ∧ ∀ x ∈ ls, WdsAt w x.1 x.2
theorem ListsAt.step {w w' : World} {v : Value} {ls : List (Value × List ByteArray)} (hb : Below w.heap.size w w') (h : ListsAt w v ls) : ListsAt w' v ls := ⟨(SliceAt.below hb h.1).mono hb.size, fun x hx => (h.2 x hx).step hb⟩
theorem ls_mem {ls : List (Value × List ByteArray)} {k : Nat} (hk : k < ls.length) : ls.getD k noList ∈ ls := by
  rw [List.getD_eq_getElem?_getD, List.getElem?_eq_getElem hk]; exact List.getElem_mem hk
set_option maxHeartbeats 8000000 in
theorem many_any (ls : List (Value × List ByteArray)) (v : Value) (w : World) (h : ListsAt w v ls) : Calls Tryz.prog 10 #[v] w fun e w' => BoolEnd e ∧ w' = w := by
  obtain ⟨⟨p, cap, rfl, hl, hc, hrow⟩, hz⟩ := h
  unfold maxLen at hc
  have HR := Lib.hid hrow
  have HZ := Lib.hid hz
  clear hrow hz
  go_enter Tryz.func10, Tryz.ntmps10
  go_wp2
  go_loop [3, 4] (fun n i => ∃ (k : Nat) (z : Int), k ≤ ls.length ∧ i = .int .i64 k ∧ n = .int .i64 z) (fun _ i => ls.length - (RowKit.intOf i).toNat)
  case atStart => exact ⟨0, 0, Nat.zero_le _, rfl, rfl⟩
  case round =>
    obtain ⟨k, z, hk, rfl, rfl⟩ := hrel
    by_cases hlt : k < ls.length
    · obtain ⟨A, rfl, hA, hcell⟩ := HR.out (by omega)
      have hx := HZ.out _ (ls_mem hlt)
      have x0 : w.cell? (A.add k) = some (ls.getD k noList).1 := by
        have := hcell k 0 hlt (by omega)
        rwa [Nat.mul_one, Nat.add_zero] at this
      clear hcell
      obtain ⟨⟨q, cap2, hq, hl2, hc2, hrow2⟩, hz2⟩ := hx
      rw [hq] at x0
      clear hq
      generalize (ls.getD k noList).2 = L at *
      unfold maxLen at hc2
      have HR2 := Lib.hid hrow2
      clear hrow2 hz2
      rcases (show L.length ≤ 40 ∨ (40 < L.length ∧ L.length ≤ 512) ∨ (512 < L.length ∧ L.length ≤ 600) ∨ 600 < L.length by omega) with h1 | ⟨h1, h2⟩ | ⟨h1, h2⟩ | h1
      case inr.inl =>
        have i1 : (40 : Int) < (L.length : Int) := by omega
        have i2 : (L.length : Int) ≤ 512 := by omega
        go_wp2
        go_ret
        exact ⟨⟨_, rfl⟩, rfl⟩
      case inr.inr.inr =>
        have i1 : (40 : Int) < (L.length : Int) := by omega
        have i2 : ¬ (L.length : Int) ≤ 512 := by omega
        have i3 : (600 : Int) < (L.length : Int) := by omega
        go_wp2
        go_ret
        exact ⟨⟨_, rfl⟩, rfl⟩
      all_goals
        have i3 : ¬ (600 : Int) < (L.length : Int) := by omega
        first
          | (have i1 : ¬ (40 : Int) < (L.length : Int) := by omega)
          | (have i1 : (40 : Int) < (L.length : Int) := by omega
             have i2 : ¬ (L.length : Int) ≤ 512 := by omega)
        go_wp2
        go_loop [3, 5] (fun n i => ∃ (m : Nat) (z : Int), m ≤ L.length ∧ i = .int .i64 m ∧ n = .int .i64 z) (fun _ i => L.length - (RowKit.intOf i).toNat)
        case atStart => exact ⟨0, z, Nat.zero_le _, rfl, rfl⟩
        case round =>
          obtain ⟨m, z2, hm, rfl, rfl⟩ := hrel
          by_cases hlt2 : m < L.length
          · obtain ⟨A2, rfl, hA2, hcell2⟩ := HR2.out (by omega)
            have y0 : w.cell? (A2.add m) = some (.string (L.getD m ⟨#[]⟩)) := by
              have := hcell2 m 0 hlt2 (by omega)
              rwa [Nat.mul_one, Nat.add_zero] at this
            clear hcell2
            generalize L.getD m ⟨#[]⟩ = xw at y0
            go_wp2
            go_round
            case rel => exact ⟨m + 1, _, by omega, by go_num, rfl⟩
            case measure => simp [RowKit.intOf]; omega
          · go_wp2
            go_round
            case rel => exact ⟨k + 1, _, by omega, by go_num, rfl⟩
            case measure => simp [RowKit.intOf]; omega
    · go_wp2
      go_ret
      exact ⟨⟨_, rfl⟩, rfl⟩
end Go.Proofs.YthgllfbigcoaiaaGreatDoor
namespace Go.Proofs.YthgllfbigcoaiaaGreatDoor
open Go Go.RowKit Go.Lib
set_option maxRecDepth 100000
/-- how an element reads: as itself -/
def heldR (v : Value) : Option (DataW Value × List MemPlace) := some (.held v, [])
/-- a block is a map that finds what f says -/
def MapIs {α : Type} (κ : α → Value) (ok : α → Prop) (w : World) (k : TypeId) (b n : Nat) (f : α → Option Value) : Prop :=
  ∃ D : DataW Value, w.ownsMap Tryz.prog k heldR b n D ∧ Maps.IsMap D ∧ ∀ a kl, ok a → keyOf Tryz.prog k (κ a) = some kl → ∀ zd, D.atKey kl zd = match f a with | some v => .held v | none => zd
section
variable {α : Type} {κ : α → Value} {ok : α → Prop} {w : World} {k : TypeId} {b n : Nat} {f : α → Option Value}
theorem MapIs.made (w : World) (k : TypeId) : MapIs κ ok (w.alloc (.map #[] 0)) k w.heap.size 0 fun _ => none :=
  ⟨_, World.ownsMap_made w _ k heldR, ⟨_, rfl⟩, fun _ _ _ _ _ => rfl⟩
theorem MapIs.lt (h : MapIs κ ok w k b n f) : b < w.heap.size := by
  obtain ⟨D, h, _⟩ := h
  exact h.lt
theorem MapIs.step {w' : World} (hb : Below w.heap.size w w') (h : MapIs κ ok w k b n f) : MapIs κ ok w' k b n f := by
  have hl := h.lt
  obtain ⟨D, ⟨es, clock, he, h2, h3, h4⟩, h5⟩ := h
  exact ⟨D, ⟨es, clock, (hb.block _ hl).trans he, h2, h3, h4⟩, h5⟩
theorem MapIs.kept {w' : World} {row : Option Nat} (h : MapIs κ ok w k b n f) (hg : w.grownBy w' row) (hne : some b ≠ row) : MapIs κ ok w' k b n f := by
  obtain ⟨D, h1, h2⟩ := h
  exact ⟨D, h1.kept hg hne, h2⟩
theorem MapIs.congr {f' : α → Option Value} (h : MapIs κ ok w k b n f) (hf : ∀ a, ok a → f a = f' a) : MapIs κ ok w k b n f' := by
  obtain ⟨D, h1, h2, h3⟩ := h
  exact ⟨D, h1, h2, fun a kl ha hk zd => by rw [← hf a ha]; exact h3 a kl ha hk zd⟩
theorem MapIs.look (c : Bool) {t e : TypeId} (h : MapIs κ ok w k b n f) (K : Maps.Keyed Tryz.prog k) (ht : Tryz.prog.underlying t = some (.map k e)) {z : Value} (hz : (zeroValue e).run Tryz.prog w = .ok z w) {a : α} (ha : ok a) {kl : Lit} (hkey : keyOf Tryz.prog k (κ a) = some kl) :
    (Instr.lookup t (.map (some b)) (κ a) c).run Tryz.prog w = .ok (if c then .tuple #[(f a).getD z, .bool (f a).isSome] else (f a).getD z) w := by
  obtain ⟨D, ⟨es, clock, hb, F, _, rfl⟩, _, hf⟩ := h
  rcases Maps.fit_look c K ht hz hb F hkey with ⟨hrun, _, hat⟩ | ⟨e0, y, _, _, hrun, hRv, hat, _⟩
  · have h1 := hf a kl ha hkey .nil
    rw [hat] at h1
    cases hfa : f a with
    | none => rw [hrun]; rfl
    | some v => rw [hfa] at h1; cases h1
  · have h1 := hf a kl ha hkey .nil
    rw [hat] at h1
    simp only [heldR, Option.some.injEq] at hRv
    subst hRv
    cases hfa : f a with
    | none => rw [hfa] at h1; cases h1
    | some v =>
      rw [hfa] at h1
      simp only [DataW.held.injEq] at h1
      subst h1
      rw [hrun]; rfl
theorem MapIs.put {w' : World} {v : Value} {a : α} {kl : Lit} {D : DataW Value} {f' : α → Option Value} (K : Maps.Keyed Tryz.prog k) (hD : Maps.IsMap D) (hf : ∀ a kl, ok a → keyOf Tryz.prog k (κ a) = some kl → ∀ zd, D.atKey kl zd = match f a with | some v => .held v | none => zd)
    (hκ : ∀ a a', κ a = κ a' → a = a') (hkey : keyOf Tryz.prog k (κ a) = some kl) (h : w'.ownsMap Tryz.prog k heldR b n (D.put kl (.held v)))
    (hs : f' a = some v) (ho : ∀ a', a' ≠ a → f' a' = f a') : MapIs κ ok w' k b n f' := by
  refine ⟨_, h, ?_, fun a' kl' ha' hk' zd => ?_⟩
  · obtain ⟨es, rfl⟩ := hD
    exact ⟨_, rfl⟩
  · by_cases e : a' = a
    · subst e
      rw [hkey] at hk'
      cases hk'
      rw [Maps.atKey_put_same hD (K.key hkey), hs]
    · have hne : kl' ≠ kl := fun h0 => e (hκ _ _ (K.inj hk' (h0 ▸ hkey)))
      rw [Maps.atKey_put_other hne, hf a' kl' ha' hk', ho a' e]
end
theorem laidO : laidOutB Tryz.prog = true := by kernel_rfl
theorem lawQ : WideMaps.KeyLaw Tryz.prog 74 := deep_law_laid laidO (m := 2) (by omega) (of_decide_eq_true (by kernel_rfl)) (by kernel_rfl) (by rw [Tryz.underlying74])
theorem keyQ : Maps.Keyed Tryz.prog 74 := Maps.Keyed.of_law lawQ
def okQ (q : Q4) : Prop := q.a.size ≤ maxLen ∧ q.b.size ≤ maxLen ∧ q.c.size ≤ maxLen ∧ q.d.size ≤ maxLen
theorem κQ_inj (a a' : Q4) (h : κQ a = κQ a') : a = a' := by
  obtain ⟨a1, a2, a3, a4⟩ := a
  obtain ⟨b1, b2, b3, b4⟩ := a'
  simp [κQ] at h
  simp [h.1, h.2.1, h.2.2.1, h.2.2.2]
theorem keyQ_of {q : Q4} (h : okQ q) : ∃ kl, keyOf Tryz.prog 74 (κQ q) = some kl := by
  obtain ⟨a, b, c, d⟩ := q
  obtain ⟨h1, h2, h3, h4⟩ := h
  have hkt : Tryz.prog.keyType 74 = true := by kernel_rfl
  obtain ⟨m, hm⟩ : ∃ m, Tryz.prog.types.size = m + 1 := ⟨Tryz.prog.types.size - 1, by have : 0 < Tryz.prog.types.size := of_decide_eq_true (by kernel_rfl); omega⟩
  have c4 : Tryz.prog.cellsOf 74 = 4 := by kernel_rfl
  have c1 : Tryz.prog.cellsOf 9 = 1 := by kernel_rfl
  have hu := Tryz.underlying74
  have hs := Tryz.underlying9
  unfold keyOf κQ
  simp only [hu]
  rw [if_pos (by simp [hkt, Value.formed, hu, c4]), hm]
  unfold Program.keyLits
  simp only [hu, Value.cells]
  rw [if_pos (by rw [c4]; rfl), show List.range 4 = [0, 1, 2, 3] from rfl, List.mapM_cons, List.mapM_cons, List.mapM_cons, List.mapM_cons, List.mapM_nil]
  simp only at h1 h2 h3 h4
  simp [c1, Program.keyLits, hs, h1, h2, h3, h4]
theorem zeroI (w : World) : (zeroValue 3).run Tryz.prog w = .ok (.int .i64 0) w := by kernel_rfl
/-- a map that counts grams -/
def CntIs (w : World) (b N : Nat) (c : Q4 → Nat) : Prop := ∃ (n : Nat) (f : Q4 → Option Value), MapIs κQ okQ w 74 b n f ∧ n ≤ N ∧ ∀ q, (f q = none ∧ c q = 0) ∨ f q = some (.int .i64 (c q))
theorem CntIs.made (w : World) : CntIs (w.alloc (.map #[] 0)) w.heap.size 0 fun _ => 0 := ⟨0, _, MapIs.made w _, Nat.le_refl _, fun _ => .inl ⟨rfl, rfl⟩⟩
theorem CntIs.lt {w : World} {b N : Nat} {c : Q4 → Nat} (h : CntIs w b N c) : b < w.heap.size := by
  obtain ⟨n, f, h, _⟩ := h
  exact h.lt
theorem CntIs.step {w w' : World} {b N : Nat} {c : Q4 → Nat} (hb : Below w.heap.size w w') (h : CntIs w b N c) : CntIs w' b N c := by
  obtain ⟨n, f, h, h2⟩ := h
  exact ⟨n, f, h.step hb, h2⟩
theorem CntIs.more {w : World} {b N N' : Nat} {c : Q4 → Nat} (hN : N ≤ N') (h : CntIs w b N c) : CntIs w b N' c := by
  obtain ⟨n, f, h, h2, h3⟩ := h
  exact ⟨n, f, h, by omega, h3⟩
theorem CntIs.congr {w : World} {b N : Nat} {c c' : Q4 → Nat} (h : CntIs w b N c) (e : c = c') : CntIs w b N c' := e ▸ h
/-- what is found there -/
theorem CntIs.look {w : World} {b N : Nat} {c : Q4 → Nat} (h : CntIs w b N c) {q : Q4} (hq : okQ q) : (Instr.lookup 71 (.map (some b)) (κQ q) false).run Tryz.prog w = .ok (.int .i64 (c q)) w := by
  obtain ⟨n, f, h1, _, h3⟩ := h
  obtain ⟨kl, hkl⟩ := keyQ_of hq
  rw [h1.look false keyQ Tryz.underlying71 (zeroI w) hq hkl]
  rcases h3 q with ⟨e, e0⟩ | e
  · rw [e, e0]; rfl
  · rw [e]; rfl
theorem setBlock_self {w : World} {b : Nat} {o : Obj} (h : w.heap[b]? = some o) : ChangeMaps.setBlock w b o = w := by
  unfold ChangeMaps.setBlock
  have : w.heap.setIfInBounds b o = w.heap := by
    apply Array.ext_getElem?
    intro i
    rw [Array.getElem?_setIfInBounds]
    split
    · rename_i e
      subst e
      have := (Array.getElem?_eq_some_iff.1 h).1
      rw [if_pos this]; exact h.symm
    · rfl
  rw [this]
/-- An entry is asked for: where there was none, as if zero had been stored. -/
theorem entry_made {w : World} {t k e : TypeId} {R : Value → Option (DataW Value × List MemPlace)} {b : Nat} {es : Array MapEntry} {clock : Nat} (K : WideMaps.KeyLaw Tryz.prog k) (ht : Tryz.prog.underlying t = some (.map k e)) {z : Value}
    (hz : ∀ u : World, (zeroValue e).run Tryz.prog u = .ok z u) (hb : w.heap[b]? = some (.map es clock)) (F : WideElems.Fit Tryz.prog k R es clock) {key : Value} {kl : Lit} (hkey : keyOf Tryz.prog k key = some kl) :
    ∃ v w1, (Instr.mapEntry t (.map (some b)) key).run Tryz.prog w = .ok v w1 ∧ (w1 = w ∨ ((Instr.mapUpdate t (.map (some b)) key z).run Tryz.prog w = .ok () w1 ∧ (Instr.lookup t (.map (some b)) key false).run Tryz.prog w = .ok z w)) := by
  rcases K.find w hkey es.toList F.keys with ⟨h1, _⟩ | ⟨j, e0, h1, h2, h3⟩
  · refine ⟨.tuple #[z, goInt clock], { w with heap := w.heap.setIfInBounds b (.map (es.push ⟨key, z, clock⟩) (clock + 1)) }, ?_, .inr ⟨?_, ?_⟩⟩
    · simp [Instr.mapEntry, run_underlying ht, MapKept.run_getObj_map hb, K.check w false hkey, h1, hz, MapKept.run_setObj_map _ hb, Result.andThen]
    · simp [Instr.mapUpdate, run_underlying ht, MapKept.run_getObj_map hb, K.check w false hkey, h1, MapKept.run_setObj_map _ hb, Result.andThen]
    · simp [Instr.lookup, run_underlying ht, MapKept.run_getObj_map hb, K.check w _ hkey, h1, hz, Result.andThen]
  · have hj : es[j]? = some e0 := by simpa using h2
    have hsame : es.modify j (fun e => { e with key := key }) = es := by
      apply Array.ext'
      rw [Array.toList_modify]
      apply List.ext_getElem?
      intro i
      rw [List.getElem?_modify]
      by_cases e : j = i
      · subst e; rw [h2]; simp [← h3]
      · simp [e]
    refine ⟨.tuple #[e0.val, goInt e0.born], w, ?_, .inl rfl⟩
    have hw : ({ w with heap := w.heap.setIfInBounds b (.map es clock) } : World) = w := setBlock_self hb
    simp [Instr.mapEntry, run_underlying ht, MapKept.run_getObj_map hb, K.check w false hkey, h1, hj, h3, K.stays w hkey, hsame, MapKept.run_setObj_map _ hb, Result.andThen, hw]
theorem CntIs.put {w w' : World} {b N : Nat} {c : Q4 → Nat} (h : CntIs w b N c) {q : Q4} (hq : okQ q) (hN : N < maxLen) (m : Nat) (hrun : (Instr.mapUpdate 71 (.map (some b)) (κQ q) (.int .i64 m)).run Tryz.prog w = .ok () w') :
    CntIs w' b (N + 1) (fun x => if x = q then m else c x) ∧ w.grownBy w' (some b) := by
  obtain ⟨n, f, ⟨D, h1, h2, h3⟩, hn, h4⟩ := h
  obtain ⟨kl, hkl⟩ := keyQ_of hq
  obtain ⟨w2, hr, ho, hg⟩ := h1.update keyQ Tryz.underlying71 (by omega) hkl (val := .int .i64 m) (d := .held (.int .i64 m)) (ps := []) rfl
  rw [hrun] at hr
  cases hr
  refine ⟨⟨n + 1, fun x => if x = q then some (.int .i64 m) else f x, MapIs.put (f' := fun x => if x = q then some (.int .i64 m) else f x) keyQ h2 h3 κQ_inj hkl ho (by simp) (fun a' ha' => by simp [ha']), by omega, fun x => ?_⟩, hg⟩
  by_cases e : x = q
  · subst e; right; simp
  · simp only [e, if_false]; exact h4 x
/-- 'm[k]++' and its like: the entry, what is found there, and the store. -/
theorem CntIs.entry {w : World} {b N : Nat} {c : Q4 → Nat} (h : CntIs w b N c) {q : Q4} (hq : okQ q) (hN : N < maxLen) (m : Nat) : ∃ (v0 sv : Value) (w1 w3 : World),
    (Instr.mapEntry 71 (.map (some b)) (κQ q)).run Tryz.prog w = .ok (.tuple #[v0, sv]) w1 ∧
    (Instr.lookup 71 (.map (some b)) (κQ q) false).run Tryz.prog w1 = .ok (.int .i64 (c q)) w1 ∧
    (Instr.entryStore 71 (.map (some b)) sv (.int .i64 m)).run Tryz.prog w1 = .ok () w3 ∧
    CntIs w3 b (N + 1) (fun x => if x = q then m else c x) ∧ w.grownBy w3 (some b) := by
  have h0 := h
  obtain ⟨n, f, ⟨D, ⟨es, clock, hb, F, hs, rfl⟩, h2, h3⟩, hn, h4⟩ := h
  obtain ⟨kl, hkl⟩ := keyQ_of hq
  obtain ⟨v0, st, es1, clock1, hr1, _, hst⟩ := WideElems.entry_then_store lawQ Tryz.underlying71 zeroI hb F hkl
  obtain ⟨v', w1', hr2, hw⟩ := entry_made lawQ Tryz.underlying71 zeroI hb F hkl
  rw [hr1] at hr2
  cases hr2
  have hw1 : (ChangeMaps.setBlock w b (.map es1 clock1)).heap[b]? = some (.map es1 clock1) := ChangeMaps.heap_setBlock_same hb _
  obtain ⟨es', clock', hs1, hs2⟩ := hst _ (.int .i64 m) hw1
  obtain ⟨hc, hg⟩ := h0.put hq hN m hs2
  have hww : ChangeMaps.setBlock (ChangeMaps.setBlock w b (.map es1 clock1)) b (.map es' clock') = ChangeMaps.setBlock w b (.map es' clock') := by
    unfold ChangeMaps.setBlock
    have : (w.heap.setIfInBounds b (.map es1 clock1)).setIfInBounds b (.map es' clock') = w.heap.setIfInBounds b (.map es' clock') := by
      apply Array.ext_getElem?
      intro i
      simp only [Array.getElem?_setIfInBounds]
      by_cases e : b = i <;> simp [e]
    simp only [this]
  rw [hww] at hs1
  refine ⟨v0, goInt st, _, _, hr1, ?_, hs1, hc, hg⟩
  rcases hw with e | ⟨e, el⟩
  · rw [e]; exact h0.look hq
  · obtain ⟨hc2, _⟩ := h0.put hq hN 0 e
    have := hc2.look hq
    simp only [if_true] at this
    have h9 := (h0.look hq).symm.trans el
    simp only [Result.ok.injEq, Value.int.injEq, true_and, and_true] at h9
    rw [h9]; exact this
end Go.Proofs.YthgllfbigcoaiaaGreatDoor
namespace Go.Proofs.YthgllfbigcoaiaaGreatDoor
open Go Go.RowKit Go.Lib
set_option maxRecDepth 100000
theorem below_grown {B m : Nat} {w wr w' : World} (h : Below B w wr) (hg : wr.grownBy w' (some m)) (hm : B ≤ m) (hB : B ≤ wr.heap.size) : Below B w w' :=
  ⟨hg.os.trans h.os, hg.tape.trans h.tape, hg.output.trans h.output, Nat.le_trans h.size hg.size, fun j hj => (hg.block j (Nat.lt_of_lt_of_le hj hB) (by simp; omega)).trans (h.block j hj)⟩
theorem gramsN_nat (len N : Nat) : gramsN len (N : Int) = ((len + 1 - N : Nat) : Int) := by
  unfold gramsN
  omega
theorem gramsQ_get {l : List ByteArray} {N k : Nat} (h : k < l.length + 1 - N) : (gramsQ l N)[k]? = some (gq l N k) := by
  unfold gramsQ
  rw [List.getElem?_map, List.getElem?_range h]
  rfl
theorem gramsQ_take {l : List ByteArray} {N k : Nat} (h : k < l.length + 1 - N) : (gramsQ l N).take (k + 1) = (gramsQ l N).take k ++ [gq l N k] := by
  rw [List.take_add_one, gramsQ_get h]; rfl
theorem gramsQ_drop {l : List ByteArray} {N k : Nat} (h : k < l.length + 1 - N) : (gramsQ l N).drop k = gq l N k :: (gramsQ l N).drop (k + 1) := by
  have := gramsQ_get h
  rw [List.drop_eq_getElem_cons (by rw [gramsQ_length]; exact h)]
  rw [List.getElem?_eq_getElem (by rw [gramsQ_length]; exact h)] at this
  rw [Option.some.inj this]
theorem gq_ok {l : List ByteArray} (h : ∀ s ∈ l, s.size ≤ maxLen) (N k : Nat) : okQ (gq l N k) := by
  have key : ∀ i, (((l.drop k).take N).getD i ⟨#[]⟩).size ≤ maxLen := by
    intro i
    rw [List.getD_eq_getElem?_getD]
    cases e : ((l.drop k).take N)[i]? with
    | none => exact Nat.zero_le _
    | some s => exact h s (List.mem_of_mem_drop (List.mem_of_mem_take (List.mem_of_getElem? e)))
  exact ⟨key 0, key 1, key 2, key 3⟩
theorem cn_le {G : Type} [DecidableEq G] (l : List G) (g : G) : cn l g ≤ l.length := List.count_le_length
/-- an entry's steps, in the walk's spelling: the key spelt out -/
theorem CntIs.entryI {w : World} {b N : Nat} {c : Q4 → Nat} (h : CntIs w b N c) {q : Q4} (hq : okQ q) (hN : N < 1000000) (x : Int) (m : Nat) (hx : x = (m : Int)) : ∃ (v0 sv : Value) (w1 w3 : World),
    (Instr.lookup 71 (.map (some b)) (κQ q) false).run Tryz.prog w = .ok (.int .i64 (c q)) w ∧
    (Instr.mapEntry 71 (.map (some b)) (κQ q)).run Tryz.prog w = .ok (.tuple #[v0, sv]) w1 ∧
    (Instr.lookup 71 (.map (some b)) (κQ q) false).run Tryz.prog w1 = .ok (.int .i64 (c q)) w1 ∧
    (Instr.entryStore 71 (.map (some b)) sv (.int .i64 x)).run Tryz.prog w1 = .ok () w3 ∧
    Hid (CntIs w3 b (N + 1) (fun x => if x = q then m else c x)) ∧ Hid (w.grownBy w3 (some b)) := by
  subst hx
  obtain ⟨v0, sv, w1, w3, e1, e2, e3, h4, h5⟩ := h.entry hq (by unfold maxLen; omega) m
  exact ⟨v0, sv, w1, w3, h.look hq, e1, e2, e3, h4, h5⟩
theorem cn_take_le (l : List ByteArray) (N k : Nat) (q : Q4) : cn ((gramsQ l N).take k) q ≤ l.length + 1 := by
  have h8 := cn_le ((gramsQ l N).take k) q
  simp only [List.length_take, gramsQ_length] at h8
  omega
theorem cnt_next {l : List ByteArray} {N k : Nat} (h : k < l.length + 1 - N) : (fun x => if x = gq l N k then cn ((gramsQ l N).take k) (gq l N k) + 1 else cn ((gramsQ l N).take k) x) = cn ((gramsQ l N).take (k + 1)) := by
  funext x
  rw [gramsQ_take h, cn_snoc]
  by_cases e : x = gq l N k
  · subst e; simp
  · rw [if_neg e, if_neg (fun h => e h.symm)]; rfl
/-- what Matches returns -/
def matchV (a b : List ByteArray) (n : Int) : Value :=
  if 512 < a.length ∨ 512 < b.length then .tuple #[.int .i64 0, .int .i64 0, .int .i64 0, .int .u8 3]
  else if n < 1 ∨ 4 < n then .tuple #[.int .i64 0, .int .i64 0, .int .i64 0, .int .u8 1]
  else .tuple #[.int .i64 (mtQ a b n.toNat), .int .i64 (gramsN a.length n), .int .i64 (gramsN b.length n), .int .u8 0]
set_option maxHeartbeats 16000000 in
theorem Matches_main (a b : List ByteArray) (va vb : Value) (N : Nat) (w : World) (ha : WdsAt w va a) (hb : WdsAt w vb b) (h1 : 1 ≤ N) (h4 : N ≤ 4) (hal : a.length ≤ 512) (hbl : b.length ≤ 512) :
    Calls Tryz.prog 12 #[va, vb, .int .i64 N] w fun e w' => e = .returned (matchV a b N) ∧ Below w.heap.size w w' := by
  have HA := Lib.hid ha
  have HB := Lib.hid hb
  have HM : Hid (matchV a b N = .tuple #[.int .i64 (mtQ a b N), .int .i64 (gramsN a.length N), .int .i64 (gramsN b.length N), .int .u8 0]) := by
    show matchV a b N = _
    unfold matchV
    rw [if_neg (by omega), if_neg (by omega), Int.toNat_natCast]
  obtain ⟨A1, hA1⟩ : ∃ A1, A1 = a.length + 1 - N := ⟨_, rfl⟩
  obtain ⟨B1, hB1⟩ : ∃ B1, B1 = b.length + 1 - N := ⟨_, rfl⟩
  have cA : ∀ w', WdsAt w' va a → Calls Tryz.prog 35 #[va, .int .i64 N] w' fun e w'' => e = .returned (.int .i64 A1) ∧ w'' = w' := fun w' h => by
    have := gramsIn_any a va N w' h (by omega) (by omega)
    rwa [gramsN_nat, ← hA1] at this
  have cB : ∀ w', WdsAt w' vb b → Calls Tryz.prog 35 #[vb, .int .i64 N] w' fun e w'' => e = .returned (.int .i64 B1) ∧ w'' = w' := fun w' h => by
    have := gramsIn_any b vb N w' h (by omega) (by omega)
    rwa [gramsN_nat, ← hB1] at this
  have gA : ∀ (k : Nat) w', WdsAt w' va a → k < A1 → Calls Tryz.prog 36 #[va, .int .i64 k, .int .i64 N] w' fun e w'' => e = .returned (κQ (gq a N k)) ∧ Below w'.heap.size w' w'' := fun k w' h hk => gramAt_any a va k N w' h h1 h4 (by omega) hal
  have gB : ∀ (k : Nat) w', WdsAt w' vb b → k < B1 → Calls Tryz.prog 36 #[vb, .int .i64 k, .int .i64 N] w' fun e w'' => e = .returned (κQ (gq b N k)) ∧ Below w'.heap.size w' w'' := fun k w' h hk => gramAt_any b vb k N w' h h1 h4 (by omega) hbl
  rw [gramsN_nat, gramsN_nat, ← hA1, ← hB1] at HM
  obtain ⟨⟨p, cap, rfl, hl, hc, hrA⟩, hza⟩ := ha
  obtain ⟨⟨p2, cap2, rfl, hl2, hc2, hrB⟩, hzb⟩ := hb
  have HQA := Lib.hid (gq_ok hza)
  have HQB := Lib.hid (gq_ok hzb)
  unfold maxLen at hc hc2
  have hmm := @run_makeMap Tryz.prog
  have i1 : ¬ (512 : Int) < (a.length : Int) := by omega
  have i2 : ¬ (512 : Int) < (b.length : Int) := by omega
  have i3 : ¬ (N : Int) < 1 := by omega
  have i4 : ¬ (4 : Int) < (N : Int) := by omega
  have HA1 := Lib.hid hA1
  have HB1 := Lib.hid hB1
  have agG := Tryz.isAgg74
  have zgG := Tryz.sizeOf74
  clear hza hzb hrA hrB hA1 hB1
  go_enter Tryz.func12, Tryz.ntmps12
  go_wp2_with (go_at_call 35; (with_reducible refine (cA _ (HA.out.step (below_box _))).mono ?_); rintro e w1 ⟨rfl, rfl⟩)
  have HB0 := Lib.hid (below_box (w := w) (.map #[] 0))
  have HC0 := Lib.hid (CntIs.made w)
  have hM0 : w.heap.size < (w.alloc (.map #[] 0)).heap.size := by simp
  generalize w.alloc (.map #[] 0) = W0 at *
  go_loopw [11, 32] (fun _ i wr => ∃ k : Nat, k ≤ A1 ∧ i = .int .i64 k ∧ Hid (Below w.heap.size w wr) ∧ Hid (CntIs wr w.heap.size k (cn ((gramsQ a N).take k)))) (fun _ i _ => A1 - (RowKit.intOf i).toNat)
  case atStart => exact ⟨0, Nat.zero_le _, rfl, HB0.out, HC0.out⟩
  case round =>
    obtain ⟨k, hk, rfl, HBW, HC⟩ := hrel
    by_cases hlt : k < A1
    · have hcn := cnt_next (l := a) (N := N) (k := k) (by have := HA1.out; omega)
      have hq := HQA.out N k
      have hcl := Nat.le_trans (cn_take_le a N k (gq a N k)) (Nat.succ_le_succ hal)
      have gk := fun w' h => gA k w' h hlt
      have HCN := Lib.hid hcn
      have HQ := Lib.hid hq
      clear hcn hq
      generalize gq a N k = q at gk HCN HQ hcl
      generalize cn ((gramsQ a N).take k) = c at HC HCN hcl
      have hwr : IntKind.i64.wrap ((c q : Int) + 1) = (c q : Int) + 1 := by rw [IntKind.wrap_i64] <;> omega
      have hk2 : k < 1000000 := by have := HA1.out; omega
      go_wp2
      go_region_with (go_at_call 36; (with_reducible refine (gk _ (HA.out.step HBW.out.drew)).mono ?_); rintro e w2 ⟨rfl, hb2⟩; obtain ⟨v0, sv, w3, w4, e0, e1, e2, e3, hc4, hg4⟩ := ((HC.out.step (Below.refl _ _).drew).step hb2).entryI HQ.out hk2 ((c q : Int) + 1) (c q + 1) rfl)
      all_goals
        have HB2 := Lib.hid (below_next HBW.out.drew hb2)
        have HBF := Lib.hid (below_grown HB2.out hg4.out (Nat.le_refl _) HB2.out.size)
        have HCF := Lib.hid (hc4.out.congr HCN.out)
        clear e0 e1 e2 e3 hb2
        go_wp2
        go_roundw
        case rel => exact ⟨k + 1, by omega, by go_num, HBF.out, HCF.out⟩
        case measure => simp [RowKit.intOf]; omega
    · obtain rfl : A1 = k := by omega
      have HCA := Lib.hid (HC.out.congr (show cn ((gramsQ a N).take A1) = cn (gramsQ a N) by rw [List.take_of_length_le (by rw [gramsQ_length]; have := HA1.out; omega)]))
      clear HC
      go_wp2_with (go_at_call 35; (with_reducible refine (cB _ (HB.out.step HBW.out)).mono ?_); rintro e w1 ⟨rfl, rfl⟩)
      go_loopw [6, 12, 13, 48] (fun m _ _ i wr => ∃ (k mN : Nat) (c : Q4 → Nat), k ≤ B1 ∧ i = .int .i64 k ∧ m = .int .i64 mN ∧ mN ≤ k ∧ Hid (mtQ a b N = mN + mt c ((gramsQ b N).drop k)) ∧ Hid (∀ q, c q ≤ 513) ∧ Hid (Below w.heap.size w wr) ∧ Hid (CntIs wr w.heap.size (A1 + k) c)) (fun _ _ _ i _ => B1 - (RowKit.intOf i).toNat)
      case atStart => exact ⟨0, 0, _, Nat.zero_le _, rfl, rfl, Nat.le_refl _, by rw [Nat.zero_add, List.drop_zero]; rfl, fun q => by have h8 := cn_le (gramsQ a N) q; rw [gramsQ_length] at h8; omega, HBW.out, HCA.out⟩
      case round =>
        clear HBW HCA hM0 HC0 HB0
        obtain ⟨k, mN, c, hk, rfl, rfl, hmk, HMT, HCL, HBW, HC⟩ := hrel
        by_cases hlt : k < B1
        · have hdr := gramsQ_drop (l := b) (N := N) (k := k) (by have := HB1.out; omega)
          have HQ := Lib.hid (HQB.out N k)
          have gk := fun w' h => gB k w' h hlt
          have hmt := HMT.out
          rw [hdr, mt_cons] at hmt
          have hcl := HCL.out (gq b N k)
          have hk2 : A1 + k < 1000000 := by have := HA1.out; have := HB1.out; omega
          have hk3 : k < 1000000 := by have := HB1.out; omega
          clear hdr HMT
          generalize gq b N k = q at gk HQ hmt hcl
          by_cases h0 : 0 < c q
          · rw [if_pos h0] at hmt
            have HMT2 := Lib.hid (show mtQ a b N = (mN + 1) + mt (lessOne c q) ((gramsQ b N).drop (k + 1)) by omega)
            have HLE : Hid (∀ x, lessOne c q x ≤ 513) := fun x => by have := HCL.out x; unfold lessOne; split <;> omega
            have hfun := Lib.hid (show (fun x => if x = q then c q - 1 else c x) = lessOne c q by funext x; unfold lessOne; by_cases e : x = q <;> simp [e])
            clear hmt
            obtain ⟨s0, s1, s2, s3⟩ := q
            unfold κQ at gk
            simp only at gk
            generalize hcq : c ⟨s0, s1, s2, s3⟩ = n at h0 hcl hfun
            have HCQ := Lib.hid hcq
            clear hcq
            have hgt : (0 : Int) < (n : Int) := by omega
            have hws : IntKind.i64.wrap ((n : Int) - 1) = (n : Int) - 1 := by rw [IntKind.wrap_i64] <;> omega
            have hwm : IntKind.i64.wrap ((mN : Int) + 1) = (mN : Int) + 1 := by rw [IntKind.wrap_i64] <;> omega
            go_wp2_with (go_at_call 36; (with_reducible refine (gk _ (HB.out.step HBW.out)).mono ?_); rintro e w2 ⟨rfl, hb2⟩; have e0 := ((HC.out.step hb2).step (below_box (.cells #[.string s0, .string s1, .string s2, .string s3] 74))).look HQ.out; rw [HCQ.out] at e0; unfold κQ at e0; simp only at e0)
            have HB2 := Lib.hid (below_next (below_next HBW.out hb2) (below_box (.cells #[.string s0, .string s1, .string s2, .string s3] 74)))
            have HC2 := Lib.hid ((HC.out.step hb2).step (below_box (.cells #[.string s0, .string s1, .string s2, .string s3] 74)))
            have x0 : (w2.alloc (.cells #[.string s0, .string s1, .string s2, .string s3] 74)).cell? ⟨w2.heap.size, 0, none⟩ = some (.string s0) := by simp
            have x1 : (w2.alloc (.cells #[.string s0, .string s1, .string s2, .string s3] 74)).cell? ⟨w2.heap.size, 1, none⟩ = some (.string s1) := by simp
            have x2 : (w2.alloc (.cells #[.string s0, .string s1, .string s2, .string s3] 74)).cell? ⟨w2.heap.size, 2, none⟩ = some (.string s2) := by simp
            have x3 : (w2.alloc (.cells #[.string s0, .string s1, .string s2, .string s3] 74)).cell? ⟨w2.heap.size, 3, none⟩ = some (.string s3) := by simp
            clear e0 hb2
            generalize w2.alloc (.cells #[.string s0, .string s1, .string s2, .string s3] 74) = X at *
            obtain ⟨v0, sv, w3, w4, e0, e1, e2, e3, hc4, hg4⟩ := (HC2.out.step (Below.refl _ _).drew).entryI HQ.out hk2 ((n : Int) - 1) (n - 1) (by omega)
            rw [HCQ.out] at e0 e2
            unfold κQ at e0 e1 e2
            simp only at e0 e1 e2
            go_region_with (fail)
            all_goals
              have HBF := Lib.hid (below_grown HB2.out.drew hg4.out (Nat.le_refl _) HB2.out.drew.size)
              have HCF := Lib.hid ((hc4.out.congr hfun.out).more (N' := A1 + (k + 1)) (by omega))
              clear e0 e1 e2 e3
              go_wp2
              go_roundw
              case rel => exact ⟨k + 1, mN + 1, _, by omega, by go_num, by go_num, by omega, HMT2.out, HLE.out, HBF.out, HCF.out⟩
              case measure => simp [RowKit.intOf]; omega
          · rw [if_neg h0] at hmt
            have h00 : c q = 0 := by omega
            have HMT2 := Lib.hid hmt
            clear hmt
            obtain ⟨s0, s1, s2, s3⟩ := q
            unfold κQ at gk
            simp only at gk
            have HCQ := Lib.hid h00
            clear h00 h0 hcl
            go_wp2_with (go_at_call 36; (with_reducible refine (gk _ (HB.out.step HBW.out)).mono ?_); rintro e w2 ⟨rfl, hb2⟩; have e0 := ((HC.out.step hb2).step (below_box (.cells #[.string s0, .string s1, .string s2, .string s3] 74))).look HQ.out; rw [HCQ.out] at e0; unfold κQ at e0; simp only at e0)
            have HB2 := Lib.hid (below_next (below_next HBW.out hb2) (below_box (.cells #[.string s0, .string s1, .string s2, .string s3] 74)))
            have HC2 := Lib.hid ((HC.out.step hb2).step (below_box (.cells #[.string s0, .string s1, .string s2, .string s3] 74)))
            clear e0 hb2
            go_roundw
            case rel => exact ⟨k + 1, mN, c, by omega, by go_num, rfl, by omega, HMT2.out, HCL.out, HB2.out, HC2.out.more (by omega)⟩
            case measure => simp [RowKit.intOf]; omega
        · obtain rfl : B1 = k := by omega
          have hmt := HMT.out
          rw [List.drop_eq_nil_of_le (by rw [gramsQ_length]; have := HB1.out; omega)] at hmt
          have HMT2 := Lib.hid (show mtQ a b N = mN by simpa [mt] using hmt)
          go_wp2_with (first
            | (go_at_call 35; (with_reducible refine (cA _ (HA.out.step HBW.out)).mono ?_); rintro e w1 ⟨rfl, rfl⟩)
            | (go_at_call 35; (with_reducible refine (cB _ (HB.out.step HBW.out)).mono ?_); rintro e w1 ⟨rfl, rfl⟩))
          refine bodyPost_ret (v := .tuple #[.int .i64 mN, .int .i64 A1, .int .i64 B1, .int .u8 0]) (by simp [results, Tryz.f12]) rfl ?_
          exact ⟨by rw [HM.out, HMT2.out], HBW.out⟩
end Go.Proofs.YthgllfbigcoaiaaGreatDoor
