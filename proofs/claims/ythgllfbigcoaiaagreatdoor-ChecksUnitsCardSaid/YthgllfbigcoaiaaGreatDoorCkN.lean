/- Fractions in lowest terms, by both sides. Fractions in lowest terms, by the specification; sides that are to be compared. Scores of several pairs of lists, as data. Precision of several pairs, by both sides. Rate of several pairs, by both sides. The law ChecksScores, over any lists of lists of words and any number. -/
import Derived.Test.YthgllfbigcoaiaaGreatDoorCkM
namespace Go.Proofs.YthgllfbigcoaiaaGreatDoor
open Go Go.RowKit Go.Lib
set_option maxRecDepth 100000
set_option maxHeartbeats 8000000 in
theorem divisor_any (h g : Nat) (w : World) (hh : h ≤ 4611686018427387904) (hg : g ≤ 4611686018427387904) : Calls Tryz.prog 65 #[.int .i64 h, .int .i64 g] w fun e w' => e = .returned (.int .i64 (Nat.gcd h g)) ∧ Below w.heap.size w w' := by
  go_enter Tryz.func65, Tryz.ntmps65
  go_wp2
  go_loopw [0, 1] (fun xv yv wr => ∃ x y : Nat, xv = .int .i64 x ∧ yv = .int .i64 y ∧ x ≤ 4611686018427387904 ∧ y ≤ 4611686018427387904 ∧ Hid (Nat.gcd x y = Nat.gcd h g) ∧ Hid (Below w.heap.size w wr)) (fun _ yv _ => (RowKit.intOf yv).toNat)
  case atStart => exact ⟨h, g, rfl, rfl, hh, hg, rfl, Below.refl _ _⟩
  case round =>
    obtain ⟨x, y, rfl, rfl, hx, hy, HG, HBW⟩ := hrel
    cases y with
    | zero =>
      have HX : Hid (x = Nat.gcd h g) := by have := HG.out; rwa [Nat.gcd_zero_right] at this
      go_wp2
      go_ret
      exact ⟨by rw [← HX.out]; rfl, HBW.out⟩
    | succ y =>
      have hne : ¬ ((y + 1 : Nat) : Int) = 0 := by omega
      have HG2 : Hid (Nat.gcd (y + 1) (x % (y + 1)) = Nat.gcd h g) := by show Nat.gcd (y + 1) (x % (y + 1)) = _; rw [← HG.out, Nat.gcd_comm x, Nat.gcd_rec (y + 1) x, Nat.gcd_comm]
      have hlt : x % (y + 1) < y + 1 := Nat.mod_lt x (Nat.succ_pos y)
      have hmod : Int.tmod (x : Int) ((y + 1 : Nat) : Int) = ((x % (y + 1) : Nat) : Int) := rfl
      clear HG
      generalize y + 1 = z at *
      generalize x % z = r at *
      have hzz : ((z : Int) == 0) = false := by simpa using hne
      have hzz2 : ((z : Int) != 0) = true := by simpa using hne
      go_wp2
      go_quiet (fail)
      go_wp2
      go_roundw
      case rel => exact ⟨z, r, rfl, rfl, hy, by omega, HG2.out, below_next HBW.out (bdN _ _)⟩
      case measure => simp [RowKit.intOf] <;> omega
/-- a fraction in lowest terms -/
def quoV (h g : Nat) : Value := if h = 0 ∨ g = 0 then .agg #[.int .i64 0, .int .i64 1] else .agg #[.int .i64 ((h / Nat.gcd h g : Nat) : Int), .int .i64 ((g / Nat.gcd h g : Nat) : Int)]
theorem set2_cells {w : World} {b : Nat} {u0 u1 : Value} {t : TypeId} (h : w.heap[b]? = some (.cells #[u0, u1] t (0, 0))) (v0 v1 : Value) :
    ((w.setCell ⟨b, 0, none⟩ v0).setCell ⟨b, 1, none⟩ v1).heap[b]? = some (.cells #[v0, v1] t (0, 0)) := by
  simp [World.setCell, Array.getElem?_modify, h]
theorem two_cells {w : World} {n : Nat} {v0 v1 : Value} (h0 : w.cell? ⟨n, 0, none⟩ = some v0) (h1 : w.cell? ⟨n, 1, none⟩ = some v1) : ∀ j v, [v0, v1][j]? = some v → w.cell? ((⟨n, 0, none⟩ : Addr).add j) = some v := by
  intro j v hj
  match j, hj with
  | 0, hj => simp only [List.getElem?_cons_zero, Option.some.injEq] at hj; subst hj; exact h0
  | 1, hj => simp only [List.getElem?_cons_succ, List.getElem?_cons_zero, Option.some.injEq] at hj; subst hj; exact h1
set_option maxHeartbeats 8000000 in
theorem quotient_any (h g : Nat) (w : World) (hh : h ≤ 4611686018427387904) (hg : g ≤ 4611686018427387904) : Calls Tryz.prog 44 #[.int .i64 h, .int .i64 g] w fun e w' => e = .returned (quoV h g) ∧ Below w.heap.size w w' := by
  have agF := Tryz.isAgg35
  have zgF := Tryz.sizeOf35
  have HQ := Lib.hid (show quoV h g = if h = 0 ∨ g = 0 then .agg #[.int .i64 0, .int .i64 1] else .agg #[.int .i64 ((h / Nat.gcd h g : Nat) : Int), .int .i64 ((g / Nat.gcd h g : Nat) : Int)] from rfl)
  have cD := fun w => divisor_any h g w hh hg
  have hnew := (MapKept.heap_alloc w (.cells #[.int .i64 0, .int .i64 0] 35)).1
  by_cases h0 : h = 0 ∨ g = 0
  · rw [if_pos h0] at HQ
    have hz : ((h : Int) == 0) = true ∨ (((h : Int) == 0) = false ∧ ((g : Int) == 0) = true) := by
      by_cases e : h = 0
      · exact .inl (by simp; omega)
      · exact .inr ⟨by simp; omega, by simp; omega⟩
    clear h0
    rcases hz with hz | ⟨hz, hz2⟩
    all_goals
      go_enter Tryz.func44, Tryz.ntmps44
      go_wp2
      refine bodyPost_ret (results_c (xs := [.int .i64 0, .int .i64 1]) rfl rfl agF zgF (two_cells (by simp) (by simp))) rfl ?_
      exact ⟨by rw [HQ.out], below_box _⟩
  · rw [if_neg h0] at HQ
    have hz : ((h : Int) == 0) = false := by simp; omega
    have hz2 : ((g : Int) == 0) = false := by simp; omega
    have hd0 : ¬ Nat.gcd h g = 0 := fun e => h0 (.inl (Nat.gcd_eq_zero_iff.1 e).1)
    have hq1 : Int.tdiv (h : Int) ((Nat.gcd h g : Nat) : Int) = ((h / Nat.gcd h g : Nat) : Int) := rfl
    have hq2 : Int.tdiv (g : Int) ((Nat.gcd h g : Nat) : Int) = ((g / Nat.gcd h g : Nat) : Int) := rfl
    have hb1 : h / Nat.gcd h g ≤ 4611686018427387904 := Nat.le_trans (Nat.div_le_self _ _) hh
    have hb2 : g / Nat.gcd h g ≤ 4611686018427387904 := Nat.le_trans (Nat.div_le_self _ _) hg
    generalize h / Nat.gcd h g = q1 at *
    generalize g / Nat.gcd h g = q2 at *
    generalize Nat.gcd h g = d at *
    have hd1 : ((d : Int) == 0) = false := by simp; omega
    have hd2 : ¬ (d : Int) = 0 := by omega
    have wq1 : IntKind.i64.wrap (q1 : Int) = (q1 : Int) := by rw [IntKind.wrap_i64] <;> omega
    have wq2 : IntKind.i64.wrap (q2 : Int) = (q2 : Int) := by rw [IntKind.wrap_i64] <;> omega
    go_enter Tryz.func44, Tryz.ntmps44
    go_wp2_with (go_at_call 65; (with_reducible refine (cD _).mono ?_); rintro e w1 ⟨rfl, hb⟩)
    have hw1 : w1.heap[w.heap.size]? = some (.cells #[.int .i64 0, .int .i64 0] 35 (0, 0)) := (hb.block _ (by simp)).trans hnew
    have HB1 := Lib.hid (below_next (below_box _) hb)
    have f0 : w1.frozen? ⟨w.heap.size, 0, none⟩ = false := by simp [World.frozen?, hw1]
    have f1 : w1.frozen? ⟨w.heap.size, 1, none⟩ = false := by simp [World.frozen?, hw1]
    have r0 : w1.cell? ⟨w.heap.size, 0, none⟩ = some (.int .i64 0) := by simp [World.cell?, hw1]
    have r1 : w1.cell? ⟨w.heap.size, 1, none⟩ = some (.int .i64 0) := by simp [World.cell?, hw1]
    have HW1 := Lib.hid hw1
    clear hw1 hb hnew
    go_region_held3 (fun _ => True) (exact trivial) (fail)
    have hfin := set2_cells HW1.out (.int .i64 q1) (.int .i64 q2)
    go_wp2
    refine bodyPost_ret (results_c (xs := [.int .i64 q1, .int .i64 q2]) rfl rfl agF zgF (two_cells (by show World.cell? _ _ = _; exact (Lib.cell_of_heap hfin _).trans rfl) (by show World.cell? _ _ = _; exact (Lib.cell_of_heap hfin _).trans rfl))) rfl ?_
    exact ⟨by rw [HQ.out], (below_set (below_set HB1.out (Nat.le_refl _) _) (Nat.le_refl _) _).drew⟩
end Go.Proofs.YthgllfbigcoaiaaGreatDoor
namespace Go.Proofs.YthgllfbigcoaiaaGreatDoor
open Go Go.RowKit Go.Lib
set_option maxRecDepth 100000
set_option maxHeartbeats 8000000 in
theorem refQuotient_any (h g : Nat) (w : World) (hh : h ≤ 4611686018427387904) (hg : g ≤ 4611686018427387904) : Calls Tryz.prog 45 #[.int .i64 h, .int .i64 g] w fun e w' => e = .returned (quoV h g) ∧ Below w.heap.size w w' := by
  have agF := Tryz.isAgg35
  have zgF := Tryz.sizeOf35
  have HQ := Lib.hid (show quoV h g = if h = 0 ∨ g = 0 then .agg #[.int .i64 0, .int .i64 1] else .agg #[.int .i64 ((h / Nat.gcd h g : Nat) : Int), .int .i64 ((g / Nat.gcd h g : Nat) : Int)] from rfl)
  have hnew := (MapKept.heap_alloc w (.cells #[.int .i64 0, .int .i64 0] 35)).1
  by_cases h0 : h = 0 ∨ g = 0
  · rw [if_pos h0] at HQ
    have hz : ((h : Int) == 0) = true ∨ (((h : Int) == 0) = false ∧ ((g : Int) == 0) = true) := by
      by_cases e : h = 0
      · exact .inl (by simp; omega)
      · exact .inr ⟨by simp; omega, by simp; omega⟩
    clear h0
    rcases hz with hz | ⟨hz, hz2⟩
    all_goals
      go_enter Tryz.func45, Tryz.ntmps45
      go_wp2
      refine bodyPost_ret (results_c (xs := [.int .i64 0, .int .i64 1]) rfl rfl agF zgF (two_cells (by simp) (by simp))) rfl ?_
      exact ⟨by rw [HQ.out], below_box _⟩
  · rw [if_neg h0] at HQ
    have hz : ((h : Int) == 0) = false := by simp; omega
    have hz2 : ((g : Int) == 0) = false := by simp; omega
    have HW0 : Hid (Below w.heap.size w (w.alloc (.cells #[.int .i64 0, .int .i64 0] 35))) := below_box _
    have HN := Lib.hid hnew
    clear hnew
    go_enter Tryz.func45, Tryz.ntmps45
    go_wp2
    generalize w.alloc (.cells #[.int .i64 0, .int .i64 0] 35) = W0 at *
    have HszG : Hid (w.heap.size < W0.heap.size) := lt_of_block HN.out
    go_loopw [5, 6] (fun xv yv wr => ∃ x y : Nat, xv = .int .i64 x ∧ yv = .int .i64 y ∧ x ≤ 4611686018427387904 ∧ y ≤ 4611686018427387904 ∧ Hid (Nat.gcd x y = Nat.gcd h g) ∧ Hid (Below W0.heap.size W0 wr)) (fun _ yv _ => (RowKit.intOf yv).toNat)
    case atStart => exact ⟨h, g, rfl, rfl, hh, hg, rfl, Below.refl _ _⟩
    case round =>
      obtain ⟨x, y, rfl, rfl, hx, hy, HG, HBW⟩ := hrel
      cases y with
      | zero =>
        have HX : x = Nat.gcd h g := by have := HG.out; rwa [Nat.gcd_zero_right] at this
        have hd0 : ¬ Nat.gcd h g = 0 := fun e => h0 (.inl (Nat.gcd_eq_zero_iff.1 e).1)
        have hq1 : Int.tdiv (h : Int) ((Nat.gcd h g : Nat) : Int) = ((h / Nat.gcd h g : Nat) : Int) := rfl
        have hq2 : Int.tdiv (g : Int) ((Nat.gcd h g : Nat) : Int) = ((g / Nat.gcd h g : Nat) : Int) := rfl
        have hb1 : h / Nat.gcd h g ≤ 4611686018427387904 := Nat.le_trans (Nat.div_le_self _ _) hh
        have hb2 : g / Nat.gcd h g ≤ 4611686018427387904 := Nat.le_trans (Nat.div_le_self _ _) hg
        clear HG
        subst HX
        generalize h / Nat.gcd h g = q1 at *
        generalize g / Nat.gcd h g = q2 at *
        generalize Nat.gcd h g = d at *
        have hd1 : ((d : Int) == 0) = false := by simp; omega
        have hd2 : ¬ (d : Int) = 0 := by omega
        have wq1 : IntKind.i64.wrap (q1 : Int) = (q1 : Int) := by rw [IntKind.wrap_i64] <;> omega
        have wq2 : IntKind.i64.wrap (q2 : Int) = (q2 : Int) := by rw [IntKind.wrap_i64] <;> omega
        have hw1 : wr.heap[w.heap.size]? = some (.cells #[.int .i64 0, .int .i64 0] 35 (0, 0)) := (HBW.out.block _ HszG.out).trans HN.out
        have HB1 := Lib.hid (below_next HW0.out HBW.out)
        have f0 : wr.frozen? ⟨w.heap.size, 0, none⟩ = false := by simp [World.frozen?, hw1]
        have f1 : wr.frozen? ⟨w.heap.size, 1, none⟩ = false := by simp [World.frozen?, hw1]
        have r0 : wr.cell? ⟨w.heap.size, 0, none⟩ = some (.int .i64 0) := by simp [World.cell?, hw1]
        have r1 : wr.cell? ⟨w.heap.size, 1, none⟩ = some (.int .i64 0) := by simp [World.cell?, hw1]
        have HW1 := Lib.hid hw1
        clear hw1
        go_wp2
        go_region_held3 (fun _ => True) (exact trivial) (fail)
        have hfin := set2_cells HW1.out (.int .i64 q1) (.int .i64 q2)
        go_wp2
        refine bodyPost_ret (results_c (xs := [.int .i64 q1, .int .i64 q2]) rfl rfl agF zgF (two_cells (by show World.cell? _ _ = _; exact (Lib.cell_of_heap hfin _).trans rfl) (by show World.cell? _ _ = _; exact (Lib.cell_of_heap hfin _).trans rfl))) rfl ?_
        exact ⟨by rw [HQ.out], (below_set (below_set HB1.out (Nat.le_refl _) _) (Nat.le_refl _) _).drew⟩
      | succ y =>
        have hne : ¬ ((y + 1 : Nat) : Int) = 0 := by omega
        have HG2 : Hid (Nat.gcd (y + 1) (x % (y + 1)) = Nat.gcd h g) := by show Nat.gcd (y + 1) (x % (y + 1)) = _; rw [← HG.out, Nat.gcd_comm x, Nat.gcd_rec (y + 1) x, Nat.gcd_comm]
        have hlt : x % (y + 1) < y + 1 := Nat.mod_lt x (Nat.succ_pos y)
        have hmod : Int.tmod (x : Int) ((y + 1 : Nat) : Int) = ((x % (y + 1) : Nat) : Int) := rfl
        clear HG
        generalize y + 1 = z at *
        generalize x % z = r at *
        have hzz : ((z : Int) == 0) = false := by simpa using hne
        have hzz2 : ((z : Int) != 0) = true := by simpa using hne
        go_wp2
        go_quiet (fail)
        go_wp2
        go_roundw
        case rel => exact ⟨z, r, rfl, rfl, hy, by omega, HG2.out, below_next HBW.out (bdN _ _)⟩
        case measure => simp [RowKit.intOf] <;> omega
/-- the error of lists of lists that are to be compared -/
def sidesE (m n : Nat) : Int := if 256 < m then 3 else if m = n then 0 else 1
set_option maxHeartbeats 4000000 in
theorem checkSides_any (ls ms : List (Value × List ByteArray)) (va vb : Value) (w : World) (ha : ListsAt w va ls) (hb : ListsAt w vb ms) : Calls Tryz.prog 43 #[va, vb] w fun e w' => e = .returned (.int .u8 (sidesE ls.length ms.length)) ∧ w' = w := by
  obtain ⟨⟨p, cap, rfl, hl, hc, hrA⟩, hza⟩ := ha
  obtain ⟨⟨p2, cap2, rfl, hl2, hc2, hrB⟩, hzb⟩ := hb
  unfold maxLen at hc hc2
  clear hrA hrB hza hzb
  have HS := Lib.hid (show sidesE ls.length ms.length = if 256 < ls.length then 3 else if ls.length = ms.length then 0 else 1 from rfl)
  by_cases h1 : 256 < ls.length
  · rw [if_pos h1] at HS
    have i1 : (256 : Int) < (ls.length : Int) := by omega
    go_enter Tryz.func43, Tryz.ntmps43
    go_wp2
    go_ret
    exact ⟨by rw [HS.out]; rfl, rfl⟩
  · rw [if_neg h1] at HS
    have i1 : ¬ (256 : Int) < (ls.length : Int) := by omega
    by_cases h2 : ls.length = ms.length
    · rw [if_pos h2] at HS
      have i2 : ((ls.length : Int) != (ms.length : Int)) = false := by simp; omega
      clear h2
      go_enter Tryz.func43, Tryz.ntmps43
      go_wp2
      go_ret
      exact ⟨by rw [HS.out]; rfl, rfl⟩
    · rw [if_neg h2] at HS
      have i2 : ((ls.length : Int) != (ms.length : Int)) = true := by simp; omega
      clear h2
      go_enter Tryz.func43, Tryz.ntmps43
      go_wp2
      go_ret
      exact ⟨by rw [HS.out]; rfl, rfl⟩
end Go.Proofs.YthgllfbigcoaiaaGreatDoor
namespace Go.Proofs.YthgllfbigcoaiaaGreatDoor
open Go Go.RowKit Go.Lib
set_option maxRecDepth 100000
def mvX (a b : List ByteArray) (n : Int) : Nat := if 512 < a.length ∨ 512 < b.length then 0 else if n < 1 ∨ 4 < n then 0 else mtQ a b n.toNat
def mvY (a b : List ByteArray) (n : Int) : Nat := if 512 < a.length ∨ 512 < b.length then 0 else if n < 1 ∨ 4 < n then 0 else (gramsN a.length n).toNat
def mvZ (a b : List ByteArray) (n : Int) : Int := if 512 < a.length ∨ 512 < b.length then 0 else if n < 1 ∨ 4 < n then 0 else gramsN b.length n
def mvE (a b : List ByteArray) (n : Int) : Int := if 512 < a.length ∨ 512 < b.length then 3 else if n < 1 ∨ 4 < n then 1 else 0
theorem matchV_eq (a b : List ByteArray) (n : Int) : matchV a b n = .tuple #[.int .i64 (mvX a b n), .int .i64 (mvY a b n), .int .i64 (mvZ a b n), .int .u8 (mvE a b n)] := by
  unfold matchV mvX mvY mvZ mvE
  split
  · rfl
  · split
    · rfl
    · have : ((gramsN a.length n).toNat : Int) = gramsN a.length n := by unfold gramsN; omega
      rw [this]
theorem mvX_le (a b : List ByteArray) (n : Int) : mvX a b n ≤ 512 := by
  unfold mvX
  split
  · omega
  · split
    · omega
    · rename_i h1 h2
      have := mtQ_left a b n.toNat
      omega
theorem mvY_le (a b : List ByteArray) (n : Int) : mvY a b n ≤ 512 := by
  unfold mvY
  split
  · omega
  · split
    · omega
    · unfold gramsN; omega
/-- a fraction with an error -/
def frE (e : Int) : Value := .tuple #[.agg #[.int .i64 0, .int .i64 0], .int .u8 e]
def frV (h g : Nat) : Value := .tuple #[quoV h g, .int .u8 0]
/-- a fold over pairs: sums of two numbers, or the first error -/
def sumAt (E : Nat → Int) (X Y : Nat → Nat) : Nat → Nat → Nat → Nat → Value
  | 0, _, h, g => frV h g
  | f + 1, i, h, g => if E i = 0 then sumAt E X Y f (i + 1) (h + X i) (g + Y i) else frE (E i)
theorem sumAt_ok {E : Nat → Int} {X Y : Nat → Nat} {f i h g : Nat} (he : E i = 0) : sumAt E X Y (f + 1) i h g = sumAt E X Y f (i + 1) (h + X i) (g + Y i) := if_pos he
theorem sumAt_err {E : Nat → Int} {X Y : Nat → Nat} {f i h g : Nat} (he : ¬ E i = 0) : sumAt E X Y (f + 1) i h g = frE (E i) := if_neg he
def pairsV (E : Nat → Int) (X Y : Nat → Nat) (m n : Nat) : Value := if sidesE m n = 0 then sumAt E X Y m 0 0 0 else frE (sidesE m n)
theorem quoV_form (h g : Nat) : ∃ x y : Int, quoV h g = .agg #[.int .i64 x, .int .i64 y] := by
  unfold quoV
  split <;> exact ⟨_, _, rfl⟩
theorem sumAt_form {E : Nat → Int} {X Y : Nat → Nat} : ∀ f i h g, ∃ x y e : Int, sumAt E X Y f i h g = .tuple #[.agg #[.int .i64 x, .int .i64 y], .int .u8 e]
  | 0, i, h, g => by
    obtain ⟨x, y, e⟩ := quoV_form h g
    exact ⟨x, y, 0, by rw [sumAt, frV, e]⟩
  | f + 1, i, h, g => by
    by_cases he : E i = 0
    · rw [sumAt_ok he]; exact sumAt_form f _ _ _
    · rw [sumAt_err he]; exact ⟨0, 0, E i, rfl⟩
theorem pairsV_form (E : Nat → Int) (X Y : Nat → Nat) (m n : Nat) : ∃ x y e : Int, pairsV E X Y m n = .tuple #[.agg #[.int .i64 x, .int .i64 y], .int .u8 e] := by
  unfold pairsV
  split
  · exact sumAt_form _ _ _ _
  · exact ⟨0, 0, _, rfl⟩
theorem results_ct0 {fn : Func} {p u : Tmp} {ty : TypeId} (h : fn.results = #[.cell p ty, .tmp u]) (tmps : Array Value) (P : Program) (w : World) :
    (results fn tmps).run P w = ((asAddr (tmps.getD p undef)).run P w).andThen fun a w1 => ((loadVar ty a).run P w1).andThen fun v w2 => .ok (.tuple #[v, tmps.getD u undef]) w2 := by
  simp only [results, h]
  simp [Sem.run_bind, Result.andThen]
theorem results_ct {fn : Func} {p u : Tmp} {ty : TypeId} (h : fn.results = #[.cell p ty, .tmp u]) {tmps : Array Value} {P : Program} {w : World} {a : Addr} {xs : List Value} {v : Value}
    (ha : tmps.getD p undef = .pointer (some a)) (hv : tmps.getD u undef = v) (iy : ∀ w, (isAgg ty).run P w = .ok true w) (sy : ∀ w, (sizeOf ty).run P w = .ok xs.length w)
    (cx : ∀ j v, xs[j]? = some v → w.cell? (a.add j) = some v) :
    (results fn tmps).run P w = .ok (.tuple #[.agg xs.toArray, v]) w := by
  have hx := run_loadCells_list (P := P) w a xs cx
  rw [results_ct0 h, ha, hv]
  simp [Result.andThen, asAddr, loadVar, iy, sy, hx]
/-- one of several lists -/
theorem ListsAt.one {w : World} {p : Option Addr} {cap : Nat} {ls : List (Value × List ByteArray)} (h : ListsAt w (.slice p ls.length cap) ls) {i : Nat} (hi : i < ls.length) :
    ∃ A q c, p = some A ∧ (ls.getD i noList).1 = .slice q (ls.getD i noList).2.length c ∧ w.cell? (A.add i) = some (.slice q (ls.getD i noList).2.length c) ∧ WdsAt w (.slice q (ls.getD i noList).2.length c) (ls.getD i noList).2 := by
  obtain ⟨⟨p', cap', e, h1, h2, h3⟩, hz⟩ := h
  obtain ⟨rfl, _, rfl⟩ : p = p' ∧ ls.length = ls.length ∧ cap = cap' := by simpa using e
  obtain ⟨A, rfl, hA, hc⟩ := h3 (by omega)
  have hw := hz _ (ls_mem hi)
  have x0 := hc i 0 hi (by omega)
  rw [Nat.mul_one, Nat.add_zero] at x0
  have hw2 := hw
  obtain ⟨⟨q, c, hq, _⟩, _⟩ := hw2
  simp only [hq] at x0
  rw [hq] at hw
  exact ⟨A, q, c, rfl, hq, x0, hw⟩
end Go.Proofs.YthgllfbigcoaiaaGreatDoor
namespace Go.Proofs.YthgllfbigcoaiaaGreatDoor
open Go Go.RowKit Go.Lib
set_option maxRecDepth 100000
set_option maxHeartbeats 16000000 in
theorem precision_any (ls ms : List (Value × List ByteArray)) (va vb : Value) (n : Int) (w : World) (ha : ListsAt w va ls) (hb : ListsAt w vb ms) : Calls Tryz.prog 16 #[va, vb, .int .i64 n] w fun e w' => e = .returned (pairsV (fun i => mvE (ls.getD i noList).2 (ms.getD i noList).2 n) (fun i => mvX (ls.getD i noList).2 (ms.getD i noList).2 n) (fun i => mvY (ls.getD i noList).2 (ms.getD i noList).2 n) ls.length ms.length) ∧ Below w.heap.size w w' := by
  have agF := Tryz.isAgg35
  have zgF := Tryz.sizeOf35
  have HA := Lib.hid ha
  have HB := Lib.hid hb
  have HW0 : Hid (Below w.heap.size w (w.alloc (.cells #[.int .i64 0, .int .i64 0] 35))) := below_box _
  have HN := Lib.hid (MapKept.heap_alloc w (.cells #[.int .i64 0, .int .i64 0] 35)).1
  have cS := fun w' h h2 => checkSides_any ls ms va vb w' h h2
  obtain ⟨⟨p, cap, rfl, hl, hc, hrA⟩, hza⟩ := ha
  obtain ⟨⟨p2, cap2, rfl, hl2, hc2, hrB⟩, hzb⟩ := hb
  unfold maxLen at hc hc2
  clear hrA hrB hza hzb
  by_cases hs : sidesE ls.length ms.length = 0
  · have h256 : ls.length ≤ 256 ∧ ls.length = ms.length := by
      unfold sidesE at hs
      split at hs
      · cases hs
      · split at hs
        · omega
        · cases hs
    have HR : Hid (pairsV (fun i => mvE (ls.getD i noList).2 (ms.getD i noList).2 n) (fun i => mvX (ls.getD i noList).2 (ms.getD i noList).2 n) (fun i => mvY (ls.getD i noList).2 (ms.getD i noList).2 n) ls.length ms.length = sumAt (fun i => mvE (ls.getD i noList).2 (ms.getD i noList).2 n) (fun i => mvX (ls.getD i noList).2 (ms.getD i noList).2 n) (fun i => mvY (ls.getD i noList).2 (ms.getD i noList).2 n) ls.length 0 0 0) := by show _ = _; unfold pairsV; rw [if_pos hs]
    obtain ⟨h1, h2⟩ := h256
    rw [hs] at cS
    have i1 : ¬ (256 : Int) < (ls.length : Int) := by omega
    have i2 : ((ls.length : Int) != (ms.length : Int)) = false := by simp; omega
    generalize pairsV (fun i => mvE (ls.getD i noList).2 (ms.getD i noList).2 n) (fun i => mvX (ls.getD i noList).2 (ms.getD i noList).2 n) (fun i => mvY (ls.getD i noList).2 (ms.getD i noList).2 n) ls.length ms.length = R at *
    have HH2 := Lib.hid h2
    clear hs h2
    go_enter Tryz.func16, Tryz.ntmps16
    go_wp2_with (go_at_call 43; (with_reducible refine (cS _ (HA.out.step HW0.out) (HB.out.step HW0.out)).mono ?_); rintro e w1 ⟨rfl, rfl⟩)
    generalize w.alloc (.cells #[.int .i64 0, .int .i64 0] 35) = W0 at *
    go_loopw [9, 10, 11, 12, 13, 14, 15, 25] (fun hv gv _ _ _ _ _ iv wr => ∃ i h g : Nat, iv = .int .i64 i ∧ hv = .int .i64 h ∧ gv = .int .i64 g ∧ i ≤ ls.length ∧ h ≤ 512 * i ∧ g ≤ 512 * i ∧ Hid (R = sumAt (fun i => mvE (ls.getD i noList).2 (ms.getD i noList).2 n) (fun i => mvX (ls.getD i noList).2 (ms.getD i noList).2 n) (fun i => mvY (ls.getD i noList).2 (ms.getD i noList).2 n) (ls.length - i) i h g) ∧ Hid (Below w.heap.size w wr) ∧ Hid (wr.heap[w.heap.size]? = some (.cells #[.int .i64 0, .int .i64 0] 35 (0, 0)))) (fun _ _ _ _ _ _ _ iv _ => ls.length - (RowKit.intOf iv).toNat)
    case atStart => exact ⟨0, 0, 0, rfl, rfl, rfl, Nat.zero_le _, Nat.zero_le _, Nat.zero_le _, HR.out, HW0.out, HN.out⟩
    case round =>
      obtain ⟨i, h, g, rfl, rfl, rfl, hi, hh, hg, HS, HW, HC⟩ := hrel
      by_cases hlt : i < ls.length
      · have hii : (i : Int) < (ls.length : Int) := by omega
        have hii2 : (i : Int) < (ms.length : Int) := by have := HH2.out; omega
        have hsz := lt_of_block HC.out
        obtain ⟨A, q, c, rfl, _, x0, hwA⟩ := (HA.out.step HW.out).one hlt
        obtain ⟨A2, q2, c2, rfl, _, y0, hwB⟩ := (HB.out.step HW.out).one (i := i) (by have := HH2.out; omega)
        have hs2 := HS.out
        rw [show ls.length - i = (ls.length - (i + 1)) + 1 by omega] at hs2
        have HS2 := Lib.hid hs2
        clear hs2 HR HS
        have HWA : Hid (WdsAt wr.drew _ _) := hwA.step (Below.refl _ _).drew
        have HWB : Hid (WdsAt wr.drew _ _) := hwB.step (Below.refl _ _).drew
        have cM := matches_any _ _ _ _ n wr.drew HWA.out HWB.out
        rw [matchV_eq] at cM
        have bx := mvX_le (ls.getD i noList).2 (ms.getD i noList).2 n
        have byy := mvY_le (ls.getD i noList).2 (ms.getD i noList).2 n
        have hlenA := hwA.len
        have hlenB := hwB.len
        unfold maxLen at hlenA hlenB
        clear hwA hwB
        by_cases he : mvE (ls.getD i noList).2 (ms.getD i noList).2 n = 0
        · have HS3 := Lib.hid (HS2.out.trans (sumAt_ok he))
          rw [he] at cM
          clear HS2 he
          try simp only at HS3
          generalize mvX (ls.getD i noList).2 (ms.getD i noList).2 n = X1 at *
          generalize mvY (ls.getD i noList).2 (ms.getD i noList).2 n = Y1 at *
          generalize mvZ (ls.getD i noList).2 (ms.getD i noList).2 n = Z1 at *
          generalize (ms.getD i noList).2 = M1 at *
          generalize (ls.getD i noList).2 = L1 at *
          go_wp2
          go_region_held3 (fun w' => w'.cell? (A.add i) = some (.slice q L1.length c) ∧ w'.cell? (A2.add i) = some (.slice q2 M1.length c2))
            (first | exact ⟨x0, y0⟩ | (go_keep; done))
            ((go_simp; go_at_call 12; (with_reducible refine cM.mono ?_); rintro e w2 ⟨rfl, hb2⟩; have x1 := (hb2.cell (World.block_lt_of_cell? wr.drew _ x0)).trans x0; have y1 := (hb2.cell (World.block_lt_of_cell? wr.drew _ y0)).trans y0; clear x0 y0; have x0 := x1; have y0 := y1; clear x1 y1; have HW2 : Hid (Below w.heap.size w w2) := below_next (wr := wr.drew) HW.out.drew hb2; have HC2 : Hid (w2.heap[w.heap.size]? = some (.cells #[.int .i64 0, .int .i64 0] 35 (0, 0))) := (hb2.block _ hsz).trans HC.out; clear hb2))
          rename_i hHeld
          clear hHeld
          go_wp2
          go_roundw
          case rel => exact ⟨i + 1, h + X1, g + Y1, by go_num, by go_num, by go_num, hlt, by omega, by omega, HS3.out, HW2.out, HC2.out⟩
          case measure => simp [RowKit.intOf] <;> omega
        · have HS3 := Lib.hid (HS2.out.trans (sumAt_err he))
          clear HS2
          try simp only at HS3
          have he2 : (mvE (ls.getD i noList).2 (ms.getD i noList).2 n != 0) = true := by simpa using he
          generalize mvE (ls.getD i noList).2 (ms.getD i noList).2 n = E1 at *
          generalize mvX (ls.getD i noList).2 (ms.getD i noList).2 n = X1 at *
          generalize mvY (ls.getD i noList).2 (ms.getD i noList).2 n = Y1 at *
          generalize mvZ (ls.getD i noList).2 (ms.getD i noList).2 n = Z1 at *
          generalize (ms.getD i noList).2 = M1 at *
          generalize (ls.getD i noList).2 = L1 at *
          go_wp2
          go_region_held3 (fun w' => w'.cell? (A.add i) = some (.slice q L1.length c) ∧ w'.cell? (A2.add i) = some (.slice q2 M1.length c2))
            (first | exact ⟨x0, y0⟩ | (go_keep; done))
            ((go_simp; go_at_call 12; (with_reducible refine cM.mono ?_); rintro e w2 ⟨rfl, hb2⟩; have x1 := (hb2.cell (World.block_lt_of_cell? wr.drew _ x0)).trans x0; have y1 := (hb2.cell (World.block_lt_of_cell? wr.drew _ y0)).trans y0; clear x0 y0; have x0 := x1; have y0 := y1; clear x1 y1; have HW2 : Hid (Below w.heap.size w w2) := below_next (wr := wr.drew) HW.out.drew hb2; have HC2 : Hid (w2.heap[w.heap.size]? = some (.cells #[.int .i64 0, .int .i64 0] 35 (0, 0))) := (hb2.block _ hsz).trans HC.out; clear hb2))
          rename_i hHeld
          clear hHeld
          have hw1 := HC2.out
          have f0 : w2.frozen? ⟨w.heap.size, 0, none⟩ = false := by simp [World.frozen?, hw1]
          have f1 : w2.frozen? ⟨w.heap.size, 1, none⟩ = false := by simp [World.frozen?, hw1]
          have r0 : w2.cell? ⟨w.heap.size, 0, none⟩ = some (.int .i64 0) := by simp [World.cell?, hw1]
          have r1 : w2.cell? ⟨w.heap.size, 1, none⟩ = some (.int .i64 0) := by simp [World.cell?, hw1]
          clear hw1
          go_wp2
          have hfin := set2_cells HC2.out (.int .i64 0) (.int .i64 0)
          refine bodyPost_ret (results_ct (xs := [.int .i64 0, .int .i64 0]) rfl rfl rfl agF zgF (two_cells ((Lib.cell_of_heap hfin _).trans rfl) ((Lib.cell_of_heap hfin _).trans rfl))) rfl ?_
          exact ⟨by rw [HS3.out]; rfl, below_set (below_set HW2.out (Nat.le_refl _) _) (Nat.le_refl _) _⟩
      · have hii : ¬ (i : Int) < (ls.length : Int) := by omega
        have hs3 := HS.out
        rw [show ls.length - i = 0 by omega] at hs3
        have HS3 := Lib.hid hs3
        have hsz := lt_of_block HC.out
        have cQ := quotient_any h g wr (by omega) (by omega)
        obtain ⟨qx, qy, hq⟩ := quoV_form h g
        have HQ := Lib.hid hq
        rw [hq] at cQ
        clear hs3 HS hq HR
        go_wp2_with (go_at_call 44; (with_reducible refine cQ.mono ?_); rintro e w2 ⟨rfl, hb2⟩; have HW2 := Lib.hid (below_next HW.out hb2); have HC2 : Hid (w2.heap[w.heap.size]? = some (.cells #[.int .i64 0, .int .i64 0] 35 (0, 0))) := (hb2.block _ hsz).trans HC.out; have hw1 := HC2.out; have f0 : w2.frozen? ⟨w.heap.size, 0, none⟩ = false := (by simp [World.frozen?, hw1]); have f1 : w2.frozen? ⟨w.heap.size, 1, none⟩ = false := (by simp [World.frozen?, hw1]); have r0 : w2.cell? ⟨w.heap.size, 0, none⟩ = some (.int .i64 0) := (by simp [World.cell?, hw1]); have r1 : w2.cell? ⟨w.heap.size, 1, none⟩ = some (.int .i64 0) := (by simp [World.cell?, hw1]); clear hw1 hb2)
        have hfin := set2_cells HC2.out (.int .i64 qx) (.int .i64 qy)
        refine bodyPost_ret (results_ct (xs := [.int .i64 qx, .int .i64 qy]) rfl rfl rfl agF zgF (two_cells ((Lib.cell_of_heap hfin _).trans rfl) ((Lib.cell_of_heap hfin _).trans rfl))) rfl ?_
        exact ⟨by rw [HS3.out, sumAt, frV, HQ.out]; rfl, below_set (below_set HW2.out (Nat.le_refl _) _) (Nat.le_refl _) _⟩
  · have HR : Hid (pairsV (fun i => mvE (ls.getD i noList).2 (ms.getD i noList).2 n) (fun i => mvX (ls.getD i noList).2 (ms.getD i noList).2 n) (fun i => mvY (ls.getD i noList).2 (ms.getD i noList).2 n) ls.length ms.length = frE (sidesE ls.length ms.length)) := by show _ = _; unfold pairsV; rw [if_neg hs]
    generalize pairsV (fun i => mvE (ls.getD i noList).2 (ms.getD i noList).2 n) (fun i => mvX (ls.getD i noList).2 (ms.getD i noList).2 n) (fun i => mvY (ls.getD i noList).2 (ms.getD i noList).2 n) ls.length ms.length = R at *
    have hs2 : (sidesE ls.length ms.length != 0) = true := by simpa using hs
    generalize sidesE ls.length ms.length = E1 at *
    go_enter Tryz.func16, Tryz.ntmps16
    go_wp2_with (go_at_call 43; (with_reducible refine (cS _ (HA.out.step HW0.out) (HB.out.step HW0.out)).mono ?_); rintro e w1 ⟨rfl, rfl⟩)
    refine bodyPost_ret (results_ct (xs := [.int .i64 0, .int .i64 0]) rfl rfl rfl agF zgF (two_cells (by simp) (by simp))) rfl ?_
    exact ⟨by rw [HR.out]; rfl, HW0.out⟩
set_option maxHeartbeats 16000000 in
theorem refPrecision_any (ls ms : List (Value × List ByteArray)) (va vb : Value) (n : Int) (w : World) (ha : ListsAt w va ls) (hb : ListsAt w vb ms) : Calls Tryz.prog 17 #[va, vb, .int .i64 n] w fun e w' => e = .returned (pairsV (fun i => mvE (ls.getD i noList).2 (ms.getD i noList).2 n) (fun i => mvX (ls.getD i noList).2 (ms.getD i noList).2 n) (fun i => mvY (ls.getD i noList).2 (ms.getD i noList).2 n) ls.length ms.length) ∧ Below w.heap.size w w' := by
  have agF := Tryz.isAgg35
  have zgF := Tryz.sizeOf35
  have HA := Lib.hid ha
  have HB := Lib.hid hb
  have HW0 : Hid (Below w.heap.size w (w.alloc (.cells #[.int .i64 0, .int .i64 0] 35))) := below_box _
  have HN := Lib.hid (MapKept.heap_alloc w (.cells #[.int .i64 0, .int .i64 0] 35)).1
  have cS := fun w' h h2 => checkSides_any ls ms va vb w' h h2
  obtain ⟨⟨p, cap, rfl, hl, hc, hrA⟩, hza⟩ := ha
  obtain ⟨⟨p2, cap2, rfl, hl2, hc2, hrB⟩, hzb⟩ := hb
  unfold maxLen at hc hc2
  clear hrA hrB hza hzb
  by_cases hs : sidesE ls.length ms.length = 0
  · have h256 : ls.length ≤ 256 ∧ ls.length = ms.length := by
      unfold sidesE at hs
      split at hs
      · cases hs
      · split at hs
        · omega
        · cases hs
    have HR : Hid (pairsV (fun i => mvE (ls.getD i noList).2 (ms.getD i noList).2 n) (fun i => mvX (ls.getD i noList).2 (ms.getD i noList).2 n) (fun i => mvY (ls.getD i noList).2 (ms.getD i noList).2 n) ls.length ms.length = sumAt (fun i => mvE (ls.getD i noList).2 (ms.getD i noList).2 n) (fun i => mvX (ls.getD i noList).2 (ms.getD i noList).2 n) (fun i => mvY (ls.getD i noList).2 (ms.getD i noList).2 n) ls.length 0 0 0) := by show _ = _; unfold pairsV; rw [if_pos hs]
    obtain ⟨h1, h2⟩ := h256
    rw [hs] at cS
    have i1 : ¬ (256 : Int) < (ls.length : Int) := by omega
    have i2 : ((ls.length : Int) != (ms.length : Int)) = false := by simp; omega
    generalize pairsV (fun i => mvE (ls.getD i noList).2 (ms.getD i noList).2 n) (fun i => mvX (ls.getD i noList).2 (ms.getD i noList).2 n) (fun i => mvY (ls.getD i noList).2 (ms.getD i noList).2 n) ls.length ms.length = R at *
    have HH2 := Lib.hid h2
    clear hs h2
    go_enter Tryz.func17, Tryz.ntmps17
    go_wp2_with (go_at_call 43; (with_reducible refine (cS _ (HA.out.step HW0.out) (HB.out.step HW0.out)).mono ?_); rintro e w1 ⟨rfl, rfl⟩)
    generalize w.alloc (.cells #[.int .i64 0, .int .i64 0] 35) = W0 at *
    go_loopw [8, 9, 10, 11, 12, 13, 14] (fun hv gv iv _ _ _ _ wr => ∃ i h g : Nat, iv = .int .i64 i ∧ hv = .int .i64 h ∧ gv = .int .i64 g ∧ i ≤ ls.length ∧ h ≤ 512 * i ∧ g ≤ 512 * i ∧ Hid (R = sumAt (fun i => mvE (ls.getD i noList).2 (ms.getD i noList).2 n) (fun i => mvX (ls.getD i noList).2 (ms.getD i noList).2 n) (fun i => mvY (ls.getD i noList).2 (ms.getD i noList).2 n) (ls.length - i) i h g) ∧ Hid (Below w.heap.size w wr) ∧ Hid (wr.heap[w.heap.size]? = some (.cells #[.int .i64 0, .int .i64 0] 35 (0, 0)))) (fun _ _ iv _ _ _ _ _ => ls.length - (RowKit.intOf iv).toNat)
    case atStart => exact ⟨0, 0, 0, rfl, rfl, rfl, Nat.zero_le _, Nat.zero_le _, Nat.zero_le _, HR.out, HW0.out, HN.out⟩
    case round =>
      obtain ⟨i, h, g, rfl, rfl, rfl, hi, hh, hg, HS, HW, HC⟩ := hrel
      by_cases hlt : i < ls.length
      · have hii : (i : Int) < (ls.length : Int) := by omega
        have hii2 : (i : Int) < (ms.length : Int) := by have := HH2.out; omega
        have hsz := lt_of_block HC.out
        obtain ⟨A, q, c, rfl, _, x0, hwA⟩ := (HA.out.step HW.out).one hlt
        obtain ⟨A2, q2, c2, rfl, _, y0, hwB⟩ := (HB.out.step HW.out).one (i := i) (by have := HH2.out; omega)
        have hs2 := HS.out
        rw [show ls.length - i = (ls.length - (i + 1)) + 1 by omega] at hs2
        have HS2 := Lib.hid hs2
        clear hs2 HR HS
        have HWA : Hid (WdsAt wr.drew _ _) := hwA.step (Below.refl _ _).drew
        have HWB : Hid (WdsAt wr.drew _ _) := hwB.step (Below.refl _ _).drew
        have cM := refMatches_any _ _ _ _ n wr.drew HWA.out HWB.out
        rw [matchV_eq] at cM
        have bx := mvX_le (ls.getD i noList).2 (ms.getD i noList).2 n
        have byy := mvY_le (ls.getD i noList).2 (ms.getD i noList).2 n
        have hlenA := hwA.len
        have hlenB := hwB.len
        unfold maxLen at hlenA hlenB
        clear hwA hwB
        by_cases he : mvE (ls.getD i noList).2 (ms.getD i noList).2 n = 0
        · have HS3 := Lib.hid (HS2.out.trans (sumAt_ok he))
          rw [he] at cM
          clear HS2 he
          try simp only at HS3
          generalize mvX (ls.getD i noList).2 (ms.getD i noList).2 n = X1 at *
          generalize mvY (ls.getD i noList).2 (ms.getD i noList).2 n = Y1 at *
          generalize mvZ (ls.getD i noList).2 (ms.getD i noList).2 n = Z1 at *
          generalize (ms.getD i noList).2 = M1 at *
          generalize (ls.getD i noList).2 = L1 at *
          go_wp2
          go_region_held3 (fun w' => w'.cell? (A.add i) = some (.slice q L1.length c) ∧ w'.cell? (A2.add i) = some (.slice q2 M1.length c2))
            (first | exact ⟨x0, y0⟩ | (go_keep; done))
            ((go_simp; go_at_call 13; (with_reducible refine cM.mono ?_); rintro e w2 ⟨rfl, hb2⟩; have x1 := (hb2.cell (World.block_lt_of_cell? wr.drew _ x0)).trans x0; have y1 := (hb2.cell (World.block_lt_of_cell? wr.drew _ y0)).trans y0; clear x0 y0; have x0 := x1; have y0 := y1; clear x1 y1; have HW2 : Hid (Below w.heap.size w w2) := below_next (wr := wr.drew) HW.out.drew hb2; have HC2 : Hid (w2.heap[w.heap.size]? = some (.cells #[.int .i64 0, .int .i64 0] 35 (0, 0))) := (hb2.block _ hsz).trans HC.out; clear hb2))
          rename_i hHeld
          clear hHeld
          go_wp2
          go_roundw
          case rel => exact ⟨i + 1, h + X1, g + Y1, by go_num, by go_num, by go_num, hlt, by omega, by omega, HS3.out, HW2.out, HC2.out⟩
          case measure => simp [RowKit.intOf] <;> omega
        · have HS3 := Lib.hid (HS2.out.trans (sumAt_err he))
          clear HS2
          try simp only at HS3
          have he2 : (mvE (ls.getD i noList).2 (ms.getD i noList).2 n != 0) = true := by simpa using he
          generalize mvE (ls.getD i noList).2 (ms.getD i noList).2 n = E1 at *
          generalize mvX (ls.getD i noList).2 (ms.getD i noList).2 n = X1 at *
          generalize mvY (ls.getD i noList).2 (ms.getD i noList).2 n = Y1 at *
          generalize mvZ (ls.getD i noList).2 (ms.getD i noList).2 n = Z1 at *
          generalize (ms.getD i noList).2 = M1 at *
          generalize (ls.getD i noList).2 = L1 at *
          go_wp2
          go_region_held3 (fun w' => w'.cell? (A.add i) = some (.slice q L1.length c) ∧ w'.cell? (A2.add i) = some (.slice q2 M1.length c2))
            (first | exact ⟨x0, y0⟩ | (go_keep; done))
            ((go_simp; go_at_call 13; (with_reducible refine cM.mono ?_); rintro e w2 ⟨rfl, hb2⟩; have x1 := (hb2.cell (World.block_lt_of_cell? wr.drew _ x0)).trans x0; have y1 := (hb2.cell (World.block_lt_of_cell? wr.drew _ y0)).trans y0; clear x0 y0; have x0 := x1; have y0 := y1; clear x1 y1; have HW2 : Hid (Below w.heap.size w w2) := below_next (wr := wr.drew) HW.out.drew hb2; have HC2 : Hid (w2.heap[w.heap.size]? = some (.cells #[.int .i64 0, .int .i64 0] 35 (0, 0))) := (hb2.block _ hsz).trans HC.out; clear hb2))
          rename_i hHeld
          clear hHeld
          have hw1 := HC2.out
          have f0 : w2.frozen? ⟨w.heap.size, 0, none⟩ = false := by simp [World.frozen?, hw1]
          have f1 : w2.frozen? ⟨w.heap.size, 1, none⟩ = false := by simp [World.frozen?, hw1]
          have r0 : w2.cell? ⟨w.heap.size, 0, none⟩ = some (.int .i64 0) := by simp [World.cell?, hw1]
          have r1 : w2.cell? ⟨w.heap.size, 1, none⟩ = some (.int .i64 0) := by simp [World.cell?, hw1]
          clear hw1
          go_wp2
          have hfin := set2_cells HC2.out (.int .i64 0) (.int .i64 0)
          refine bodyPost_ret (results_ct (xs := [.int .i64 0, .int .i64 0]) rfl rfl rfl agF zgF (two_cells ((Lib.cell_of_heap hfin _).trans rfl) ((Lib.cell_of_heap hfin _).trans rfl))) rfl ?_
          exact ⟨by rw [HS3.out]; rfl, below_set (below_set HW2.out (Nat.le_refl _) _) (Nat.le_refl _) _⟩
      · have hii : ¬ (i : Int) < (ls.length : Int) := by omega
        have hs3 := HS.out
        rw [show ls.length - i = 0 by omega] at hs3
        have HS3 := Lib.hid hs3
        have hsz := lt_of_block HC.out
        have cQ := refQuotient_any h g wr (by omega) (by omega)
        obtain ⟨qx, qy, hq⟩ := quoV_form h g
        have HQ := Lib.hid hq
        rw [hq] at cQ
        clear hs3 HS hq HR
        go_wp2_with (go_at_call 45; (with_reducible refine cQ.mono ?_); rintro e w2 ⟨rfl, hb2⟩; have HW2 := Lib.hid (below_next HW.out hb2); have HC2 : Hid (w2.heap[w.heap.size]? = some (.cells #[.int .i64 0, .int .i64 0] 35 (0, 0))) := (hb2.block _ hsz).trans HC.out; have hw1 := HC2.out; have f0 : w2.frozen? ⟨w.heap.size, 0, none⟩ = false := (by simp [World.frozen?, hw1]); have f1 : w2.frozen? ⟨w.heap.size, 1, none⟩ = false := (by simp [World.frozen?, hw1]); have r0 : w2.cell? ⟨w.heap.size, 0, none⟩ = some (.int .i64 0) := (by simp [World.cell?, hw1]); have r1 : w2.cell? ⟨w.heap.size, 1, none⟩ = some (.int .i64 0) := (by simp [World.cell?, hw1]); clear hw1 hb2)
        have hfin := set2_cells HC2.out (.int .i64 qx) (.int .i64 qy)
        refine bodyPost_ret (results_ct (xs := [.int .i64 qx, .int .i64 qy]) rfl rfl rfl agF zgF (two_cells ((Lib.cell_of_heap hfin _).trans rfl) ((Lib.cell_of_heap hfin _).trans rfl))) rfl ?_
        exact ⟨by rw [HS3.out, sumAt, frV, HQ.out]; rfl, below_set (below_set HW2.out (Nat.le_refl _) _) (Nat.le_refl _) _⟩
  · have HR : Hid (pairsV (fun i => mvE (ls.getD i noList).2 (ms.getD i noList).2 n) (fun i => mvX (ls.getD i noList).2 (ms.getD i noList).2 n) (fun i => mvY (ls.getD i noList).2 (ms.getD i noList).2 n) ls.length ms.length = frE (sidesE ls.length ms.length)) := by show _ = _; unfold pairsV; rw [if_neg hs]
    generalize pairsV (fun i => mvE (ls.getD i noList).2 (ms.getD i noList).2 n) (fun i => mvX (ls.getD i noList).2 (ms.getD i noList).2 n) (fun i => mvY (ls.getD i noList).2 (ms.getD i noList).2 n) ls.length ms.length = R at *
    by_cases h1 : 256 < ls.length
    · have hs2 : sidesE ls.length ms.length = 3 := by unfold sidesE; rw [if_pos h1]
      rw [hs2] at HR
      have i1 : (256 : Int) < (ls.length : Int) := by omega
      clear hs hs2
      go_enter Tryz.func17, Tryz.ntmps17
      go_wp2
      refine bodyPost_ret (results_ct (xs := [.int .i64 0, .int .i64 0]) rfl rfl rfl agF zgF (two_cells (by simp) (by simp))) rfl ?_
      exact ⟨by rw [HR.out]; rfl, HW0.out⟩
    · have h2 : ¬ ls.length = ms.length := fun e => hs (by unfold sidesE; rw [if_neg h1, if_pos e])
      have hs2 : sidesE ls.length ms.length = 1 := by unfold sidesE; rw [if_neg h1, if_neg h2]
      rw [hs2] at HR
      have i1 : ¬ (256 : Int) < (ls.length : Int) := by omega
      have i2 : ((ls.length : Int) != (ms.length : Int)) = true := by simp; omega
      clear hs hs2 h2
      go_enter Tryz.func17, Tryz.ntmps17
      go_wp2
      refine bodyPost_ret (results_ct (xs := [.int .i64 0, .int .i64 0]) rfl rfl rfl agF zgF (two_cells (by simp) (by simp))) rfl ?_
      exact ⟨by rw [HR.out]; rfl, HW0.out⟩
end Go.Proofs.YthgllfbigcoaiaaGreatDoor
namespace Go.Proofs.YthgllfbigcoaiaaGreatDoor
open Go Go.RowKit Go.Lib
set_option maxRecDepth 100000
set_option maxHeartbeats 16000000 in
theorem rate_any (ls ms : List (Value × List ByteArray)) (va vb : Value) (w : World) (ha : ListsAt w va ls) (hb : ListsAt w vb ms) : Calls Tryz.prog 18 #[va, vb] w fun e w' => e = .returned (pairsV (fun i => edE (ls.getD i noList).2 (ms.getD i noList).2) (fun i => edD (ls.getD i noList).2 (ms.getD i noList).2) (fun i => (ms.getD i noList).2.length) ls.length ms.length) ∧ Below w.heap.size w w' := by
  have agF := Tryz.isAgg35
  have zgF := Tryz.sizeOf35
  have HA := Lib.hid ha
  have HB := Lib.hid hb
  have HW0 : Hid (Below w.heap.size w (w.alloc (.cells #[.int .i64 0, .int .i64 0] 35))) := below_box _
  have HN := Lib.hid (MapKept.heap_alloc w (.cells #[.int .i64 0, .int .i64 0] 35)).1
  have cS := fun w' h h2 => checkSides_any ls ms va vb w' h h2
  obtain ⟨⟨p, cap, rfl, hl, hc, hrA⟩, hza⟩ := ha
  obtain ⟨⟨p2, cap2, rfl, hl2, hc2, hrB⟩, hzb⟩ := hb
  unfold maxLen at hc hc2
  clear hrA hrB hza hzb
  by_cases hs : sidesE ls.length ms.length = 0
  · have h256 : ls.length ≤ 256 ∧ ls.length = ms.length := by
      unfold sidesE at hs
      split at hs
      · cases hs
      · split at hs
        · omega
        · cases hs
    have HR : Hid (pairsV (fun i => edE (ls.getD i noList).2 (ms.getD i noList).2) (fun i => edD (ls.getD i noList).2 (ms.getD i noList).2) (fun i => (ms.getD i noList).2.length) ls.length ms.length = sumAt (fun i => edE (ls.getD i noList).2 (ms.getD i noList).2) (fun i => edD (ls.getD i noList).2 (ms.getD i noList).2) (fun i => (ms.getD i noList).2.length) ls.length 0 0 0) := by show _ = _; unfold pairsV; rw [if_pos hs]
    obtain ⟨h1, h2⟩ := h256
    rw [hs] at cS
    have i1 : ¬ (256 : Int) < (ls.length : Int) := by omega
    have i2 : ((ls.length : Int) != (ms.length : Int)) = false := by simp; omega
    generalize pairsV (fun i => edE (ls.getD i noList).2 (ms.getD i noList).2) (fun i => edD (ls.getD i noList).2 (ms.getD i noList).2) (fun i => (ms.getD i noList).2.length) ls.length ms.length = R at *
    have HH2 := Lib.hid h2
    clear hs h2
    go_enter Tryz.func18, Tryz.ntmps18
    go_wp2_with (go_at_call 43; (with_reducible refine (cS _ (HA.out.step HW0.out) (HB.out.step HW0.out)).mono ?_); rintro e w1 ⟨rfl, rfl⟩)
    generalize w.alloc (.cells #[.int .i64 0, .int .i64 0] 35) = W0 at *
    go_loopw [7, 8, 9, 10, 11, 12, 22] (fun hv gv _ _ _ _ iv wr => ∃ i h g : Nat, iv = .int .i64 i ∧ hv = .int .i64 h ∧ gv = .int .i64 g ∧ i ≤ ls.length ∧ h ≤ 512 * i ∧ g ≤ 512 * i ∧ Hid (R = sumAt (fun i => edE (ls.getD i noList).2 (ms.getD i noList).2) (fun i => edD (ls.getD i noList).2 (ms.getD i noList).2) (fun i => (ms.getD i noList).2.length) (ls.length - i) i h g) ∧ Hid (Below w.heap.size w wr) ∧ Hid (wr.heap[w.heap.size]? = some (.cells #[.int .i64 0, .int .i64 0] 35 (0, 0)))) (fun _ _ _ _ _ _ iv _ => ls.length - (RowKit.intOf iv).toNat)
    case atStart => exact ⟨0, 0, 0, rfl, rfl, rfl, Nat.zero_le _, Nat.zero_le _, Nat.zero_le _, HR.out, HW0.out, HN.out⟩
    case round =>
      obtain ⟨i, h, g, rfl, rfl, rfl, hi, hh, hg, HS, HW, HC⟩ := hrel
      by_cases hlt : i < ls.length
      · have hii : (i : Int) < (ls.length : Int) := by omega
        have hii2 : (i : Int) < (ms.length : Int) := by have := HH2.out; omega
        have hsz := lt_of_block HC.out
        obtain ⟨A, q, c, rfl, _, x0, hwA⟩ := (HA.out.step HW.out).one hlt
        obtain ⟨A2, q2, c2, rfl, _, y0, hwB⟩ := (HB.out.step HW.out).one (i := i) (by have := HH2.out; omega)
        have hs2 := HS.out
        rw [show ls.length - i = (ls.length - (i + 1)) + 1 by omega] at hs2
        have HS2 := Lib.hid hs2
        clear hs2 HR HS
        have HWA : Hid (WdsAt wr.drew _ _) := hwA.step (Below.refl _ _).drew
        have HWB : Hid (WdsAt wr.drew _ _) := hwB.step (Below.refl _ _).drew
        have cM := editsU_any _ _ _ _ wr.drew HWA.out HWB.out
        have hlm : ∀ l m : List ByteArray, edE l m = 0 → edD l m ≤ 512 ∧ m.length ≤ 512 := fun l m h0 => by
          unfold edE at h0
          unfold edD
          by_cases hbg : Big l m
          · rw [if_pos hbg] at h0; cases h0
          · rw [if_neg hbg]
            unfold Big at hbg
            exact ⟨Nat.le_trans (dL_le l m 0 0) (by omega), by omega⟩
        have hlenA := hwA.len
        have hlenB := hwB.len
        unfold maxLen at hlenA hlenB
        have hlm := hlm (ls.getD i noList).2 (ms.getD i noList).2
        clear hwA hwB
        by_cases he : edE (ls.getD i noList).2 (ms.getD i noList).2 = 0
        · have HS3 := Lib.hid (HS2.out.trans (sumAt_ok he))
          obtain ⟨bx, byy⟩ := hlm he
          unfold EdU at cM
          rw [he] at cM
          clear hlm HS2 he
          try simp only at HS3
          generalize edD (ls.getD i noList).2 (ms.getD i noList).2 = X1 at *
          have HBL : Hid ((ms.getD i noList).2.length = (ms.getD i noList).2.length) := rfl
          generalize (ms.getD i noList).2 = M1 at *
          generalize (ls.getD i noList).2 = L1 at *
          go_wp2
          go_region_held3 (fun w' => w'.cell? (A.add i) = some (.slice q L1.length c) ∧ w'.cell? (A2.add i) = some (.slice q2 M1.length c2))
            (first | exact ⟨x0, y0⟩ | (go_keep; done))
            ((go_simp; go_at_call 14; (with_reducible refine cM.mono ?_); rintro e w2 ⟨⟨zs, ao7, cp7, rfl, _, _, _⟩, hb2⟩; have x1 := (hb2.cell (World.block_lt_of_cell? wr.drew _ x0)).trans x0; have y1 := (hb2.cell (World.block_lt_of_cell? wr.drew _ y0)).trans y0; clear x0 y0; have x0 := x1; have y0 := y1; clear x1 y1; have HW2 : Hid (Below w.heap.size w w2) := below_next (wr := wr.drew) HW.out.drew hb2; have HC2 : Hid (w2.heap[w.heap.size]? = some (.cells #[.int .i64 0, .int .i64 0] 35 (0, 0))) := (hb2.block _ hsz).trans HC.out; clear hb2))
          rename_i hHeld
          clear hHeld
          go_wp2
          go_roundw
          case rel => exact ⟨i + 1, h + X1, g + M1.length, by go_num, by go_num, by go_num, hlt, by omega, by omega, HS3.out, HW2.out, HC2.out⟩
          case measure => simp [RowKit.intOf] <;> omega
        · have HS3 := Lib.hid (HS2.out.trans (sumAt_err he))
          unfold EdU at cM
          clear HS2 hlm
          try simp only at HS3
          have he2 : (edE (ls.getD i noList).2 (ms.getD i noList).2 != 0) = true := by simpa using he
          generalize edE (ls.getD i noList).2 (ms.getD i noList).2 = E1 at *
          generalize edD (ls.getD i noList).2 (ms.getD i noList).2 = X1 at *
          generalize (ms.getD i noList).2 = M1 at *
          generalize (ls.getD i noList).2 = L1 at *
          go_wp2
          go_region_held3 (fun w' => w'.cell? (A.add i) = some (.slice q L1.length c) ∧ w'.cell? (A2.add i) = some (.slice q2 M1.length c2))
            (first | exact ⟨x0, y0⟩ | (go_keep; done))
            ((go_simp; go_at_call 14; (with_reducible refine cM.mono ?_); rintro e w2 ⟨⟨zs, ao7, cp7, rfl, _, _, _⟩, hb2⟩; have x1 := (hb2.cell (World.block_lt_of_cell? wr.drew _ x0)).trans x0; have y1 := (hb2.cell (World.block_lt_of_cell? wr.drew _ y0)).trans y0; clear x0 y0; have x0 := x1; have y0 := y1; clear x1 y1; have HW2 : Hid (Below w.heap.size w w2) := below_next (wr := wr.drew) HW.out.drew hb2; have HC2 : Hid (w2.heap[w.heap.size]? = some (.cells #[.int .i64 0, .int .i64 0] 35 (0, 0))) := (hb2.block _ hsz).trans HC.out; clear hb2))
          rename_i hHeld
          clear hHeld
          have hw1 := HC2.out
          have f0 : w2.frozen? ⟨w.heap.size, 0, none⟩ = false := by simp [World.frozen?, hw1]
          have f1 : w2.frozen? ⟨w.heap.size, 1, none⟩ = false := by simp [World.frozen?, hw1]
          have r0 : w2.cell? ⟨w.heap.size, 0, none⟩ = some (.int .i64 0) := by simp [World.cell?, hw1]
          have r1 : w2.cell? ⟨w.heap.size, 1, none⟩ = some (.int .i64 0) := by simp [World.cell?, hw1]
          clear hw1
          go_wp2
          have hfin := set2_cells HC2.out (.int .i64 0) (.int .i64 0)
          refine bodyPost_ret (results_ct (xs := [.int .i64 0, .int .i64 0]) rfl rfl rfl agF zgF (two_cells ((Lib.cell_of_heap hfin _).trans rfl) ((Lib.cell_of_heap hfin _).trans rfl))) rfl ?_
          exact ⟨by rw [HS3.out]; rfl, below_set (below_set HW2.out (Nat.le_refl _) _) (Nat.le_refl _) _⟩
      · have hii : ¬ (i : Int) < (ls.length : Int) := by omega
        have hs3 := HS.out
        rw [show ls.length - i = 0 by omega] at hs3
        have HS3 := Lib.hid hs3
        have hsz := lt_of_block HC.out
        have cQ := quotient_any h g wr (by omega) (by omega)
        obtain ⟨qx, qy, hq⟩ := quoV_form h g
        have HQ := Lib.hid hq
        rw [hq] at cQ
        clear hs3 HS hq HR
        go_wp2_with (go_at_call 44; (with_reducible refine cQ.mono ?_); rintro e w2 ⟨rfl, hb2⟩; have HW2 := Lib.hid (below_next HW.out hb2); have HC2 : Hid (w2.heap[w.heap.size]? = some (.cells #[.int .i64 0, .int .i64 0] 35 (0, 0))) := (hb2.block _ hsz).trans HC.out; have hw1 := HC2.out; have f0 : w2.frozen? ⟨w.heap.size, 0, none⟩ = false := (by simp [World.frozen?, hw1]); have f1 : w2.frozen? ⟨w.heap.size, 1, none⟩ = false := (by simp [World.frozen?, hw1]); have r0 : w2.cell? ⟨w.heap.size, 0, none⟩ = some (.int .i64 0) := (by simp [World.cell?, hw1]); have r1 : w2.cell? ⟨w.heap.size, 1, none⟩ = some (.int .i64 0) := (by simp [World.cell?, hw1]); clear hw1 hb2)
        have hfin := set2_cells HC2.out (.int .i64 qx) (.int .i64 qy)
        refine bodyPost_ret (results_ct (xs := [.int .i64 qx, .int .i64 qy]) rfl rfl rfl agF zgF (two_cells ((Lib.cell_of_heap hfin _).trans rfl) ((Lib.cell_of_heap hfin _).trans rfl))) rfl ?_
        exact ⟨by rw [HS3.out, sumAt, frV, HQ.out]; rfl, below_set (below_set HW2.out (Nat.le_refl _) _) (Nat.le_refl _) _⟩
  · have HR : Hid (pairsV (fun i => edE (ls.getD i noList).2 (ms.getD i noList).2) (fun i => edD (ls.getD i noList).2 (ms.getD i noList).2) (fun i => (ms.getD i noList).2.length) ls.length ms.length = frE (sidesE ls.length ms.length)) := by show _ = _; unfold pairsV; rw [if_neg hs]
    generalize pairsV (fun i => edE (ls.getD i noList).2 (ms.getD i noList).2) (fun i => edD (ls.getD i noList).2 (ms.getD i noList).2) (fun i => (ms.getD i noList).2.length) ls.length ms.length = R at *
    have hs2 : (sidesE ls.length ms.length != 0) = true := by simpa using hs
    generalize sidesE ls.length ms.length = E1 at *
    go_enter Tryz.func18, Tryz.ntmps18
    go_wp2_with (go_at_call 43; (with_reducible refine (cS _ (HA.out.step HW0.out) (HB.out.step HW0.out)).mono ?_); rintro e w1 ⟨rfl, rfl⟩)
    refine bodyPost_ret (results_ct (xs := [.int .i64 0, .int .i64 0]) rfl rfl rfl agF zgF (two_cells (by simp) (by simp))) rfl ?_
    exact ⟨by rw [HR.out]; rfl, HW0.out⟩
set_option maxHeartbeats 16000000 in
theorem refRate_any (ls ms : List (Value × List ByteArray)) (va vb : Value) (w : World) (ha : ListsAt w va ls) (hb : ListsAt w vb ms) : Calls Tryz.prog 19 #[va, vb] w fun e w' => e = .returned (pairsV (fun i => edE (ls.getD i noList).2 (ms.getD i noList).2) (fun i => edD (ls.getD i noList).2 (ms.getD i noList).2) (fun i => (ms.getD i noList).2.length) ls.length ms.length) ∧ Below w.heap.size w w' := by
  have agF := Tryz.isAgg35
  have zgF := Tryz.sizeOf35
  have HA := Lib.hid ha
  have HB := Lib.hid hb
  have HW0 : Hid (Below w.heap.size w (w.alloc (.cells #[.int .i64 0, .int .i64 0] 35))) := below_box _
  have HN := Lib.hid (MapKept.heap_alloc w (.cells #[.int .i64 0, .int .i64 0] 35)).1
  have cS := fun w' h h2 => checkSides_any ls ms va vb w' h h2
  obtain ⟨⟨p, cap, rfl, hl, hc, hrA⟩, hza⟩ := ha
  obtain ⟨⟨p2, cap2, rfl, hl2, hc2, hrB⟩, hzb⟩ := hb
  unfold maxLen at hc hc2
  clear hrA hrB hza hzb
  by_cases hs : sidesE ls.length ms.length = 0
  · have h256 : ls.length ≤ 256 ∧ ls.length = ms.length := by
      unfold sidesE at hs
      split at hs
      · cases hs
      · split at hs
        · omega
        · cases hs
    have HR : Hid (pairsV (fun i => edE (ls.getD i noList).2 (ms.getD i noList).2) (fun i => edD (ls.getD i noList).2 (ms.getD i noList).2) (fun i => (ms.getD i noList).2.length) ls.length ms.length = sumAt (fun i => edE (ls.getD i noList).2 (ms.getD i noList).2) (fun i => edD (ls.getD i noList).2 (ms.getD i noList).2) (fun i => (ms.getD i noList).2.length) ls.length 0 0 0) := by show _ = _; unfold pairsV; rw [if_pos hs]
    obtain ⟨h1, h2⟩ := h256
    rw [hs] at cS
    have i1 : ¬ (256 : Int) < (ls.length : Int) := by omega
    have i2 : ((ls.length : Int) != (ms.length : Int)) = false := by simp; omega
    generalize pairsV (fun i => edE (ls.getD i noList).2 (ms.getD i noList).2) (fun i => edD (ls.getD i noList).2 (ms.getD i noList).2) (fun i => (ms.getD i noList).2.length) ls.length ms.length = R at *
    have HH2 := Lib.hid h2
    clear hs h2
    go_enter Tryz.func19, Tryz.ntmps19
    go_wp2_with (go_at_call 43; (with_reducible refine (cS _ (HA.out.step HW0.out) (HB.out.step HW0.out)).mono ?_); rintro e w1 ⟨rfl, rfl⟩)
    generalize w.alloc (.cells #[.int .i64 0, .int .i64 0] 35) = W0 at *
    go_loopw [6, 7, 8, 9, 10, 11] (fun hv gv iv _ _ _ wr => ∃ i h g : Nat, iv = .int .i64 i ∧ hv = .int .i64 h ∧ gv = .int .i64 g ∧ i ≤ ls.length ∧ h ≤ 512 * i ∧ g ≤ 512 * i ∧ Hid (R = sumAt (fun i => edE (ls.getD i noList).2 (ms.getD i noList).2) (fun i => edD (ls.getD i noList).2 (ms.getD i noList).2) (fun i => (ms.getD i noList).2.length) (ls.length - i) i h g) ∧ Hid (Below w.heap.size w wr) ∧ Hid (wr.heap[w.heap.size]? = some (.cells #[.int .i64 0, .int .i64 0] 35 (0, 0)))) (fun _ _ iv _ _ _ _ => ls.length - (RowKit.intOf iv).toNat)
    case atStart => exact ⟨0, 0, 0, rfl, rfl, rfl, Nat.zero_le _, Nat.zero_le _, Nat.zero_le _, HR.out, HW0.out, HN.out⟩
    case round =>
      obtain ⟨i, h, g, rfl, rfl, rfl, hi, hh, hg, HS, HW, HC⟩ := hrel
      by_cases hlt : i < ls.length
      · have hii : (i : Int) < (ls.length : Int) := by omega
        have hii2 : (i : Int) < (ms.length : Int) := by have := HH2.out; omega
        have hsz := lt_of_block HC.out
        obtain ⟨A, q, c, rfl, _, x0, hwA⟩ := (HA.out.step HW.out).one hlt
        obtain ⟨A2, q2, c2, rfl, _, y0, hwB⟩ := (HB.out.step HW.out).one (i := i) (by have := HH2.out; omega)
        have hs2 := HS.out
        rw [show ls.length - i = (ls.length - (i + 1)) + 1 by omega] at hs2
        have HS2 := Lib.hid hs2
        clear hs2 HR HS
        have HWA : Hid (WdsAt wr.drew _ _) := hwA.step (Below.refl _ _).drew
        have HWB : Hid (WdsAt wr.drew _ _) := hwB.step (Below.refl _ _).drew
        have cM := refEditsU_any _ _ _ _ wr.drew HWA.out HWB.out
        have hlm : ∀ l m : List ByteArray, edE l m = 0 → edD l m ≤ 512 ∧ m.length ≤ 512 := fun l m h0 => by
          unfold edE at h0
          unfold edD
          by_cases hbg : Big l m
          · rw [if_pos hbg] at h0; cases h0
          · rw [if_neg hbg]
            unfold Big at hbg
            exact ⟨Nat.le_trans (dL_le l m 0 0) (by omega), by omega⟩
        have hlenA := hwA.len
        have hlenB := hwB.len
        unfold maxLen at hlenA hlenB
        have hlm := hlm (ls.getD i noList).2 (ms.getD i noList).2
        clear hwA hwB
        by_cases he : edE (ls.getD i noList).2 (ms.getD i noList).2 = 0
        · have HS3 := Lib.hid (HS2.out.trans (sumAt_ok he))
          obtain ⟨bx, byy⟩ := hlm he
          unfold EdU at cM
          rw [he] at cM
          clear hlm HS2 he
          try simp only at HS3
          generalize edD (ls.getD i noList).2 (ms.getD i noList).2 = X1 at *
          have HBL : Hid ((ms.getD i noList).2.length = (ms.getD i noList).2.length) := rfl
          generalize (ms.getD i noList).2 = M1 at *
          generalize (ls.getD i noList).2 = L1 at *
          go_wp2
          go_region_held3 (fun w' => w'.cell? (A.add i) = some (.slice q L1.length c) ∧ w'.cell? (A2.add i) = some (.slice q2 M1.length c2))
            (first | exact ⟨x0, y0⟩ | (go_keep; done))
            ((go_simp; go_at_call 15; (with_reducible refine cM.mono ?_); rintro e w2 ⟨⟨zs, ao7, cp7, rfl, _, _, _⟩, hb2⟩; have x1 := (hb2.cell (World.block_lt_of_cell? wr.drew _ x0)).trans x0; have y1 := (hb2.cell (World.block_lt_of_cell? wr.drew _ y0)).trans y0; clear x0 y0; have x0 := x1; have y0 := y1; clear x1 y1; have HW2 : Hid (Below w.heap.size w w2) := below_next (wr := wr.drew) HW.out.drew hb2; have HC2 : Hid (w2.heap[w.heap.size]? = some (.cells #[.int .i64 0, .int .i64 0] 35 (0, 0))) := (hb2.block _ hsz).trans HC.out; clear hb2))
          rename_i hHeld
          clear hHeld
          go_wp2
          go_roundw
          case rel => exact ⟨i + 1, h + X1, g + M1.length, by go_num, by go_num, by go_num, hlt, by omega, by omega, HS3.out, HW2.out, HC2.out⟩
          case measure => simp [RowKit.intOf] <;> omega
        · have HS3 := Lib.hid (HS2.out.trans (sumAt_err he))
          unfold EdU at cM
          clear HS2 hlm
          try simp only at HS3
          have he2 : (edE (ls.getD i noList).2 (ms.getD i noList).2 != 0) = true := by simpa using he
          generalize edE (ls.getD i noList).2 (ms.getD i noList).2 = E1 at *
          generalize edD (ls.getD i noList).2 (ms.getD i noList).2 = X1 at *
          generalize (ms.getD i noList).2 = M1 at *
          generalize (ls.getD i noList).2 = L1 at *
          go_wp2
          go_region_held3 (fun w' => w'.cell? (A.add i) = some (.slice q L1.length c) ∧ w'.cell? (A2.add i) = some (.slice q2 M1.length c2))
            (first | exact ⟨x0, y0⟩ | (go_keep; done))
            ((go_simp; go_at_call 15; (with_reducible refine cM.mono ?_); rintro e w2 ⟨⟨zs, ao7, cp7, rfl, _, _, _⟩, hb2⟩; have x1 := (hb2.cell (World.block_lt_of_cell? wr.drew _ x0)).trans x0; have y1 := (hb2.cell (World.block_lt_of_cell? wr.drew _ y0)).trans y0; clear x0 y0; have x0 := x1; have y0 := y1; clear x1 y1; have HW2 : Hid (Below w.heap.size w w2) := below_next (wr := wr.drew) HW.out.drew hb2; have HC2 : Hid (w2.heap[w.heap.size]? = some (.cells #[.int .i64 0, .int .i64 0] 35 (0, 0))) := (hb2.block _ hsz).trans HC.out; clear hb2))
          rename_i hHeld
          clear hHeld
          have hw1 := HC2.out
          have f0 : w2.frozen? ⟨w.heap.size, 0, none⟩ = false := by simp [World.frozen?, hw1]
          have f1 : w2.frozen? ⟨w.heap.size, 1, none⟩ = false := by simp [World.frozen?, hw1]
          have r0 : w2.cell? ⟨w.heap.size, 0, none⟩ = some (.int .i64 0) := by simp [World.cell?, hw1]
          have r1 : w2.cell? ⟨w.heap.size, 1, none⟩ = some (.int .i64 0) := by simp [World.cell?, hw1]
          clear hw1
          go_wp2
          have hfin := set2_cells HC2.out (.int .i64 0) (.int .i64 0)
          refine bodyPost_ret (results_ct (xs := [.int .i64 0, .int .i64 0]) rfl rfl rfl agF zgF (two_cells ((Lib.cell_of_heap hfin _).trans rfl) ((Lib.cell_of_heap hfin _).trans rfl))) rfl ?_
          exact ⟨by rw [HS3.out]; rfl, below_set (below_set HW2.out (Nat.le_refl _) _) (Nat.le_refl _) _⟩
      · have hii : ¬ (i : Int) < (ls.length : Int) := by omega
        have hs3 := HS.out
        rw [show ls.length - i = 0 by omega] at hs3
        have HS3 := Lib.hid hs3
        have hsz := lt_of_block HC.out
        have cQ := refQuotient_any h g wr (by omega) (by omega)
        obtain ⟨qx, qy, hq⟩ := quoV_form h g
        have HQ := Lib.hid hq
        rw [hq] at cQ
        clear hs3 HS hq HR
        go_wp2_with (go_at_call 45; (with_reducible refine cQ.mono ?_); rintro e w2 ⟨rfl, hb2⟩; have HW2 := Lib.hid (below_next HW.out hb2); have HC2 : Hid (w2.heap[w.heap.size]? = some (.cells #[.int .i64 0, .int .i64 0] 35 (0, 0))) := (hb2.block _ hsz).trans HC.out; have hw1 := HC2.out; have f0 : w2.frozen? ⟨w.heap.size, 0, none⟩ = false := (by simp [World.frozen?, hw1]); have f1 : w2.frozen? ⟨w.heap.size, 1, none⟩ = false := (by simp [World.frozen?, hw1]); have r0 : w2.cell? ⟨w.heap.size, 0, none⟩ = some (.int .i64 0) := (by simp [World.cell?, hw1]); have r1 : w2.cell? ⟨w.heap.size, 1, none⟩ = some (.int .i64 0) := (by simp [World.cell?, hw1]); clear hw1 hb2)
        have hfin := set2_cells HC2.out (.int .i64 qx) (.int .i64 qy)
        refine bodyPost_ret (results_ct (xs := [.int .i64 qx, .int .i64 qy]) rfl rfl rfl agF zgF (two_cells ((Lib.cell_of_heap hfin _).trans rfl) ((Lib.cell_of_heap hfin _).trans rfl))) rfl ?_
        exact ⟨by rw [HS3.out, sumAt, frV, HQ.out]; rfl, below_set (below_set HW2.out (Nat.le_refl _) _) (Nat.le_refl _) _⟩
  · have HR : Hid (pairsV (fun i => edE (ls.getD i noList).2 (ms.getD i noList).2) (fun i => edD (ls.getD i noList).2 (ms.getD i noList).2) (fun i => (ms.getD i noList).2.length) ls.length ms.length = frE (sidesE ls.length ms.length)) := by show _ = _; unfold pairsV; rw [if_neg hs]
    generalize pairsV (fun i => edE (ls.getD i noList).2 (ms.getD i noList).2) (fun i => edD (ls.getD i noList).2 (ms.getD i noList).2) (fun i => (ms.getD i noList).2.length) ls.length ms.length = R at *
    by_cases h1 : 256 < ls.length
    · have hs2 : sidesE ls.length ms.length = 3 := by unfold sidesE; rw [if_pos h1]
      rw [hs2] at HR
      have i1 : (256 : Int) < (ls.length : Int) := by omega
      clear hs hs2
      go_enter Tryz.func19, Tryz.ntmps19
      go_wp2
      refine bodyPost_ret (results_ct (xs := [.int .i64 0, .int .i64 0]) rfl rfl rfl agF zgF (two_cells (by simp) (by simp))) rfl ?_
      exact ⟨by rw [HR.out]; rfl, HW0.out⟩
    · have h2 : ¬ ls.length = ms.length := fun e => hs (by unfold sidesE; rw [if_neg h1, if_pos e])
      have hs2 : sidesE ls.length ms.length = 1 := by unfold sidesE; rw [if_neg h1, if_neg h2]
      rw [hs2] at HR
      have i1 : ¬ (256 : Int) < (ls.length : Int) := by omega
      have i2 : ((ls.length : Int) != (ms.length : Int)) = true := by simp; omega
      clear hs hs2 h2
      go_enter Tryz.func19, Tryz.ntmps19
      go_wp2
      refine bodyPost_ret (results_ct (xs := [.int .i64 0, .int .i64 0]) rfl rfl rfl agF zgF (two_cells (by simp) (by simp))) rfl ?_
      exact ⟨by rw [HR.out]; rfl, HW0.out⟩
end Go.Proofs.YthgllfbigcoaiaaGreatDoor
namespace Go.Proofs.YthgllfbigcoaiaaGreatDoor
open Go Go.RowKit Go.Lib
set_option maxRecDepth 100000
/-- a fraction in a box -/
def FrAt (G : Nat) (x y : Int) (w : World) : Prop := w.heap[G]? = some (.cells #[.int .i64 x, .int .i64 y] 35 (0, 0))
theorem FrAt.new (w : World) (x y : Int) : FrAt w.heap.size x y (w.alloc (.cells #[.int .i64 x, .int .i64 y] 35)) := (MapKept.heap_alloc w _).1
theorem FrAt.lt {G : Nat} {x y : Int} {w : World} (h : FrAt G x y w) : G < w.heap.size := lt_of_block h
theorem FrAt.step {G : Nat} {x y : Int} {w w' : World} (hb : Below w.heap.size w w') (h : FrAt G x y w) : FrAt G x y w' := (hb.block G h.lt).trans h
theorem FrAt.c0 {G : Nat} {x y : Int} {w : World} (h : FrAt G x y w) : w.cell? ⟨G, 0, none⟩ = some (.int .i64 x) := (Lib.cell_of_heap h 0).trans rfl
theorem FrAt.c1 {G : Nat} {x y : Int} {w : World} (h : FrAt G x y w) : w.cell? ⟨G, 1, none⟩ = some (.int .i64 y) := (Lib.cell_of_heap h 1).trans rfl
theorem FrAt.f {G : Nat} {x y : Int} {w : World} (h : FrAt G x y w) (j : Nat) : w.frozen? ⟨G, j, none⟩ = false := frozen_of_row w G j _ _ h
theorem FrAt.put {G : Nat} {x y : Int} {w : World} (h : FrAt G x y w) (x2 y2 : Int) : FrAt G x2 y2 ((w.setCell ⟨G, 0, none⟩ (.int .i64 x2)).setCell ⟨G, 1, none⟩ (.int .i64 y2)) := set2_cells h _ _
theorem FrAt.far {G K : Nat} {x y : Int} {w : World} (h : FrAt K x y w) (hne : G ≠ K) (u v : Value) : FrAt K x y ((w.setCell ⟨G, 0, none⟩ u).setCell ⟨G, 1, none⟩ v) :=
  (heap_setCell_other _ ⟨G, 1, none⟩ K v (fun e => hne e.symm)).trans ((heap_setCell_other w ⟨G, 0, none⟩ K u (fun e => hne e.symm)).trans h)
set_option maxHeartbeats 16000000 in
theorem scores_early (ls ms : List (Value × List ByteArray)) (va vb : Value) (n : Int) (w : World) (ha : ListsAt w va ls) (hb : ListsAt w vb ms) (hbig : (6 < ls.length ∧ ls.length ≤ 256) ∨ 300 < ls.length ∨ 300 < ms.length)
    (hS : ∀ w', Below w.heap.size w w' → Calls Tryz.prog 11 #[] w' fun e w'' => e = .returned (.bool true) ∧ Below w'.heap.size w' w'') :
    Calls Tryz.prog 4 #[va, vb, .int .i64 n] w fun e w' => e = .returned (.bool true) ∧ Below w.heap.size w w' := by
  have HS := Lib.hid hS
  obtain ⟨⟨p, cap, rfl, hl, hc, hrA⟩, hza⟩ := ha
  obtain ⟨⟨p2, cap2, rfl, hl2, hc2, hrB⟩, hzb⟩ := hb
  unfold maxLen at hc hc2
  clear hrA hrB hza hzb hS
  by_cases i1 : (6 : Int) < (ls.length : Int) <;> by_cases i2 : (ls.length : Int) ≤ 256 <;> by_cases i3 : (300 : Int) < (ls.length : Int) <;> by_cases i4 : (300 : Int) < (ms.length : Int)
  all_goals first
    | (exfalso; omega)
    | (go_enter Tryz.func4, Tryz.ntmps4
       go_wp2_with (go_at_call 11; (with_reducible refine (HS.out _ (Below.refl _ _)).mono ?_); rintro e w2 ⟨rfl, hb2⟩)
       go_ret
       exact ⟨rfl, hb2⟩)
set_option maxHeartbeats 16000000 in
theorem scores_law (ls ms : List (Value × List ByteArray)) (va vb : Value) (n : Int) (w : World) (ha : ListsAt w va ls) (hb : ListsAt w vb ms)
    (hS : ∀ w', Below w.heap.size w w' → Calls Tryz.prog 11 #[] w' fun e w'' => e = .returned (.bool true) ∧ Below w'.heap.size w' w'') :
    Calls Tryz.prog 4 #[va, vb, .int .i64 n] w fun e w' => e = .returned (.bool true) ∧ Below w.heap.size w w' := by
  by_cases hbig : (6 < ls.length ∧ ls.length ≤ 256) ∨ 300 < ls.length ∨ 300 < ms.length
  · exact scores_early ls ms va vb n w ha hb hbig hS
  have HS := Lib.hid hS
  have HA := Lib.hid ha
  have HB := Lib.hid hb
  have cM := fun w v ls h => many_any ls v w h
  have cP := fun w' h h2 => precision_any ls ms va vb n w' h h2
  have cQ := fun w' h h2 => refPrecision_any ls ms va vb n w' h h2
  have cR := fun w' h h2 => rate_any ls ms va vb w' h h2
  have cT := fun w' h h2 => refRate_any ls ms va vb w' h h2
  obtain ⟨x, y, e, hV⟩ := pairsV_form (fun i => mvE (ls.getD i noList).2 (ms.getD i noList).2 n) (fun i => mvX (ls.getD i noList).2 (ms.getD i noList).2 n) (fun i => mvY (ls.getD i noList).2 (ms.getD i noList).2 n) ls.length ms.length
  obtain ⟨x2, y2, e2, hV2⟩ := pairsV_form (fun i => edE (ls.getD i noList).2 (ms.getD i noList).2) (fun i => edD (ls.getD i noList).2 (ms.getD i noList).2) (fun i => (ms.getD i noList).2.length) ls.length ms.length
  rw [hV] at cP cQ
  rw [hV2] at cR cT
  obtain ⟨⟨p, cap, rfl, hl, hc, hrA⟩, hza⟩ := ha
  obtain ⟨⟨p2, cap2, rfl, hl2, hc2, hrB⟩, hzb⟩ := hb
  unfold maxLen at hc hc2
  clear hrA hrB hza hzb hS hV hV2
  have hw : (ls.length ≤ 6 ∨ 256 < ls.length) ∧ ls.length ≤ 300 ∧ ms.length ≤ 300 := by omega
  have i3 : ¬ (300 : Int) < (ls.length : Int) := by omega
  have i4 : ¬ (300 : Int) < (ms.length : Int) := by omega
  have agF := Tryz.isAgg35
  have zgF := Tryz.sizeOf35
  obtain ⟨h1, _, _⟩ := hw
  clear hbig
  rcases h1 with h1 | h1
  case' inl => have i1 : ¬ (6 : Int) < (ls.length : Int) := by omega
  case' inr => have i1 : (6 : Int) < (ls.length : Int) := by omega
  case' inr => have i2 : ¬ (ls.length : Int) ≤ 256 := by omega
  all_goals
    go_enter Tryz.func4, Tryz.ntmps4
    go_wp2_with (first
      | (go_at_call 10; (with_reducible refine (cM _ _ _ HA.out).mono ?_); rintro e ww ⟨⟨B, rfl⟩, rfl⟩; cases B)
      | (go_at_call 10; (with_reducible refine (cM _ _ _ HB.out).mono ?_); rintro e ww ⟨⟨B, rfl⟩, rfl⟩; cases B)
      | (go_at_call 11; (with_reducible refine (HS.out _ HW7.out).mono ?_); rintro e w8 ⟨rfl, hb8⟩; have HW8 := Lib.hid (below_next HW7.out hb8); clear hb8)
      | (go_at_call 11; (with_reducible refine (HS.out _ (Below.refl _ _)).mono ?_); rintro e w8 ⟨rfl, hb8⟩; have HW8 := Lib.hid hb8; clear hb8)
      | (go_at_call 16; (with_reducible refine (cP _ HA.out HB.out).mono ?_); rintro e w1 ⟨rfl, hb1⟩; have HW1 := Lib.hid hb1; have HB1 := Lib.hid (below_next hb1 (below_box (.cells #[.int .i64 x, .int .i64 y] 35))); have HG1 := Lib.hid (FrAt.new w1 x y); clear hb1)
      | (go_at_call 17; (with_reducible refine (cQ _ (HA.out.step HB1.out) (HB.out.step HB1.out)).mono ?_); rintro e w2 ⟨rfl, hb2⟩
         have HG2 := Lib.hid (HG1.out.step hb2)
         have HB2 := Lib.hid (below_next (below_next HB1.out hb2) (below_box (.cells #[.int .i64 x, .int .i64 y] 35)))
         have HB2s := Lib.hid ((below_next HB1.out hb2).size)
         have HG3 := Lib.hid (HG2.out.step (below_box (.cells #[.int .i64 x, .int .i64 y] 35)))
         have HK3 := Lib.hid (FrAt.new w2 x y)
         have hGK : w1.heap.size ≠ w2.heap.size := Nat.ne_of_lt HG2.out.lt
         have g0 := HG3.out.c0
         have g1 := HG3.out.c1
         clear hb2 HG1 HG2)
      | (go_at_call 18; (with_reducible refine (cR _ (HA.out.step HB2.out) (HB.out.step HB2.out)).mono ?_); rintro e w4 ⟨rfl, hb4⟩
         have HB4 := Lib.hid (below_next HB2.out hb4)
         have HG4 := Lib.hid (HG3.out.step hb4)
         have HK4 := Lib.hid (HK3.out.step hb4)
         have HG5 := Lib.hid (HG4.out.put x2 y2)
         have HK5 := Lib.hid (HK4.out.far hGK (.int .i64 x2) (.int .i64 y2))
         have HB5 := Lib.hid (below_set (below_set HB4.out (a := ⟨w1.heap.size, 0, none⟩) HW1.out.size (.int .i64 x2)) (a := ⟨w1.heap.size, 1, none⟩) HW1.out.size (.int .i64 y2))
         clear g0 g1
         have g0 := HG4.out.c0
         have g1 := HG4.out.c1
         have f0 := HG4.out.f 0
         have f1 := HG4.out.f 1
         clear hb4)
      | (go_at_call 19; (with_reducible refine (cT _ (HA.out.step HB5.out) (HB.out.step HB5.out)).mono ?_); rintro e w6 ⟨rfl, hb6⟩
         have HB6 := Lib.hid (below_next HB5.out hb6)
         have HG6 := Lib.hid (HG5.out.step hb6)
         have HK6 := Lib.hid (HK5.out.step hb6)
         have HK7 := Lib.hid (HK6.out.put x2 y2)
         have HG7 := Lib.hid (HG6.out.far hGK.symm (.int .i64 x2) (.int .i64 y2))
         have HW7 := Lib.hid (below_set (below_set HB6.out (a := ⟨w2.heap.size, 0, none⟩) HB2s.out (.int .i64 x2)) (a := ⟨w2.heap.size, 1, none⟩) HB2s.out (.int .i64 y2))
         clear g0 g1 f0 f1
         have k0 := HK6.out.c0
         have k1 := HK6.out.c1
         have f0 := HK6.out.f 0
         have f1 := HK6.out.f 1
         have g0 := HG7.out.c0
         have g1 := HG7.out.c1
         have m0 := HK7.out.c0
         have m1 := HK7.out.c1
         clear hb6))
    all_goals
      go_ret
      exact ⟨rfl, HW8.out⟩
end Go.Proofs.YthgllfbigcoaiaaGreatDoor
