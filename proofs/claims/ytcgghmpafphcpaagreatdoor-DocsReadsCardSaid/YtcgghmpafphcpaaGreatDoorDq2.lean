/- Where carried tags stand, as the specification tells it. -/
import Derived.Test.YtcgghmpafphcpaaGreatDoorDq1
namespace Go.Proofs.YtcgghmpafphcpaaGreatDoor
open Go Go.RowKit
set_option maxRecDepth 100000
def carE (l : List Pc) (i : Nat) : Int := if carB l i = true then 8 else 0
def noMis (l : List Pc) (i k : Nat) : Prop := ∀ m, m < k → misB (l.getD m nil) (l.getD i nil) = false
theorem noMis.succ {l : List Pc} {i k : Nat} (h : noMis l i k) (hk : misB (l.getD k nil) (l.getD i nil) = false) : noMis l i (k + 1) := by
  intro m hm
  by_cases e : m = k
  · subst e; exact hk
  · exact h m (by omega)
theorem car_none {l : List Pc} {i k : Nat} (h : noMis l i k) (hk : i ≤ k) : carE l i = 0 := by
  unfold carE
  have : carB l i = false := by
    unfold carB
    rw [List.any_eq_false]
    intro m hm
    rw [List.mem_range] at hm
    rw [h m (by omega)]; simp
  rw [this]; rfl
theorem car_some {l : List Pc} {i k : Nat} (hk : k < i) (h : misB (l.getD k nil) (l.getD i nil) = true) : carE l i = 8 := by
  unfold carE
  have : carB l i = true := by
    unfold carB
    rw [List.any_eq_true]
    exact ⟨k, List.mem_range.2 hk, h⟩
  rw [this]; rfl
set_option maxHeartbeats 16000000 in
theorem carried_any (l : List Pc) (A : Addr) (cap i : Nat) (w : World) (hv : PcsAt w (.slice (some A) l.length cap) l) (hi : i < l.length) (hb : bulk l ≤ 100000) :
    Calls Tryz.prog 31 #[.slice (some A) l.length cap, .int .i64 (i : Int)] w fun e w' => e = .returned (.int .u8 (carE l i)) ∧ w' = w := by
  obtain ⟨p, cap', e, hl, hc, hrow⟩ := hv
  cases e
  unfold maxLen at hc
  obtain ⟨_, eA, hA, hcell⟩ := hrow (by omega)
  cases eA
  have ag := Tryz.isAgg39
  have zg := Tryz.sizeOf39
  have HC := Lib.hid hcell
  have hlb : l.length ≤ bulk l := by unfold bulk; omega
  obtain ⟨x0, x1, x2⟩ := pcs_cells hA hcell hi (Below.refl _ w)
  clear hcell hrow x1
  go_enter Tryz.func31, Tryz.ntmps31
  go_wp2
  go_loop [5] (fun v => ∃ k : Nat, k ≤ i ∧ v = .int .i64 k ∧ noMis l i k) (fun v => i - (RowKit.intOf v).toNat)
  case atStart => exact ⟨0, Nat.zero_le _, rfl, fun m h => absurd h (Nat.not_lt_zero _)⟩
  case round =>
    obtain ⟨k, hk, rfl, hN⟩ := hrel
    have HN := Lib.hid hN; clear hN
    by_cases hlt : k < i
    · have hkl : k < l.length := by omega
      obtain ⟨y0, y1, y2⟩ := pcs_cells hA HC.out hkl (Below.refl _ w)
      clear y1
      have HS := Lib.hid (fun h => car_some (l := l) hlt h)
      have HZ := Lib.hid (fun h => HN.out.succ h)
      generalize l.getD i nil = x at x0 x2 HS HZ
      generalize l.getD k nil = y at y0 y2 HS HZ
      have HM := Lib.hid (show misB y x = ((decide (x.k = 2) && x.c && !(decide (y.k = 2) && y.c)) || (decide (y.k = 3) && y.c && !(decide (x.k = 3) && x.c))) from rfl)
      generalize misB y x = M at HS HZ HM
      obtain ⟨xk, xs, xc⟩ := x
      obtain ⟨yk, ys, yc⟩ := y
      simp only at x0 x2 y0 y2 HM
      have hx : xk = 2 ∨ xk = 3 ∨ (xk ≠ 2 ∧ xk ≠ 3) := by omega
      have hy : yk = 2 ∨ yk = 3 ∨ (yk ≠ 2 ∧ yk ≠ 3) := by omega
      rcases hx with rfl | rfl | ⟨hx2, hx3⟩ <;> rcases hy with rfl | rfl | ⟨hy2, hy3⟩ <;> cases xc <;> cases yc
      all_goals
        try (have q1 : (yk == 2) = false := beq_eq_false_iff_ne.2 hy2)
        try (have q2 : (xk == 3) = false := beq_eq_false_iff_ne.2 hx3)
        go_wp2
        first
        | (go_ret
           exact ⟨ret_u8 (HS.out (by rw [HM.out]; simp [*])).symm, rfl⟩)
        | (go_round
           case rel => exact ⟨k + 1, by omega, by go_num, HZ.out (by rw [HM.out]; simp [*])⟩
           case measure => simp [RowKit.intOf]; omega)
    · have HZ := Lib.hid (car_none HN.out (by omega))
      go_wp2
      go_ret
      exact ⟨ret_u8 HZ.out.symm, rfl⟩
end Go.Proofs.YtcgghmpafphcpaaGreatDoor
