/- Models: the cost of a step, and the score of words, by the program. -/
import Derived.Test.YtgcglaagjplbfaaDm6
namespace Go.Proofs.Ytgcglaagjplbfaa
open Go Go.RowKit Go.Lib
set_option maxRecDepth 100000
def backN (M : Mdl) (a : ByteArray) : Int := match lastU M.us a with | some x => x.b | none => 0
def oneN (M : Mdl) (b : ByteArray) : Int := match lastU M.us b with | some x => x.c | none => M.unk
def stepN (M : Mdl) (a b : ByteArray) : Int := match lastB M.bs (a, b) with
  | some x => x.c
  | none => wrap64 (backN M a + oneN M b)
set_option maxHeartbeats 4000000 in
theorem step_any (M : Mdl) (b1 b2 : Nat) (a b : ByteArray) (w : World) (hS : StAt M b1 b2 w) (ha : a.size ≤ maxLen) (hb : b.size ≤ maxLen) :
    Calls Try.prog 15 #[stV M.unk b1 b2, .string a, .string b] w fun e w' => e = .returned (.int .i64 (stepN M a b)) ∧ Below w.heap.size w w' := by
  have HS := Lib.hid (hS.step (below_box (w := w) (.cells #[.int .i64 M.unk, .map (some b1), .map (some b2)] 53)))
  obtain ⟨kl, hkl⟩ := keyP_of (p := (a, b)) ⟨ha, hb⟩
  have eP := HS.out.2.look true (a := (a, b)) (t := 51) keyP Try.underlying51 (zeroI _) ⟨ha, hb⟩ hkl
  have eA := HS.out.1.look false (a := a) (t := 50) keyS Try.underlying50 (zeroU _) ha (keyS_of ha)
  have eB := HS.out.1.look true (a := b) (t := 50) keyS Try.underlying50 (zeroU _) hb (keyS_of hb)
  have HN := Lib.hid (show stepN M a b = match lastB M.bs (a, b) with | some x => x.c | none => wrap64 ((match lastU M.us a with | some x => x.b | none => 0) + (match lastU M.us b with | some x => x.c | none => M.unk)) from rfl)
  have agS := Try.isAgg53
  have zgS := Try.sizeOf53
  have agU := Try.isAgg45
  have zgU := Try.sizeOf45
  have hfd : ∀ (x y z : Value) (w : World), (Instr.field 45 (.agg #[x, y, z]) 2).run Try.prog w = .ok z w := fun x y z w => by kernel_rfl
  unfold fB at eP
  unfold fU at eA eB
  unfold κP at eP
  unfold κS at eA eB
  unfold stV
  generalize M.unk = unk at *
  clear hS hkl HS
  cases hP : lastB M.bs (a, b) with
  | some x =>
    rw [hP] at eP HN
    simp only [Option.map_some, Option.getD_some, Option.isSome_some, if_true] at eP
    clear eA eB
    go_enter Try.func15, Try.ntmps15
    go_wp2
    go_ret
    exact ⟨ret_int HN.out.symm, below_box _⟩
  | none =>
    rw [hP] at eP HN
    simp only [Option.map_none, Option.getD_none, Option.isSome_none, if_true] at eP
    cases hA : lastU M.us a with
    | some x =>
      rw [hA] at eA HN
      simp only [Option.map_some, Option.getD_some, Bool.false_eq_true, if_false, unV] at eA
      cases hB : lastU M.us b with
      | some y =>
        rw [hB] at eB HN
        simp only [Option.map_some, Option.getD_some, Option.isSome_some, if_true, unV] at eB
        go_enter Try.func15, Try.ntmps15
        go_wp2
        go_ret
        exact ⟨ret_int (by rw [HN.out] <;> simp), below_next (below_box _) (below_box _)⟩
      | none =>
        rw [hB] at eB HN
        simp only [Option.map_none, Option.getD_none, Option.isSome_none, if_true] at eB
        go_enter Try.func15, Try.ntmps15
        go_wp2
        go_ret
        exact ⟨ret_int (by rw [HN.out] <;> simp), below_next (below_box _) (below_box _)⟩
    | none =>
      rw [hA] at eA HN
      simp only [Option.map_none, Option.getD_none, Bool.false_eq_true, if_false] at eA
      cases hB : lastU M.us b with
      | some y =>
        rw [hB] at eB HN
        simp only [Option.map_some, Option.getD_some, Option.isSome_some, if_true, unV] at eB
        go_enter Try.func15, Try.ntmps15
        go_wp2
        go_ret
        exact ⟨ret_int (by rw [HN.out] <;> simp), below_next (below_box _) (below_box _)⟩
      | none =>
        rw [hB] at eB HN
        simp only [Option.map_none, Option.getD_none, Option.isSome_none, if_true] at eB
        go_enter Try.func15, Try.ntmps15
        go_wp2
        go_ret
        exact ⟨ret_int (by rw [HN.out] <;> simp), below_next (below_box _) (below_box _)⟩
/-- a list of words -/
def wdF (l : List ByteArray) (i _j : Nat) : Value := .string (l.getD i ⟨#[]⟩)
def WdsAt (w : World) (v : Value) (l : List ByteArray) : Prop := SliceAt w.heap.size w v l.length 1 (wdF l) ∧ ∀ s ∈ l, s.size ≤ maxLen
theorem WdsAt.step {w w' : World} {v : Value} {l : List ByteArray} (hb : Below w.heap.size w w') (h : WdsAt w v l) : WdsAt w' v l := ⟨(SliceAt.below hb h.1).mono hb.size, h.2⟩
/-- the score behind the first words, and the last of these -/
def scoreTo (M : Mdl) (l : List ByteArray) : Nat → Int × ByteArray
  | 0 => (0, ⟨#[]⟩)
  | k + 1 => (wrap64 ((scoreTo M l k).1 + stepN M (scoreTo M l k).2 (l.getD k ⟨#[]⟩)), l.getD k ⟨#[]⟩)
def scoreN (M : Mdl) (l : List ByteArray) : Int := wrap64 ((scoreTo M l l.length).1 + stepN M (scoreTo M l l.length).2 ⟨#[]⟩)
theorem wd_mem {l : List ByteArray} {k : Nat} (hk : k < l.length) : l.getD k ⟨#[]⟩ ∈ l := by
  rw [List.getD_eq_getElem?_getD, List.getElem?_eq_getElem hk]; exact List.getElem_mem hk
theorem scoreTo_last (M : Mdl) (l : List ByteArray) (h : ∀ s ∈ l, s.size ≤ maxLen) (k : Nat) (hk : k ≤ l.length) : (scoreTo M l k).2.size ≤ maxLen := by
  cases k with
  | zero => exact Nat.zero_le _
  | succ k => exact h _ (wd_mem (by omega))
set_option maxHeartbeats 4000000 in
theorem score_any (M : Mdl) (b1 b2 : Nat) (v : Value) (l : List ByteArray) (w : World) (hS : StAt M b1 b2 w) (hv : WdsAt w v l) :
    Calls Try.prog 21 #[stV M.unk b1 b2, v] w fun e w' => e = .returned (.int .i64 (scoreN M l)) ∧ Below w.heap.size w w' := by
  obtain ⟨⟨p, cap, rfl, hl, hc, hrow⟩, hz⟩ := hv
  unfold maxLen at hc
  have HS := Lib.hid hS
  have HR := Lib.hid hrow
  have HZ := Lib.hid hz
  have HN := Lib.hid (show scoreN M l = wrap64 ((scoreTo M l l.length).1 + stepN M (scoreTo M l l.length).2 ⟨#[]⟩) from rfl)
  have agS := Try.isAgg53
  have zgS := Try.sizeOf53
  have cS := fun a b w h ha hb => step_any M b1 b2 a b w h ha hb
  unfold stV at *
  clear hS hrow hz
  go_enter Try.func21, Try.ntmps21
  go_wp2
  go_loopw [5, 6, 8, 11] (fun x y _u i wr => ∃ k : Nat, k ≤ l.length ∧ i = .int .i64 k ∧ x = .int .i64 (scoreTo M l k).1 ∧ y = .string (scoreTo M l k).2 ∧ Hid (StAt M b1 b2 wr) ∧ Hid (Below w.heap.size w wr) ∧ wr.cell? ⟨w.heap.size, 0, none⟩ = some (.int .i64 M.unk) ∧ wr.cell? ⟨w.heap.size, 1, none⟩ = some (.map (some b1)) ∧ wr.cell? ⟨w.heap.size, 2, none⟩ = some (.map (some b2)) ∧ w.heap.size < wr.heap.size) (fun _ _ _ i _ => l.length - (RowKit.intOf i).toNat)
  case atStart => exact ⟨0, Nat.zero_le _, rfl, rfl, rfl, HS.out.step (below_box _), below_box _, by simp, by simp, by simp, by simp⟩
  case round =>
    obtain ⟨k, hk, rfl, rfl, rfl, HS2, HB, m0, m1, m2, hsz⟩ := hrel
    have hlast := scoreTo_last M l HZ.out k hk
    by_cases hlt : k < l.length
    · obtain ⟨A, rfl, hA, hcell⟩ := HR.out (by omega)
      have x0 : wr.cell? (A.add k) = some (.string (l.getD k ⟨#[]⟩)) := by
        have := hcell k 0 hlt (by omega)
        rw [Nat.mul_one, Nat.add_zero] at this
        rw [HB.out.cell (by rw [add_block]; exact hA)]; exact this
      have hxz := HZ.out _ (wd_mem hlt)
      have HN2 := Lib.hid (show scoreTo M l (k + 1) = (wrap64 ((scoreTo M l k).1 + stepN M (scoreTo M l k).2 (l.getD k ⟨#[]⟩)), l.getD k ⟨#[]⟩) from rfl)
      clear hcell
      have c1 := cS (scoreTo M l k).2 (l.getD k ⟨#[]⟩) wr HS2.out hlast hxz
      generalize stepN M (scoreTo M l k).2 (l.getD k ⟨#[]⟩) = D at c1 HN2
      generalize l.getD k ⟨#[]⟩ = xw at x0 hxz HN2 c1
      generalize (scoreTo M l k).1 = S0 at HN2 ⊢
      generalize (scoreTo M l k).2 = L0 at c1 hlast ⊢
      go_wp2_with (go_at_call 15; (with_reducible refine c1.mono ?_); rintro e w2 ⟨rfl, hb2⟩)
      have HB2 := Lib.hid (below_next HB.out hb2)
      go_roundw
      case rel => exact ⟨k + 1, by omega, by go_num, by rw [HN2.out], by rw [HN2.out], HS2.out.step hb2, HB2.out, by rw [hb2.cell (p := ⟨w.heap.size, 0, none⟩) hsz]; exact m0, by rw [hb2.cell (p := ⟨w.heap.size, 1, none⟩) hsz]; exact m1, by rw [hb2.cell (p := ⟨w.heap.size, 2, none⟩) hsz]; exact m2, Nat.lt_of_lt_of_le hsz hb2.size⟩
      case measure => simp [RowKit.intOf]; omega
    · obtain rfl : k = l.length := by omega
      have c1 := cS (scoreTo M l l.length).2 ⟨#[]⟩ wr HS2.out hlast (Nat.zero_le _)
      generalize stepN M (scoreTo M l l.length).2 ⟨#[]⟩ = D at c1 HN
      generalize (scoreTo M l l.length).1 = S0 at HN ⊢
      generalize (scoreTo M l l.length).2 = L0 at c1 hlast ⊢
      go_wp2_with (go_at_call 15; (with_reducible refine c1.mono ?_); rintro e w2 ⟨rfl, hb2⟩)
      go_ret
      exact ⟨ret_int HN.out.symm, below_next HB.out hb2⟩
end Go.Proofs.Ytgcglaagjplbfaa
