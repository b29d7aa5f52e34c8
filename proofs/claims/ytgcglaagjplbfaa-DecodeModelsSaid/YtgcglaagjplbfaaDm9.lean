/- Models: the pairs of a valid model are all different; the score of words by the specification. -/
import Derived.Test.YtgcglaagjplbfaaDm8
namespace Go.Proofs.Ytgcglaagjplbfaa
open Go Go.RowKit Go.Lib
set_option maxRecDepth 100000
theorem ltB_trans {a b c : ByteArray} (h1 : ltB a b = true) (h2 : ltB b c = true) : ltB a c = true := by
  unfold ltB at *
  rw [bytesLess_eq, decide_eq_true_eq] at *
  exact List.lt_trans h1 h2
theorem ltB_ne {a b : ByteArray} (h : ltB a b = true) : eqB a b = false := by
  cases e : eqB a b
  · rfl
  · rw [eqB_iff.1 e] at h
    unfold ltB at h
    rw [lt_self] at h
    cases h
theorem nbB_zero {a p : Br} : nbB a p = 0 ↔ (a.x = p.x ∧ ltB a.y p.y = true) ∨ ltB a.x p.x = true := by
  unfold nbB
  constructor
  · intro h
    cases e : eqB a.x p.x
    · rw [e] at h
      cases l : ltB a.x p.x
      · rw [l] at h; simp at h
      · exact .inr rfl
    · rw [e] at h
      cases e2 : eqB a.y p.y
      · rw [e2] at h
        cases l : ltB a.y p.y
        · rw [l] at h; simp at h
        · exact .inl ⟨eqB_iff.1 e, rfl⟩
      · rw [e2] at h; simp at h
  · rintro (⟨h1, h2⟩ | h)
    · rw [eqB_iff.2 h1, ltB_ne h2, h2]; simp
    · rw [ltB_ne h, h]; simp
theorem nbB_trans {a b c : Br} (h1 : nbB a b = 0) (h2 : nbB b c = 0) : nbB a c = 0 := by
  rw [nbB_zero] at *
  rcases h1 with ⟨e1, l1⟩ | l1 <;> rcases h2 with ⟨e2, l2⟩ | l2
  · exact .inl ⟨e1.trans e2, ltB_trans l1 l2⟩
  · exact .inr (e1 ▸ l2)
  · exact .inr (e2 ▸ l1)
  · exact .inr (ltB_trans l1 l2)
theorem nbB_all {l : List Br} (h : firstE (hereB l) l.length = 0) : ∀ j i, i < j → j < l.length → nbB (l.getD i brNil) (l.getD j brNil) = 0 := by
  have h1 := firstE_zero h
  intro j
  induction j with
  | zero => intro i hi; omega
  | succ j ih =>
    intro i hi hj
    have hs : nbB (l.getD j brNil) (l.getD (j + 1) brNil) = 0 := by
      have := h1 (j + 1) hj
      unfold hereB at this
      split at this
      · cases this
      · rwa [if_neg (by omega), Nat.add_sub_cancel] at this
    by_cases e : i = j
    · subst e; exact hs
    · exact nbB_trans (ih i (by omega) (by omega)) hs
theorem pairs_differ {l : List Br} (h : firstE (hereB l) l.length = 0) : l.Pairwise fun a p => ¬ (a.x = p.x ∧ a.y = p.y) := by
  rw [List.pairwise_iff_getElem]
  intro i j hi hj hij
  have := nbB_all h j i hij hj
  rw [List.getD_eq_getElem?_getD, List.getD_eq_getElem?_getD, List.getElem?_eq_getElem hi, List.getElem?_eq_getElem hj] at this
  simp only [Option.getD_some] at this
  rw [nbB_zero] at this
  rintro ⟨e1, e2⟩
  rcases this with ⟨_, h2⟩ | h2
  · have := ltB_ne h2; rw [eqB_iff.2 e2] at this; cases this
  · have := ltB_ne h2; rw [eqB_iff.2 e1] at this; cases this
theorem fold_miss {p : ByteArray × ByteArray} : ∀ {l : List Br} {r : Option Br}, (∀ x ∈ l, ¬ (x.x = p.1 ∧ x.y = p.2)) → l.foldl (fun r x => if eqB x.x p.1 = true ∧ eqB x.y p.2 = true then some x else r) r = r
  | [], _, _ => rfl
  | y :: l, r, h => by
    rw [List.foldl_cons, if_neg (by rw [eqB_iff, eqB_iff]; exact h y (by simp))]
    exact fold_miss fun x hx => h x (by simp [hx])
theorem first_last {a b : ByteArray} : ∀ {l : List Br}, l.Pairwise (fun x y => ¬ (x.x = y.x ∧ x.y = y.y)) → firstB l a b = lastB l (a, b)
  | [], _ => rfl
  | y :: l, h => by
    obtain ⟨h1, h2⟩ := List.pairwise_cons.1 h
    unfold firstB lastB
    rw [List.find?_cons, List.foldl_cons]
    by_cases e : y.x = a ∧ y.y = b
    · have hp : isP a b y = true := by unfold isP; rw [eqB_iff.2 e.1, eqB_iff.2 e.2]; rfl
      rw [hp, if_pos ⟨eqB_iff.2 e.1, eqB_iff.2 e.2⟩, fold_miss (p := (a, b)) fun x hx => ?_]
      rintro ⟨e1, e2⟩
      exact h1 x hx ⟨e.1.trans e1.symm, e.2.trans e2.symm⟩
    · have hp : isP a b y = false := by
        unfold isP
        cases g1 : eqB y.x a
        · rfl
        · cases g2 : eqB y.y b
          · rfl
          · exact absurd ⟨eqB_iff.1 g1, eqB_iff.1 g2⟩ e
      rw [hp, if_neg (by rw [eqB_iff, eqB_iff]; exact e)]
      exact first_last h2
theorem check_zero {M : Mdl} (h : checkM M = 0) : M.us.length ≤ 512 ∧ M.bs.length ≤ 2048 ∧ firstE (hereB M.bs) M.bs.length = 0 := by
  unfold checkM at h
  split at h
  · cases h
  · split at h
    · cases h
    · rename_i h1 h2
      split at h
      · exact ⟨by omega, by omega, h⟩
      · rename_i h3; exact absurd h h3
theorem step_same {M : Mdl} (h : checkM M = 0) (a b : ByteArray) : refStepN M a b = stepN M a b := by
  unfold refStepN stepN
  rw [first_last (pairs_differ (check_zero h).2.2)]
  rfl
set_option maxHeartbeats 4000000 in
theorem refScore_any (M : Mdl) (v : Value) (l : List ByteArray) (w : World) (hM : MdlAt w M) (h0 : checkM M = 0) (hv : WdsAt w v l) :
    Calls Try.prog 23 #[mdlV M, v] w fun e w' => e = .returned (.int .i64 (scoreN M l)) ∧ Below w.heap.size w w' := by
  obtain ⟨⟨p, cap, rfl, hl, hc, hrow⟩, hz⟩ := hv
  unfold maxLen at hc
  have HM := Lib.hid hM
  have HR := Lib.hid hrow
  have HN := Lib.hid (show scoreN M l = wrap64 ((scoreTo M l l.length).1 + stepN M (scoreTo M l l.length).2 ⟨#[]⟩) from rfl)
  have agM := Try.isAgg25
  have zgM := Try.sizeOf25
  have cS : ∀ a b w, MdlAt w M → Calls Try.prog 17 #[mdlV M, .string a, .string b] w fun e w' => e = .returned (.int .i64 (stepN M a b)) ∧ Below w.heap.size w w' := fun a b w h => step_same h0 a b ▸ refStep_any M a b w h
  unfold mdlV at *
  clear hM hrow hz h0
  go_enter Try.func23, Try.ntmps23
  go_wp2
  go_loopw [5, 6, 7] (fun x y i wr => ∃ k : Nat, k ≤ l.length ∧ i = .int .i64 k ∧ x = .int .i64 (scoreTo M l k).1 ∧ y = .string (scoreTo M l k).2 ∧ Hid (MdlAt wr M) ∧ Hid (Below w.heap.size w wr) ∧ Hid (MB w.heap.size M.unk M.uv M.bv wr)) (fun _ _ i _ => l.length - (RowKit.intOf i).toNat)
  case atStart => exact ⟨0, Nat.zero_le _, rfl, rfl, rfl, HM.out.step (below_box _), below_box _, MB.new _ _ _ _⟩
  case round =>
    obtain ⟨k, hk, rfl, rfl, rfl, HM2, HB, HX⟩ := hrel
    obtain ⟨m0, m1, m2, hsz⟩ := HX.out
    by_cases hlt : k < l.length
    · obtain ⟨A, rfl, hA, hcell⟩ := HR.out (by omega)
      have hAb : (A.add k).block < wr.heap.size := by rw [add_block]; exact Nat.lt_of_lt_of_le hA HB.out.size
      have x0 : wr.cell? (A.add k) = some (.string (l.getD k ⟨#[]⟩)) := by
        have := hcell k 0 hlt (by omega)
        rw [Nat.mul_one, Nat.add_zero] at this
        rw [HB.out.cell (by rw [add_block]; exact hA)]; exact this
      have HN2 := Lib.hid (show scoreTo M l (k + 1) = (wrap64 ((scoreTo M l k).1 + stepN M (scoreTo M l k).2 (l.getD k ⟨#[]⟩)), l.getD k ⟨#[]⟩) from rfl)
      clear hcell
      have c1 := cS (scoreTo M l k).2 (l.getD k ⟨#[]⟩) wr.drew (HM2.out.step (bdN wr 1))
      generalize stepN M (scoreTo M l k).2 (l.getD k ⟨#[]⟩) = D at c1 HN2
      generalize l.getD k ⟨#[]⟩ = xw at x0 HN2 c1
      generalize (scoreTo M l k).1 = S0 at HN2 ⊢
      generalize (scoreTo M l k).2 = L0 at c1 ⊢
      go_wp2
      go_region_held3 (fun w' => w'.cell? (A.add k) = some (.string xw) ∧ w'.cell? ⟨w.heap.size, 0, none⟩ = some (.int .i64 M.unk) ∧ w'.cell? ⟨w.heap.size, 1, none⟩ = some M.uv ∧ w'.cell? ⟨w.heap.size, 2, none⟩ = some M.bv)
        (first
          | go_keep
          | (refine ⟨?_, ?_, ?_, ?_⟩
             · (rw [hb3.cell (p := A.add k) (by show _ < wr.heap.size; exact hAb)]; assumption)
             · (rw [hb3.cell (p := ⟨w.heap.size, 0, none⟩) (by show _ < wr.heap.size; exact hsz)]; assumption)
             · (rw [hb3.cell (p := ⟨w.heap.size, 1, none⟩) (by show _ < wr.heap.size; exact hsz)]; assumption)
             · (rw [hb3.cell (p := ⟨w.heap.size, 2, none⟩) (by show _ < wr.heap.size; exact hsz)]; assumption)))
        ((go_simp; go_at_call 17; (with_reducible refine c1.mono ?_); rintro e w3 ⟨rfl, hb3⟩))
      rename_i hHeld
      have HB3 := Lib.hid (below_next HB.out (below_next (bdN wr 1) hb3))
      have HX3 := Lib.hid (HX.out.step (below_next (bdN wr 1) hb3))
      have HM3 := Lib.hid (HM2.out.step (below_next (bdN wr 1) hb3))
      clear x0 m0 m1 m2 hb3
      obtain ⟨x0, m0, m1, m2⟩ := hHeld
      go_wp2
      go_roundw
      case rel => exact ⟨k + 1, by omega, by go_num, by rw [HN2.out]; simp [IntKind.wrap_i64, wrap64], by rw [HN2.out], HM3.out, HB3.out, HX3.out⟩
      case measure => simp [RowKit.intOf]; omega
    · obtain rfl : k = l.length := by omega
      have c1 := cS (scoreTo M l l.length).2 ⟨#[]⟩ wr HM2.out
      generalize stepN M (scoreTo M l l.length).2 ⟨#[]⟩ = D at c1 HN
      generalize (scoreTo M l l.length).1 = S0 at HN ⊢
      generalize (scoreTo M l l.length).2 = L0 at c1 ⊢
      go_wp2_with (go_at_call 17; (with_reducible refine c1.mono ?_); rintro e w2 ⟨rfl, hb2⟩)
      go_ret
      exact ⟨ret_int HN.out.symm, below_next HB.out hb2⟩
end Go.Proofs.Ytgcglaagjplbfaa
