/-
  A CLOSED RUN, HELD AGAINST THE MODEL (7): append, whole.
-/
import Derived.Test.YtnkpjkomokkhcaaGreatDoorEngG
namespace Go.Eng
noncomputable section
set_option linter.unusedVariables false
set_option linter.unusedSimpArgs false

section
variable {P : Program} {base : Nat} {w0 : World} {β : Map} {E : EM} {w : World}

theorem VRs.allOne {r r' : List Value} (h : VRs β r r') (h1 : r.all isOne = true) : ∀ v ∈ r', v.oneCell' = true := by
  induction r generalizing r' with
  | nil => cases h; simp
  | cons v r ih =>
    cases h with
    | cons hv ht =>
      simp only [List.all_cons, Bool.and_eq_true] at h1
      intro u hu
      rcases List.mem_cons.1 hu with e | e
      · rw [e]; exact hv.oneCell h1.1
      · exact ih ht h1.2 u e

theorem Addr.add_none (b o n : Nat) : (⟨b, o, none⟩ : Addr).add n = ⟨b, o + n, none⟩ := by unfold Addr.add; split <;> simp [*]

/-- The room was there: the same cells of the model, with the new ones behind; the old row is not looked at again. -/
theorem append_adopt (g : Good P base w0 β E w) {t u ty e : TypeId} {i : TypeInfo} {d : TypeDesc} (ht : P.underlying t = some (.slice e)) (hu : P.underlying u = some d) (hd : notInt d = true) (hi : P.info? e = some i)
    {a : Addr} {l : Loc} (hl : β a.block = some l) {c : List Value} {t2 : TypeId} {fx : Bool} (hget : E.get a.block = .cells c t2 true fx) (hte : t2 = e) {sLen sCap n : Nat} (hreach : a.off + sCap * szOf P t2 = c.length)
    {x : Value} {old new new' : List Value} (hold : cellsAt E a (sLen * i.size) = some old) (rn : VRs β new new') (ln : new.length = n * i.size) (h1 : new.all isOne = true)
    (hlen : (Builtin.lenOf x).run P w = .ok n w) (hn : (Builtin.firstCells i.size n x).run P w = .ok new'.toArray w) (hgrow : sCap < sLen + n) (hfit : sLen + n ≤ sCap + l.slack) :
    ∃ β1 v' w1, Ext β β1 ∧ VR β1 (.slice (some ⟨E.n, 0, none⟩) (sLen + n) (sLen + n)) v' ∧ Good P base w0 β1 ((E.set a.block .dead).push (.cells (old ++ new) e true false)) w1 ∧
      (Builtin.append_ #[t, u] ty #[.slice (some ⟨l.blk, l.off + a.off, none⟩) sLen (sCap + l.slack), x]).run P w = .ok v' w1 := by
  have hrep := g.rep _ _ hl
  rw [hget] at hrep
  obtain ⟨hcl, hes, c', t', fr, hb, hsz, hc, hown⟩ := hrep
  have ht2 : szOf P t2 = i.size := by rw [hte]; exact szOf_info hi
  obtain ⟨hbase, rfl, htt, _⟩ := hown.1 rfl
  have hesi : l.es = i.size := by rw [hes, ht2]
  have hk := g.dom _ _ hl
  -- the old cells
  have hold' : old.length = sLen * i.size ∧ ∀ j v, old[j]? = some v → c[a.off + j]? = some v := by
    rw [cellsAt_def] at hold
    rw [hget] at hold
    simp only at hold
    split at hold
    · rename_i hle
      cases hold
      refine ⟨by simp; omega, fun j v hv => ?_⟩
      have hj : j < sLen * i.size := by
        have := (List.getElem?_eq_some_iff.1 hv).1
        simp at this; omega
      rw [List.getElem?_take_of_lt hj, List.getElem?_drop] at hv
      exact hv
    · cases hold
  obtain ⟨lo, ho⟩ := hold'
  have ln' : new'.length = n * i.size := by rw [← rn.length]; exact ln
  have hcap : l.off + a.off + (sCap + l.slack) * i.size ≤ c'.size := by
    have : l.size = a.off + sCap * i.size := by rw [← hcl, ← hreach, ht2]
    rw [this, hesi] at hsz
    rw [Nat.add_mul]; omega
  have hmul : (sLen + n) * i.size ≤ (sCap + l.slack) * i.size := Nat.mul_le_mul_right _ hfit
  have hroom : l.off + a.off + sLen * i.size + 0 + new'.length ≤ c'.size := by
    rw [ln']; rw [Nat.add_mul] at hmul; omega
  obtain ⟨w1, c1, hrun, s1, s2, s3, s4, s5, s6, s7, s8, s9⟩ := storeCells_raw (P := P) new' 0 hb hroom (rn.allOne h1)
  have happ := append_fit (ty := ty) (a := ⟨l.blk, l.off + a.off, none⟩) (sLen := sLen) ht hu hd hi hlen hn hfit (by rw [Addr.add_none]; exact hrun)
  have gk := g.kill hk
  have hfree : ∀ j lj, β j = some lj → (E.set a.block .dead).get j ≠ .dead → lj.blk ≠ l.blk := by
    intro j lj ej dj hj
    by_cases hjk : j = a.block
    · subst hjk; rw [EM.get_set_same rfl hk] at dj; exact dj rfl
    · rw [EM.get_set_other _ hjk hk] at dj
      exact hjk (g.inj _ _ _ _ ej hl dj (by rw [hget]; simp) hj)
  let L : Loc := ⟨l.blk, l.off + a.off, (sLen + n) * i.size, i.size, sCap + l.slack - (sLen + n)⟩
  have hx : Ext β (β.put E.n L) := Ext.put g.fresh L
  have hlen2 : (old ++ new).length = (sLen + n) * i.size := by simp only [List.length_append, lo, ln, Nat.add_mul]
  have gn : Good P base w0 (β.put (E.set a.block .dead).n L) ((E.set a.block .dead).push (.cells (old ++ new) e true false)) w1 := by
    refine gk.put (by omega) (fun j hj _ => s2 j hj) hfree hbase (by rw [s1]; show l.blk < _; exact g.lt _ _ hl) ?_ s7 s8 s9
    refine ⟨hlen2, (szOf_info hi).symm, c1, t', (0, 0), s3, ?_, ?_, fun _ => ⟨hbase, rfl, htt.trans hte, fun e => by cases e⟩, fun e => by cases e⟩
    · rw [s4]
      have : (sLen + n) * i.size + (sCap + l.slack - (sLen + n)) * i.size = (sCap + l.slack) * i.size := by
        rw [← Nat.add_mul]; congr 1; omega
      show l.off + a.off + (sLen + n) * i.size + (sCap + l.slack - (sLen + n)) * i.size ≤ c'.size
      omega
    · intro j v hv
      show ∃ v', c1[l.off + a.off + j]? = some v' ∧ _
      by_cases hj : j < old.length
      · rw [List.getElem?_append_left hj] at hv
        obtain ⟨v', hv', hr⟩ := hc _ _ (ho j v hv)
        refine ⟨v', ?_, hr.ext hx⟩
        rw [s6 _ (by omega), ← hv']
        congr 1; omega
      · rw [List.getElem?_append_right (by omega)] at hv
        obtain ⟨v', hv', hr⟩ := rn.get hv
        refine ⟨v', ?_, hr.ext hx⟩
        have hlt := (List.getElem?_eq_some_iff.1 hv').1
        have := s5 _ hlt
        rw [← hv', ← this]
        congr 1; omega
  refine ⟨_, _, _, hx, VR.slice (a' := ⟨l.blk, l.off + a.off, none⟩) ?_ (.inr ⟨L, Map.put_same _ _ _, ?_, rfl⟩), gn, ?_⟩

  · exact ⟨L, Map.put_same _ _ _, rfl, rfl⟩
  · show 0 + (sLen + n) * i.size = (sLen + n) * i.size
    omega
  · rw [happ]
    have : sLen + n + (sCap + l.slack - (sLen + n)) = sCap + l.slack := by omega
    show _ = Result.ok (Value.slice _ (sLen + n) (sLen + n + (sCap + l.slack - (sLen + n)))) w1
    rw [this]

theorem append_ok (g : Good P base w0 β E w) {t u ty : TypeId} {s s' x x' : Value} (hs : VR β s s') (hx : VR β x x') {v : Value} {E1 : EM} (h : appendE P E [t, u] [s, x] = some (v, E1)) :
    ∃ β1 v' w1, Ext β β1 ∧ VR β1 v v' ∧ Good P base w0 β1 E1 w1 ∧ (Builtin.append_ #[t, u] ty #[s', x']).run P w = .ok v' w1 := by
  unfold appendE at h
  split at h
  case h_2 => cases h
  rename_i t0 u0 b sLen sCap x0 e1 e2
  simp only [List.cons.injEq, and_true] at e1 e2
  obtain ⟨rfl, rfl⟩ := e1
  obtain ⟨rfl, rfl⟩ := e2
  split at h
  case h_2 => cases h
  rename_i e d ht hu
  split at h
  case h_2 => cases h
  rename_i i z hi hz
  have hzi := zeroE_info hz hi
  split at h
  · cases h
  rename_i hcond
  simp only [not_or, Bool.not_eq_false, Bool.not_eq_true, Decidable.not_not] at hcond
  obtain ⟨hd, h0s, h0b, hzs, hspt⟩ := hcond
  split at h
  · cases h
  rename_i n new hnew
  obtain ⟨new', rn, ln, hlen, hfirst⟩ := newCells_ok g hx hnew
  split at h
  · -- there is room
    rename_i hfit
    split at h
    · rename_i a
      simp only [Option.map_eq_some_iff, Prod.mk.injEq] at h
      obtain ⟨E2, hst, rfl, rfl⟩ := h
      obtain ⟨a', cap', rfl, ha, hc⟩ := hs.sliceInv (by simpa [spotted] using hspt)
      obtain ⟨w1, hrun, g1⟩ := storeCellsE_ok _ 0 g (ha.add _) rn hst
      have hcap : sCap ≤ cap' := by rcases hc with hc | ⟨l, _, _, hc⟩ <;> omega
      refine ⟨β, .slice (some a') (sLen + n) cap', w1, Ext.refl β, .slice ha hc, g1, ?_⟩
      exact append_fit ht hu hd hi hlen (hfirst w rfl rfl rfl rfl) (by omega) (by simpa using hrun)
    · split at h
      · rename_i hn0
        cases h
        subst hn0
        have := hs.scalarEq rfl
        subst this
        refine ⟨β, .slice none sLen sCap, w, Ext.refl β, .scalar rfl, g, ?_⟩
        have hf := hfirst w rfl rfl rfl rfl
        have hfit' : sLen ≤ sCap := by omega
        unfold Builtin.append_
        simp only [List.getElem?_toArray, List.getElem?_cons_zero, List.getElem?_cons_succ, Sem.run_bind, run_underlying ht, run_underlying hu, Result.andThen_ok, run_sizeOf hi, Sem.run_pure]
        split
        · simp [notInt] at hd
        · simp [hlen, hfit', hf]
      · cases h
  · rename_i hgrow
    split at h
    · cases h
    rename_i hbig
    simp only [not_or, Bool.not_eq_false, gt_iff_lt, Nat.not_lt] at hbig
    obtain ⟨h47, hall⟩ := hbig
    split at h
    · -- from nothing
      split at h
      · rename_i hl0
        cases h
        subst hl0
        have := hs.scalarEq rfl
        subst this
        have := append_new (ty := ty) (old := []) (old' := []) (sLen := 0) (b := none) (sCap := sCap) g ht hu hd hi hzi hzs hlen (hfirst w.drew rfl rfl rfl rfl) rfl (by omega) h0b h47 .nil rn (by simp) ln
        simpa using this
      · cases h
    · rename_i a
      obtain ⟨a', cap', rfl, ⟨l, hl, hspot, rfl⟩, hc⟩ := hs.sliceInv (by simpa [spotted] using hspt)
      split at h
      case h_2 => cases h
      rename_i c t2 own fx old hget hold
      obtain ⟨old', ro, lo, holdrun, _⟩ := (g.sameHeap (w' := w.drew) rfl).loads ⟨l, hl, hspot, rfl⟩ hold
      have hrep := g.rep _ _ hl
      rw [hget] at hrep
      split at h
      · rename_i hreach0
        obtain ⟨_, hreach⟩ := hreach0
        split at h
        · rename_i hown
          cases h
          obtain ⟨rfl, ht2⟩ := hown
          have hcase : cap' = sCap ∨ cap' = sCap + l.slack := by
            rcases hc with hc | ⟨l2, hl2, _, hc⟩
            · exact .inl hc
            · rw [hl] at hl2; cases hl2; exact .inr hc
          by_cases hroom : sLen + n ≤ cap'
          · have : cap' = sCap + l.slack := by omega
            subst this
            exact append_adopt g ht hu hd hi hl hget ht2 hreach hold rn ln hall hlen (hfirst w rfl rfl rfl rfl) (by omega) hroom
          · have gk := g.kill (g.dom _ _ hl)
            exact append_new (E := E.set a.block .dead) gk ht hu hd hi hzi hzs hlen (hfirst w.drew rfl rfl rfl rfl) holdrun (by omega) h0b h47 ro rn lo ln
        · cases h
      · rename_i hreach
        cases h
        have : cap' = sCap := by
          rcases hc with hc | ⟨l2, hl2, hr, hc⟩
          · exact hc
          · rw [hl] at hl2; cases hl2
            cases hfx : fx with
            | false => exact absurd ⟨hfx, by rw [hrep.1, ← hr, hrep.2.1]⟩ hreach
            | true =>
              obtain ⟨_, _, _, _, _, _, _, _, hz⟩ := hrep
              rw [hz.2 hfx] at hc; exact hc
        subst this
        exact append_new g ht hu hd hi hzi hzs hlen (hfirst w.drew rfl rfl rfl rfl) holdrun (by omega) h0b h47 ro rn lo ln

end
end
end Go.Eng
