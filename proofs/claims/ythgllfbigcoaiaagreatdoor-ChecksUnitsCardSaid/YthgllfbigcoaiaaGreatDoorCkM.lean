/- Steps: the table of what is needed, by the specification. Steps: the best one is the one that the specification takes. Steps: the list of them, by the specification. Steps: the list of them, by the program, told one by one. Matches, by the specification: which grams are equal; what is used up. Matches, by the specification. Matches and steps of any two lists, by the program and by the specification. -/
import Derived.Test.YthgllfbigcoaiaaGreatDoorCkT
import Derived.Test.YthgllfbigcoaiaaGreatDoorCkA
namespace Go.Proofs.YthgllfbigcoaiaaGreatDoor
open Go Go.RowKit Go.Lib
set_option maxRecDepth 100000
theorem dL_most (a b : List ByteArray) (i k : Nat) : dL a b i k ≤ (a.length - i) + (b.length - k) := by
  unfold dL
  have := lev_max (a.drop i) (b.drop k)
  simp only [List.length_drop] at this
  omega
theorem InI.putv {a b : List ByteArray} {o : Nat} {rb : Nat → Nat} {i n : Nat} {w : World} (h : InI a b o rb i (n + 1) w) {B : Nat} (hB : rb i = B) (z : Int) (hz : z = (dL a b i n : Nat)) : InI a b o rb i n (w.setCell ⟨B, n, none⟩ (.int .i64 z)) := by
  subst hz; subst hB
  exact h.put
theorem OutI.enter2 {a b : List ByteArray} {o : Nat} {rb : Nat → Nat} {i : Nat} {w : World} (h : OutI a b o rb (i + 1) w) :
    InI a b o (fun k => if k = i then w.heap.size else rb k) i (b.length + 1) ((w.setCell ⟨o, i, none⟩ (.slice (some ⟨w.heap.size, 0, none⟩) (b.length + 1) (b.length + 1))).alloc (.cells (madeCells #[.int .i64 0] (b.length + 1)) 3)) := by
  have ho : o < w.heap.size := h.top.lt
  have hk : ∀ k, i + 1 ≤ k → (if k = i then w.heap.size else rb k) = rb k := fun k hk => if_neg (by omega)
  have hsz : (w.setCell ⟨o, i, none⟩ (.slice (some ⟨w.heap.size, 0, none⟩) (b.length + 1) (b.length + 1))).heap.size = w.heap.size := by simp [World.setCell]
  have hmk := RowK.make (w.setCell ⟨o, i, none⟩ (.slice (some ⟨w.heap.size, 0, none⟩) (b.length + 1) (b.length + 1))) (.int .i64 0) (b.length + 1) 3
  rw [hsz] at hmk
  refine ⟨(h.top.set i _ _ ?_).step (below_box _), ⟨?_⟩, ⟨?_, ?_⟩, ?_⟩
  · intro k _
    unfold rowV
    by_cases e : k = i
    · subst e; simp
    · rw [if_neg e]
      by_cases e2 : i + 1 ≤ k
      · rw [if_pos (by omega), if_pos e2]; simp only [if_neg e]
      · rw [if_neg (by omega), if_neg e2]
  · intro k h2 h3
    simp only [hk k h2]
    exact ⟨(h.full.rows k h2 h3).1, ((h.full.rows k h2 h3).2.far _ (fun e => (h.full.rows k h2 h3).1 e.symm)).step (below_box _)⟩
  · simp only [if_true]; omega
  · intro k h2 h3
    simp only [hk k h2, if_true]
    have := (h.full.rows k h2 h3).2.lt
    omega
  · simp only [if_true]
    obtain ⟨cur, c1, c2, c3⟩ := hmk
    refine ⟨cur, c1, c2, fun j hj => ?_⟩
    rw [c3 j hj]
    unfold numV
    rw [if_neg (by omega)]
set_option maxHeartbeats 16000000 in
theorem refCosts_any (a b : List ByteArray) (va vb : Value) (w : World) (ha : WdsAt w va a) (hb : WdsAt w vb b) (hal : a.length ≤ 512) (hbl : b.length ≤ 512) :
    Calls Tryz.prog 42 #[va, vb] w fun e w' => (∃ o rb, e = .returned (.slice (some ⟨o, 0, none⟩) (a.length + 1) (a.length + 1)) ∧ TabW w' o rb a.length b.length (dL a b) (fun _ _ => True)) ∧ Below w.heap.size w w' := by
  have HA := Lib.hid ha
  have HB := Lib.hid hb
  obtain ⟨⟨p, cap, rfl, hl, hc, hrA⟩, hza⟩ := ha
  obtain ⟨⟨p2, cap2, rfl, hl2, hc2, hrB⟩, hzb⟩ := hb
  unfold maxLen at hc hc2
  clear hrA hrB hza hzb
  have hmo := made_out a.length (by omega)
  have hmi := made_in b.length (by omega)
  go_enter Tryz.func42, Tryz.ntmps42
  go_wp2
  clear hmo
  have hO0 : Hid (OutI a b w.heap.size (fun _ => 0) (a.length + 1) (w.alloc (.cells (madeCells #[.slice none 0 0] (a.length + 1)) 46))) := OutI.new
  have hM0 : Hid (Below w.heap.size w (w.alloc (.cells (madeCells #[.slice none 0 0] (a.length + 1)) 46))) := below_box _
  generalize w.alloc (.cells (madeCells #[.slice none 0 0] (a.length + 1)) 46) = W0 at *
  go_loopw [6, 7, 8] (fun iv _ _ wr => ∃ m : Nat, m ≤ a.length + 1 ∧ iv = .int .i64 ((m : Int) - 1) ∧ Hid (∃ rb, OutI a b w.heap.size rb m wr) ∧ Hid (Below w.heap.size w wr)) (fun iv _ _ _ => (RowKit.intOf iv + 1).toNat)
  case atStart => exact ⟨a.length + 1, by omega, by go_num, ⟨_, hO0.out⟩, hM0.out⟩
  case round =>
    obtain ⟨m, hm, rfl, HO, HM⟩ := hrel
    clear hO0 hM0
    cases m with
    | zero =>
      go_wp2
      go_ret
      obtain ⟨rb, ho⟩ := HO.out
      exact ⟨⟨w.heap.size, rb, rfl, ho.tab⟩, HM.out⟩
    | succ k =>
      have hk : (((k + 1 : Nat) : Int) - 1) = (k : Int) := by omega
      obtain ⟨rb, ho⟩ := HO.out
      have hkl : k < a.length + 1 := by omega
      have hba := below_box (w := wr) (.cells (madeCells #[.int .i64 0] (b.length + 1)) 3)
      have c1 := (ho.step hba).top.cell hkl
      have hr0 : rowV b.length rb (k + 1) k = .slice none 0 0 := by unfold rowV; rw [if_neg (by omega)]
      rw [hr0] at c1
      have f1 := (ho.step hba).top.frozen k
      rw [hk]
      have hki : (k : Int) < (a.length : Int) + 1 := by omega
      have hol : w.heap.size < wr.heap.size := ho.top.lt
      have hI0 := Lib.hid ho.enter2
      have hM0 : Hid (Below w.heap.size w ((wr.setCell ⟨w.heap.size, k, none⟩ (.slice (some ⟨wr.heap.size, 0, none⟩) (b.length + 1) (b.length + 1))).alloc (.cells (madeCells #[.int .i64 0] (b.length + 1)) 3))) := below_next (below_set HM.out (Nat.le_refl _) _) (below_box _)
      clear ho HO hr0 hba
      go_wp2
      clear c1 f1
      generalize (wr.setCell ⟨w.heap.size, k, none⟩ (.slice (some ⟨wr.heap.size, 0, none⟩) (b.length + 1) (b.length + 1))).alloc (.cells (madeCells #[.int .i64 0] (b.length + 1)) 3) = wi at *
      have hrk : (fun k_1 => if k_1 = k then wr.heap.size else rb k_1) k = wr.heap.size := by simp
      clear HM
      generalize (fun k_1 => if k_1 = k then wr.heap.size else rb k_1) = rb' at *
      generalize wr.heap.size = B at *
      go_loopw [7, 8] (fun jv _ wj => ∃ n : Nat, n ≤ b.length + 1 ∧ jv = .int .i64 ((n : Int) - 1) ∧ Hid (InI a b w.heap.size rb' k n wj) ∧ Hid (Below w.heap.size w wj)) (fun jv _ _ => (RowKit.intOf jv + 1).toNat)
      case atStart => exact ⟨b.length + 1, by omega, by go_num, hI0.out, hM0.out⟩
      case round =>
        obtain ⟨n, hn, rfl, HI, HM⟩ := hrel
        clear hI0 hM0
        cases n with
        | zero =>
          have HOo := Lib.hid (HI.out.leave)
          go_wp2
          go_roundw
          case rel => exact ⟨k, by omega, by go_num, ⟨_, HOo.out⟩, HM.out⟩
          case measure => simp [RowKit.intOf] <;> omega
        | succ n =>
          have hn1 : (((n + 1 : Nat) : Int) - 1) = (n : Int) := by omega
          rw [hn1]
          have hni : (n : Int) < (b.length : Int) + 1 := by omega
          have hnl : n < b.length + 1 := by omega
          have c0 := HI.out.top.cell (j := k) (by omega)
          have hrv : rowV b.length rb' k k = .slice (some ⟨B, 0, none⟩) (b.length + 1) (b.length + 1) := by unfold rowV; rw [if_pos (Nat.le_refl _), hrk]
          rw [hrv] at c0
          have c5 := HI.out.row.cell (j := n) hnl
          rw [hrk] at c5
          have f5 := HI.out.row.frozen n
          rw [hrk] at f5
          have hD : ∀ i j, dL a b i j ≤ 512 := fun i j => Nat.le_trans (dL_le a b i j) (by omega)
          have HPV := Lib.hid (HI.out.putv hrk)
          have hle1 := dL_most a b k n
          have d10 := hD (k + 1) n
          have d01 := hD k (n + 1)
          have d11 := hD (k + 1) (n + 1)
          rcases (show (k < a.length ∧ n < b.length) ∨ (k < a.length ∧ n = b.length) ∨ (k = a.length ∧ n < b.length) ∨ (k = a.length ∧ n = b.length) by omega) with ⟨hka, hnb⟩ | ⟨hka, hnb⟩ | ⟨hka, hnb⟩ | ⟨hka, hnb⟩
          case inl =>
            have h := dL_both (getD_some hka) (getD_some hnb)
            have hki2 : (k : Int) < (a.length : Int) := by omega
            have hni2 : (n : Int) < (b.length : Int) := by omega
            have i3 : (k : Int) + 1 < (a.length : Int) + 1 := by omega
            have i4 : (n : Int) + 1 < (b.length : Int) + 1 := by omega
            obtain ⟨x1, x2⟩ := HI.out.tab (k + 1) n (by omega) (by omega) (.inl (by omega))
            obtain ⟨_, x4⟩ := HI.out.tab (k + 1) (n + 1) (by omega) (by omega) (.inl (by omega))
            obtain ⟨x5, x6⟩ := HI.out.tab k (n + 1) (by omega) (by omega) (.inr ⟨rfl, by omega⟩)
            rw [hrk] at x5 x6
            obtain ⟨⟨q1, cq1, hq1, hlq1, hcq1, hrow1⟩, _⟩ := HA.out.step HM.out
            obtain ⟨rfl, _, rfl⟩ : p = q1 ∧ a.length = a.length ∧ cap = cq1 := by simpa using hq1
            obtain ⟨A1, rfl, hA1, hcell1⟩ := hrow1 (by omega)
            have y0 : wr.cell? (A1.add k) = some (.string (a.getD k ⟨#[]⟩)) := by
              have := hcell1 k 0 hka (by omega)
              rwa [Nat.mul_one, Nat.add_zero] at this
            obtain ⟨⟨q2, cq2, hq2, hlq2, hcq2, hrow2⟩, _⟩ := HB.out.step HM.out
            obtain ⟨rfl, _, rfl⟩ : p2 = q2 ∧ b.length = b.length ∧ cap2 = cq2 := by simpa using hq2
            obtain ⟨A2, rfl, hA2, hcell2⟩ := hrow2 (by omega)
            have y1 : wr.cell? (A2.add n) = some (.string (b.getD n ⟨#[]⟩)) := by
              have := hcell2 n 0 hnb (by omega)
              rwa [Nat.mul_one, Nat.add_zero] at this
            clear hcell1 hcell2 hrow1 hrow2 hq1 hq2 hcq1 hcq2 hlq1 hlq2 hD
            have heq : ∀ x y : ByteArray, (x = y) = (eqB x y = true) := fun x y => propext eqB_iff.symm
            simp only [heq] at h
            unfold eqB at h
            generalize a.getD k ⟨#[]⟩ = sa at *
            generalize b.getD n ⟨#[]⟩ = sb at *
            have HH := Lib.hid h
            clear h
            generalize rb' (k + 1) = R1 at *
            generalize dL a b (k + 1) n = D10 at *
            generalize dL a b k (n + 1) = D01 at *
            generalize dL a b (k + 1) (n + 1) = D11 at *
            cases he : (sa.toList == sb.toList)
            all_goals
              have HI2 : ∀ q, Hid (InI a b w.heap.size rb' k (n + 1) (wr.drewN q)) := fun q => HI.out.step (bdN _ _)
              have h := HH.out
              rw [he] at h
              simp only [if_true, Bool.false_eq_true, if_false] at h
              go_wp2
              go_quiet (fail)
              go_wp2
              go_roundw
              case rel => exact ⟨n, by omega, by go_num, (HI2 _).out.putv hrk _ (by omega), below_set (below_next HM.out (bdN _ _)) (by show w.heap.size ≤ B; omega) _⟩
              case measure => simp [RowKit.intOf] <;> omega
          case inr.inl =>
            subst hnb
            have h := dL_left (a := a) (b := b) (i := k) (j := b.length) hka (Nat.le_refl _)
            have hki2 : (k : Int) < (a.length : Int) := by omega
            have i3 : (k : Int) + 1 < (a.length : Int) + 1 := by omega
            obtain ⟨x1, x2⟩ := HI.out.tab (k + 1) b.length (by omega) (by omega) (.inl (by omega))
            clear hD d01 d11
            generalize rb' (k + 1) = R1 at *
            generalize dL a b (k + 1) b.length = D10 at *
            go_wp2
            go_roundw
            case rel => exact ⟨b.length, by omega, by go_num, HPV.out _ (by omega), below_set HM.out (by show w.heap.size ≤ B; omega) _⟩
            case measure => simp [RowKit.intOf] <;> omega
          case inr.inr.inl =>
            subst hka
            have h := dL_right (a := a) (b := b) (i := a.length) (j := n) (Nat.le_refl _) hnb
            have hni2 : (n : Int) < (b.length : Int) := by omega
            have i4 : (n : Int) + 1 < (b.length : Int) + 1 := by omega
            obtain ⟨x5, x6⟩ := HI.out.tab a.length (n + 1) (by omega) (by omega) (.inr ⟨rfl, by omega⟩)
            rw [hrk] at x5 x6
            clear hD d10 d11
            generalize dL a b a.length (n + 1) = D01 at *
            go_wp2
            go_roundw
            case rel => exact ⟨n, by omega, by go_num, HPV.out _ (by omega), below_set HM.out (by show w.heap.size ≤ B; omega) _⟩
            case measure => simp [RowKit.intOf] <;> omega
          case inr.inr.inr =>
            subst hka
            subst hnb
            have h := dL_end (a := a) (b := b) (i := a.length) (j := b.length) (Nat.le_refl _) (Nat.le_refl _)
            clear hD d10 d01 d11
            go_wp2
            go_roundw
            case rel => exact ⟨b.length, by omega, by go_num, HPV.out _ (by omega), below_set HM.out (by show w.heap.size ≤ B; omega) _⟩
            case measure => simp [RowKit.intOf] <;> omega
end Go.Proofs.YthgllfbigcoaiaaGreatDoor
namespace Go.Proofs.YthgllfbigcoaiaaGreatDoor
open Go Go.RowKit Go.Lib
set_option maxRecDepth 100000
section
variable {a b : List ByteArray} {i j : Nat}
/-- the best step is the first of those that cost as little -/
theorem bl_first {D : Nat → Nat → Nat} : ∀ s : Nat, ∀ t, t < (blTo a b D i j s).1 → (costV a b D t i j).2 = true → (blTo a b D i j s).2 < (costV a b D t i j).1 ∨ (blTo a b D i j s).2 < 0
  | 0 => fun t h => absurd h (Nat.not_lt_zero t)
  | s + 1 => by
    have ih := bl_first (D := D) s
    have inv := bl_inv (a := a) (b := b) (D := D) (i := i) (j := j) s
    rw [blTo]
    split
    · rename_i hc
      intro t ht hto
      rcases inv with ⟨h1, h2⟩ | ⟨h1, h2, h3, h4⟩
      · rw [h2 t ht] at hto; cases hto
      · have := h4 t ht hto
        left
        show (costV a b D s i j).1 < _
        rcases hc.2 with h | h <;> omega
    · exact ih
theorem best_first (hi : i ≤ a.length) (hj : j ≤ b.length) (hne : i < a.length ∨ j < b.length) {t : Nat} (ht : t < bestN a b (dL a b) i j) (hok : (costV a b (dL a b) t i j).2 = true) : (dL a b i j : Int) < (costV a b (dL a b) t i j).1 := by
  have hb := (best_dL hi hj hne).2
  unfold bestN at ht hb
  rcases bl_inv (a := a) (b := b) (D := dL a b) (i := i) (j := j) 4 with ⟨h1, h2⟩ | ⟨h1, h2, h3, h4⟩
  · rw [h2 t (by have := blTo_le a b (dL a b) i j 4; omega)] at hok; cases hok
  · have hcost : (blTo a b (dL a b) i j 4).2 = (dL a b i j : Int) := by
      rw [h3] at hb
      exact congrArg Prod.fst hb
    rcases bl_first (a := a) (b := b) (i := i) (j := j) (D := dL a b) 4 t ht hok with h | h <;> omega
/-- the step that the specification takes -/
def refN (a b : List ByteArray) (i j : Nat) : Nat :=
  if i < a.length ∧ j < b.length ∧ eqB (a.getD i ⟨#[]⟩) (b.getD j ⟨#[]⟩) = true ∧ dL a b (i + 1) (j + 1) = dL a b i j then 0
  else if i < a.length ∧ j < b.length ∧ dL a b (i + 1) (j + 1) + 1 = dL a b i j then 1
  else if i < a.length ∧ dL a b (i + 1) j + 1 = dL a b i j then 2 else 3
theorem best_ref (hi : i ≤ a.length) (hj : j ≤ b.length) (hne : i < a.length ∨ j < b.length) : bestN a b (dL a b) i j = refN a b i j := by
  obtain ⟨h4, hc⟩ := best_dL hi hj hne
  have hf := fun t ht hok => best_first hi hj hne (t := t) ht hok
  have hfst : (costV a b (dL a b) (bestN a b (dL a b) i j) i j).1 = (dL a b i j : Int) := by rw [hc]
  have hok : (costV a b (dL a b) (bestN a b (dL a b) i j) i j).2 = true := by rw [hc]
  have hin := cv_ok hok
  generalize bestN a b (dL a b) i j = s at *
  unfold refN
  split
  · rename_i h
    obtain ⟨h1, h2, h3, h5⟩ := h
    rcases Nat.eq_zero_or_pos s with e | e
    · exact e
    · have e0 := cv0 (D := dL a b) h1 h2
      have := hf 0 e (by rw [e0]; exact h3)
      rw [e0] at this
      simp only at this
      omega
  · rename_i n0
    have s0 : s ≠ 0 := by
      rintro rfl
      have h1 : i < a.length := hin.1
      have h2 : j < b.length := hin.2
      have e0 := cv0 (D := dL a b) h1 h2
      rw [e0] at hok hfst
      simp only at hfst
      exact n0 ⟨h1, h2, hok, by omega⟩
    split
    · rename_i h
      obtain ⟨h1, h2, h5⟩ := h
      rcases (show s = 1 ∨ 1 < s by omega) with e | e
      · exact e
      · have e1 := cv1 (D := dL a b) h1 h2
        have := hf 1 e (by rw [e1])
        rw [e1] at this
        simp only at this
        omega
    · rename_i n1
      have s1 : s ≠ 1 := by
        rintro rfl
        have h1 : i < a.length := hin.1
        have h2 : j < b.length := hin.2
        have e1 := cv1 (D := dL a b) h1 h2
        rw [e1] at hfst
        simp only at hfst
        exact n1 ⟨h1, h2, by omega⟩
      split
      · rename_i h
        obtain ⟨h1, h5⟩ := h
        rcases (show s = 2 ∨ 2 < s by omega) with e | e
        · exact e
        · have e2 := cv2 (D := dL a b) h1 hj
          have := hf 2 e (by rw [e2])
          rw [e2] at this
          simp only at this
          omega
      · rename_i n2
        have s2 : s ≠ 2 := by
          rintro rfl
          have h1 : i < a.length := hin.1
          have e2 := cv2 (D := dL a b) h1 hj
          rw [e2] at hfst
          simp only at hfst
          exact n2 ⟨h1, by omega⟩
        omega
/-- steps that the best ones make, one by one -/
inductive GrTo (a b : List ByteArray) : List Nat → Nat → Nat → Prop
  | nil : GrTo a b [] 0 0
  | snoc {xs : List Nat} {i j : Nat} : GrTo a b xs i j → (i < a.length ∨ j < b.length) → GrTo a b (xs ++ [bestN a b (dL a b) i j]) (aheadI (bestN a b (dL a b) i j) i) (aheadJ (bestN a b (dL a b) i j) j)
/-- where the best steps lead -/
def goTo (a b : List ByteArray) : Nat → List Nat × Nat × Nat
  | 0 => ([], 0, 0)
  | n + 1 => ((goTo a b n).1 ++ [bestN a b (dL a b) (goTo a b n).2.1 (goTo a b n).2.2], aheadI (bestN a b (dL a b) (goTo a b n).2.1 (goTo a b n).2.2) (goTo a b n).2.1, aheadJ (bestN a b (dL a b) (goTo a b n).2.1 (goTo a b n).2.2) (goTo a b n).2.2)
theorem GrTo.eq {xs : List Nat} (h : GrTo a b xs i j) : goTo a b xs.length = (xs, i, j) ∧ ∀ n, n < xs.length → (goTo a b n).2.1 < a.length ∨ (goTo a b n).2.2 < b.length := by
  induction h with
  | nil => exact ⟨rfl, fun n h => absurd h (Nat.not_lt_zero n)⟩
  | snoc h hne ih =>
    obtain ⟨ih1, ih2⟩ := ih
    refine ⟨?_, fun n hn => ?_⟩
    · rw [List.length_append, List.length_singleton, goTo, ih1]
    · rw [List.length_append, List.length_singleton] at hn
      rcases Nat.lt_succ_iff_lt_or_eq.1 hn with h1 | h1
      · exact ih2 n h1
      · rw [h1, ih1]; exact hne
theorem GrTo.unique {xs ys : List Nat} (hx : GrTo a b xs a.length b.length) (hy : GrTo a b ys a.length b.length) : xs = ys := by
  obtain ⟨x1, x2⟩ := hx.eq
  obtain ⟨y1, y2⟩ := hy.eq
  have hlen : xs.length = ys.length := by
    rcases Nat.lt_trichotomy xs.length ys.length with h | h | h
    · have := y2 _ h; rw [x1] at this; simp at this
    · exact h
    · have := x2 _ h; rw [y1] at this; simp at this
  rw [hlen, y1] at x1
  exact (congrArg Prod.fst x1).symm
end
end Go.Proofs.YthgllfbigcoaiaaGreatDoor
namespace Go.Proofs.YthgllfbigcoaiaaGreatDoor
open Go Go.RowKit Go.Lib
set_option maxRecDepth 100000
section
variable {a b : List ByteArray} {i j : Nat}
theorem refN_keep (h1 : i < a.length) (h2 : j < b.length) (he : eqB (a.getD i ⟨#[]⟩) (b.getD j ⟨#[]⟩) = true) (hd : dL a b (i + 1) (j + 1) = dL a b i j) : refN a b i j = 0 := if_pos ⟨h1, h2, he, hd⟩
theorem refN_swap (h1 : i < a.length) (h2 : j < b.length) (hn : eqB (a.getD i ⟨#[]⟩) (b.getD j ⟨#[]⟩) = false) (hd : dL a b (i + 1) (j + 1) + 1 = dL a b i j) : refN a b i j = 1 := by
  unfold refN
  rw [if_neg (fun h => by rw [hn] at h; cases h.2.2.1), if_pos ⟨h1, h2, hd⟩]
theorem refN_drop (h1 : i < a.length) (hn : ¬ (j < b.length) ∨ eqB (a.getD i ⟨#[]⟩) (b.getD j ⟨#[]⟩) = false ∨ ¬ dL a b (i + 1) (j + 1) = dL a b i j) (hn2 : ¬ (j < b.length) ∨ ¬ dL a b (i + 1) (j + 1) + 1 = dL a b i j) (hd : dL a b (i + 1) j + 1 = dL a b i j) : refN a b i j = 2 := by
  unfold refN
  rw [if_neg (fun h => by rcases hn with n | n | n; exact n h.2.1; rw [n] at h; cases h.2.2.1; exact n h.2.2.2), if_neg (fun h => by rcases hn2 with n | n; exact n h.2.1; exact n h.2.2), if_pos ⟨h1, hd⟩]
theorem refN_put (hn : ¬ (i < a.length) ∨ eqB (a.getD i ⟨#[]⟩) (b.getD j ⟨#[]⟩) = false ∨ ¬ dL a b (i + 1) (j + 1) = dL a b i j) (hn2 : ¬ (i < a.length) ∨ ¬ dL a b (i + 1) (j + 1) + 1 = dL a b i j) (hn3 : ¬ (i < a.length) ∨ ¬ dL a b (i + 1) j + 1 = dL a b i j) : refN a b i j = 3 := by
  unfold refN
  rw [if_neg (fun h => by rcases hn with n | n | n; exact n h.1; rw [n] at h; cases h.2.2.1; exact n h.2.2.2), if_neg (fun h => by rcases hn2 with n | n; exact n h.1; exact n h.2.2), if_neg (fun h => by rcases hn3 with n | n; exact n h.1; exact n h.2)]
end
theorem OwnE.own {B : Nat} {v : Value} {xs : List Nat} {w : World} (h : OwnE B v xs w) (q : Nat) (o : Obj) : ((w.drewN q).alloc o).ownsRow B 31 1 v xs.length (xs.map fun s : Nat => Value.int .u8 (s : Int)) := World.ownsRow.alloc (h.step (bdN _ _)) o
theorem OwnE.low {B : Nat} {v : Value} {xs : List Nat} {w : World} (h : OwnE B v xs w) (k : Nat) (hk : v.ownBlock = some k) : B ≤ k := (World.ownsRow.lt h k hk).1
/-- the answer of the specification's Edits -/
def ReEnd (a b : List ByteArray) (e : Ending) (w : World) : Prop := ∃ xs ao cap, e = .returned (.tuple #[.slice ao xs.length cap, .int .i64 (dL a b 0 0), .int .u8 0]) ∧ StepsAt w (.slice ao xs.length cap) xs ∧ GrTo a b xs a.length b.length ∧ xs.length ≤ 1024
set_option maxHeartbeats 32000000 in
theorem refEdits_any (a b : List ByteArray) (va vb : Value) (w : World) (ha : WdsAt w va a) (hb : WdsAt w vb b) (hal : a.length ≤ 512) (hbl : b.length ≤ 512) :
    Calls Tryz.prog 15 #[va, vb] w fun e w' => ReEnd a b e w' ∧ Below w.heap.size w w' := by
  obtain ⟨i0, hi, hz0, hz1, hz2⟩ := info_parts info_step
  have HA := Lib.hid ha
  have HB := Lib.hid hb
  have cD := refCosts_any a b va vb w ha hb hal hbl
  obtain ⟨⟨p, cap, rfl, hl, hc, hrA⟩, hza⟩ := ha
  obtain ⟨⟨p2, cap2, rfl, hl2, hc2, hrB⟩, hzb⟩ := hb
  unfold maxLen at hc hc2
  clear hrA hrB hza hzb
  have i1 : ¬ (512 : Int) < (a.length : Int) := by omega
  have i2 : ¬ (512 : Int) < (b.length : Int) := by omega
  go_enter Tryz.func15, Tryz.ntmps15
  go_wp2_with (go_at_call 42; (with_reducible refine cD.mono ?_); rintro e w1 ⟨⟨o, rb, rfl, hT⟩, hb1⟩; have HT0 := Lib.hid hT; have HB1 := Lib.hid hb1; clear hT hb1)
  have HA0 := Lib.hid (HA.out.step HB1.out)
  have HBB0 := Lib.hid (HB.out.step HB1.out)
  clear HA HB cD
  go_loopw [8, 9, 10, 11, 45, 87, 119] (fun out iv jv _ _ _ _ wr => ∃ (xs : List Nat) (i j : Nat), iv = .int .i64 i ∧ jv = .int .i64 j ∧ i ≤ a.length ∧ j ≤ b.length ∧ xs.length ≤ i + j ∧ Hid (GrTo a b xs i j) ∧ Hid (OwnE w1.heap.size out xs wr) ∧ Hid (Below w1.heap.size w1 wr))
    (fun _ iv jv _ _ _ _ _ => (a.length + b.length) - ((RowKit.intOf iv).toNat + (RowKit.intOf jv).toNat))
  case atStart => exact ⟨[], 0, 0, rfl, rfl, Nat.zero_le _, Nat.zero_le _, Nat.zero_le _, GrTo.nil, OwnE.nil _ _, Below.refl _ _⟩
  case round =>
    obtain ⟨xs, i, j, rfl, rfl, hil, hjl, hxl, HP, HK, HBW⟩ := hrel
    obtain ⟨ao, cpo, rfl⟩ := HK.out.form
    have HT := Lib.hid (HT0.out.step HBW.out)
    have hsz := HBW.out.size
    by_cases hne : i < a.length ∨ j < b.length
    · have hP2 := Lib.hid (HP.out.snoc hne)
      have hbr := best_ref hil hjl hne
      obtain ⟨y0, y1⟩ := HT.out i j hil hjl trivial
      have hi0 : (i : Int) < (a.length : Int) + 1 := by omega
      have hj0 : (j : Int) < (b.length : Int) + 1 := by omega
      rcases (show (i < a.length ∧ j < b.length) ∨ (i < a.length ∧ j = b.length) ∨ (i = a.length ∧ j < b.length) by omega) with ⟨hia, hjb⟩ | ⟨hia, hjb⟩ | ⟨hia, hjb⟩
      case inl =>
        have h := dL_both (getD_some hia) (getD_some hjb)
        obtain ⟨x1, x2⟩ := HT.out (i + 1) j (by omega) (by omega) trivial
        obtain ⟨_, x4⟩ := HT.out (i + 1) (j + 1) (by omega) (by omega) trivial
        have d10 : dL a b (i + 1) j ≤ 512 := Nat.le_trans (dL_le a b _ _) (by omega)
        have d11 : dL a b (i + 1) (j + 1) ≤ 512 := Nat.le_trans (dL_le a b _ _) (by omega)
        have hia2 : (i : Int) < (a.length : Int) := by omega
        have hjb2 : (j : Int) < (b.length : Int) := by omega
        have i3 : (i : Int) + 1 < (a.length : Int) + 1 := by omega
        have i4 : (j : Int) + 1 < (b.length : Int) + 1 := by omega
        obtain ⟨⟨q1, cq1, hq1, hlq1, hcq1, hrow1⟩, _⟩ := HA0.out.step HBW.out
        obtain ⟨rfl, _, rfl⟩ : p = q1 ∧ a.length = a.length ∧ cap = cq1 := by simpa using hq1
        obtain ⟨A1, rfl, hA1, hcell1⟩ := hrow1 (by omega)
        have z0 : wr.cell? (A1.add i) = some (.string (a.getD i ⟨#[]⟩)) := by
          have := hcell1 i 0 hia (by omega)
          rwa [Nat.mul_one, Nat.add_zero] at this
        obtain ⟨⟨q2, cq2, hq2, hlq2, hcq2, hrow2⟩, _⟩ := HBB0.out.step HBW.out
        obtain ⟨rfl, _, rfl⟩ : p2 = q2 ∧ b.length = b.length ∧ cap2 = cq2 := by simpa using hq2
        obtain ⟨A2, rfl, hA2, hcell2⟩ := hrow2 (by omega)
        have z1 : wr.cell? (A2.add j) = some (.string (b.getD j ⟨#[]⟩)) := by
          have := hcell2 j 0 hjb (by omega)
          rwa [Nat.mul_one, Nat.add_zero] at this
        clear hcell1 hcell2 hrow1 hrow2 hq1 hq2 hcq1 hcq2 hlq1 hlq2
        have heq : ∀ x y : ByteArray, (x = y) = (eqB x y = true) := fun x y => propext eqB_iff.symm
        simp only [heq] at h
        clear heq
        obtain ⟨S, hS, hcase⟩ : ∃ S, bestN a b (dL a b) i j = S ∧
            ((S = 0 ∧ eqB (a.getD i ⟨#[]⟩) (b.getD j ⟨#[]⟩) = true ∧ dL a b (i + 1) (j + 1) = dL a b i j) ∨
             (S = 1 ∧ eqB (a.getD i ⟨#[]⟩) (b.getD j ⟨#[]⟩) = false ∧ dL a b (i + 1) (j + 1) + 1 = dL a b i j) ∨
             (S = 2 ∧ eqB (a.getD i ⟨#[]⟩) (b.getD j ⟨#[]⟩) = true ∧ ¬ dL a b (i + 1) (j + 1) = dL a b i j ∧ ¬ dL a b (i + 1) (j + 1) + 1 = dL a b i j ∧ dL a b (i + 1) j + 1 = dL a b i j) ∨
             (S = 2 ∧ eqB (a.getD i ⟨#[]⟩) (b.getD j ⟨#[]⟩) = false ∧ ¬ dL a b (i + 1) (j + 1) + 1 = dL a b i j ∧ dL a b (i + 1) j + 1 = dL a b i j) ∨
             (S = 3 ∧ eqB (a.getD i ⟨#[]⟩) (b.getD j ⟨#[]⟩) = true ∧ ¬ dL a b (i + 1) (j + 1) = dL a b i j ∧ ¬ dL a b (i + 1) (j + 1) + 1 = dL a b i j ∧ ¬ dL a b (i + 1) j + 1 = dL a b i j) ∨
             (S = 3 ∧ eqB (a.getD i ⟨#[]⟩) (b.getD j ⟨#[]⟩) = false ∧ ¬ dL a b (i + 1) (j + 1) + 1 = dL a b i j ∧ ¬ dL a b (i + 1) j + 1 = dL a b i j)) := by
          refine ⟨_, hbr, ?_⟩
          cases he : eqB (a.getD i ⟨#[]⟩) (b.getD j ⟨#[]⟩)
          · rw [he] at h
            simp only [Bool.false_eq_true, if_false] at h
            by_cases e1 : dL a b (i + 1) (j + 1) + 1 = dL a b i j
            · exact .inr (.inl ⟨refN_swap hia hjb he e1, rfl, e1⟩)
            · by_cases e2 : dL a b (i + 1) j + 1 = dL a b i j
              · exact .inr (.inr (.inr (.inl ⟨refN_drop hia (.inr (.inl he)) (.inr e1) e2, rfl, e1, e2⟩)))
              · exact .inr (.inr (.inr (.inr (.inr ⟨refN_put (.inr (.inl he)) (.inr e1) (.inr e2), rfl, e1, e2⟩))))
          · rw [he] at h
            simp only [if_true] at h
            by_cases e0 : dL a b (i + 1) (j + 1) = dL a b i j
            · exact .inl ⟨refN_keep hia hjb he e0, rfl, e0⟩
            · have e1 : ¬ dL a b (i + 1) (j + 1) + 1 = dL a b i j := by omega
              by_cases e2 : dL a b (i + 1) j + 1 = dL a b i j
              · exact .inr (.inr (.inl ⟨refN_drop hia (.inr (.inr e0)) (.inr e1) e2, rfl, e0, e1, e2⟩))
              · exact .inr (.inr (.inr (.inr (.inl ⟨refN_put (.inr (.inr e0)) (.inr e1) (.inr e2), rfl, e0, e1, e2⟩))))
        rw [hS] at hP2
        clear hbr hS h HT
        unfold eqB at hcase
        generalize a.getD i ⟨#[]⟩ = sa at *
        generalize b.getD j ⟨#[]⟩ = sb at *
        generalize rb (i + 1) = R1 at *
        generalize rb i = R0 at *
        generalize dL a b (i + 1) j = D10 at *
        generalize dL a b (i + 1) (j + 1) = D11 at *
        generalize dL a b i j = d at *
        rcases hcase with ⟨rfl, he, e0⟩ | ⟨rfl, he, e1⟩ | ⟨rfl, he, e0, e1, e2⟩ | ⟨rfl, he, e1, e2⟩ | ⟨rfl, he, e0, e1, e2⟩ | ⟨rfl, he, e1, e2⟩
        · have hP3 : Hid (GrTo a b (xs ++ [0]) (i + 1) (j + 1)) := hP2
          have b0 : ((D11 : Int) == (d : Int)) = true := by simp; omega
          go_wp2
          go_quiet (fail)
          go_wp2_with (at_builtin; go_loud (refine wpList_append_own _ rfl _ _ 28 rfl w1.heap.size 31 i0 (.int .u8 0) 1 1 Tryz.underlying28 hi hz0 hz1 hz2 rfl (by decide) _ _ _ rfl (HK.out.own _ _) ⟨wr.heap.size, 0, none⟩ 1 1 [.int .u8 0] rfl rfl (cell_new1 _ _ _) (fun x hx => by simp at hx; subst hx; rfl) (by unfold maxLen; omega) (by omega) (Nat.le_trans hsz (by simp)) ?_); intro v3 w3 hown3 hgrow3 hnil3
                       have HB3 := Lib.hid (((below_next HBW.out (bdN _ _)).alloc hsz (.cells #[.int .u8 0] 31)).grown hgrow3 (Nat.le_trans hsz (by simp)) HK.out.low)
                       have HK3 := Lib.hid (show OwnE w1.heap.size v3 (xs ++ [0]) w3 by unfold OwnE; rw [List.length_append, List.map_append]; exact hown3)
                       obtain ⟨ao3, cap3, rfl⟩ := HK3.out.form
                       clear hown3 hgrow3 hnil3)
          go_roundw
          case rel => exact ⟨xs ++ [0], i + 1, j + 1, by go_num, by go_num, by omega, by omega, by simp; omega, hP3.out, (by have h := HK3.out; rw [List.length_append] at h; exact h), HB3.out⟩
          case measure => simp [RowKit.intOf] <;> omega
        · have hP3 : Hid (GrTo a b (xs ++ [1]) (i + 1) (j + 1)) := hP2
          have b1 : (((D11 : Int) + 1 : Int) == (d : Int)) = true := by simp; omega
          go_wp2
          go_quiet (fail)
          go_wp2_with (at_builtin; go_loud (refine wpList_append_own _ rfl _ _ 28 rfl w1.heap.size 31 i0 (.int .u8 0) 1 1 Tryz.underlying28 hi hz0 hz1 hz2 rfl (by decide) _ _ _ rfl (HK.out.own _ _) ⟨wr.heap.size, 0, none⟩ 1 1 [.int .u8 1] rfl rfl (cell_new1 _ _ _) (fun x hx => by simp at hx; subst hx; rfl) (by unfold maxLen; omega) (by omega) (Nat.le_trans hsz (by simp)) ?_); intro v3 w3 hown3 hgrow3 hnil3
                       have HB3 := Lib.hid (((below_next HBW.out (bdN _ _)).alloc hsz (.cells #[.int .u8 1] 31)).grown hgrow3 (Nat.le_trans hsz (by simp)) HK.out.low)
                       have HK3 := Lib.hid (show OwnE w1.heap.size v3 (xs ++ [1]) w3 by unfold OwnE; rw [List.length_append, List.map_append]; exact hown3)
                       obtain ⟨ao3, cap3, rfl⟩ := HK3.out.form
                       clear hown3 hgrow3 hnil3)
          go_roundw
          case rel => exact ⟨xs ++ [1], i + 1, j + 1, by go_num, by go_num, by omega, by omega, by simp; omega, hP3.out, (by have h := HK3.out; rw [List.length_append] at h; exact h), HB3.out⟩
          case measure => simp [RowKit.intOf] <;> omega
        · have hP3 : Hid (GrTo a b (xs ++ [2]) (i + 1) (j)) := hP2
          have b0 : ((D11 : Int) == (d : Int)) = false := by simp; omega
          have b1 : (((D11 : Int) + 1 : Int) == (d : Int)) = false := by simp; omega
          have b2 : (((D10 : Int) + 1 : Int) == (d : Int)) = true := by simp; omega
          go_wp2
          go_quiet (fail)
          go_wp2_with (at_builtin; go_loud (refine wpList_append_own _ rfl _ _ 28 rfl w1.heap.size 31 i0 (.int .u8 0) 1 1 Tryz.underlying28 hi hz0 hz1 hz2 rfl (by decide) _ _ _ rfl (HK.out.own _ _) ⟨wr.heap.size, 0, none⟩ 1 1 [.int .u8 2] rfl rfl (cell_new1 _ _ _) (fun x hx => by simp at hx; subst hx; rfl) (by unfold maxLen; omega) (by omega) (Nat.le_trans hsz (by simp)) ?_); intro v3 w3 hown3 hgrow3 hnil3
                       have HB3 := Lib.hid (((below_next HBW.out (bdN _ _)).alloc hsz (.cells #[.int .u8 2] 31)).grown hgrow3 (Nat.le_trans hsz (by simp)) HK.out.low)
                       have HK3 := Lib.hid (show OwnE w1.heap.size v3 (xs ++ [2]) w3 by unfold OwnE; rw [List.length_append, List.map_append]; exact hown3)
                       obtain ⟨ao3, cap3, rfl⟩ := HK3.out.form
                       clear hown3 hgrow3 hnil3)
          go_roundw
          case rel => exact ⟨xs ++ [2], i + 1, j, by go_num, rfl, by omega, by omega, by simp; omega, hP3.out, (by have h := HK3.out; rw [List.length_append] at h; exact h), HB3.out⟩
          case measure => simp [RowKit.intOf] <;> omega
        · have hP3 : Hid (GrTo a b (xs ++ [2]) (i + 1) (j)) := hP2
          have b1 : (((D11 : Int) + 1 : Int) == (d : Int)) = false := by simp; omega
          have b2 : (((D10 : Int) + 1 : Int) == (d : Int)) = true := by simp; omega
          go_wp2
          go_quiet (fail)
          go_wp2_with (at_builtin; go_loud (refine wpList_append_own _ rfl _ _ 28 rfl w1.heap.size 31 i0 (.int .u8 0) 1 1 Tryz.underlying28 hi hz0 hz1 hz2 rfl (by decide) _ _ _ rfl (HK.out.own _ _) ⟨wr.heap.size, 0, none⟩ 1 1 [.int .u8 2] rfl rfl (cell_new1 _ _ _) (fun x hx => by simp at hx; subst hx; rfl) (by unfold maxLen; omega) (by omega) (Nat.le_trans hsz (by simp)) ?_); intro v3 w3 hown3 hgrow3 hnil3
                       have HB3 := Lib.hid (((below_next HBW.out (bdN _ _)).alloc hsz (.cells #[.int .u8 2] 31)).grown hgrow3 (Nat.le_trans hsz (by simp)) HK.out.low)
                       have HK3 := Lib.hid (show OwnE w1.heap.size v3 (xs ++ [2]) w3 by unfold OwnE; rw [List.length_append, List.map_append]; exact hown3)
                       obtain ⟨ao3, cap3, rfl⟩ := HK3.out.form
                       clear hown3 hgrow3 hnil3)
          go_roundw
          case rel => exact ⟨xs ++ [2], i + 1, j, by go_num, rfl, by omega, by omega, by simp; omega, hP3.out, (by have h := HK3.out; rw [List.length_append] at h; exact h), HB3.out⟩
          case measure => simp [RowKit.intOf] <;> omega
        · have hP3 : Hid (GrTo a b (xs ++ [3]) (i) (j + 1)) := hP2
          have b0 : ((D11 : Int) == (d : Int)) = false := by simp; omega
          have b1 : (((D11 : Int) + 1 : Int) == (d : Int)) = false := by simp; omega
          have b2 : (((D10 : Int) + 1 : Int) == (d : Int)) = false := by simp; omega
          go_wp2
          go_quiet (fail)
          go_wp2_with (at_builtin; go_loud (refine wpList_append_own _ rfl _ _ 28 rfl w1.heap.size 31 i0 (.int .u8 0) 1 1 Tryz.underlying28 hi hz0 hz1 hz2 rfl (by decide) _ _ _ rfl (HK.out.own _ _) ⟨wr.heap.size, 0, none⟩ 1 1 [.int .u8 3] rfl rfl (cell_new1 _ _ _) (fun x hx => by simp at hx; subst hx; rfl) (by unfold maxLen; omega) (by omega) (Nat.le_trans hsz (by simp)) ?_); intro v3 w3 hown3 hgrow3 hnil3
                       have HB3 := Lib.hid (((below_next HBW.out (bdN _ _)).alloc hsz (.cells #[.int .u8 3] 31)).grown hgrow3 (Nat.le_trans hsz (by simp)) HK.out.low)
                       have HK3 := Lib.hid (show OwnE w1.heap.size v3 (xs ++ [3]) w3 by unfold OwnE; rw [List.length_append, List.map_append]; exact hown3)
                       obtain ⟨ao3, cap3, rfl⟩ := HK3.out.form
                       clear hown3 hgrow3 hnil3)
          go_roundw
          case rel => exact ⟨xs ++ [3], i, j + 1, rfl, by go_num, by omega, by omega, by simp; omega, hP3.out, (by have h := HK3.out; rw [List.length_append] at h; exact h), HB3.out⟩
          case measure => simp [RowKit.intOf] <;> omega
        · have hP3 : Hid (GrTo a b (xs ++ [3]) (i) (j + 1)) := hP2
          have b1 : (((D11 : Int) + 1 : Int) == (d : Int)) = false := by simp; omega
          have b2 : (((D10 : Int) + 1 : Int) == (d : Int)) = false := by simp; omega
          go_wp2
          go_quiet (fail)
          go_wp2_with (at_builtin; go_loud (refine wpList_append_own _ rfl _ _ 28 rfl w1.heap.size 31 i0 (.int .u8 0) 1 1 Tryz.underlying28 hi hz0 hz1 hz2 rfl (by decide) _ _ _ rfl (HK.out.own _ _) ⟨wr.heap.size, 0, none⟩ 1 1 [.int .u8 3] rfl rfl (cell_new1 _ _ _) (fun x hx => by simp at hx; subst hx; rfl) (by unfold maxLen; omega) (by omega) (Nat.le_trans hsz (by simp)) ?_); intro v3 w3 hown3 hgrow3 hnil3
                       have HB3 := Lib.hid (((below_next HBW.out (bdN _ _)).alloc hsz (.cells #[.int .u8 3] 31)).grown hgrow3 (Nat.le_trans hsz (by simp)) HK.out.low)
                       have HK3 := Lib.hid (show OwnE w1.heap.size v3 (xs ++ [3]) w3 by unfold OwnE; rw [List.length_append, List.map_append]; exact hown3)
                       obtain ⟨ao3, cap3, rfl⟩ := HK3.out.form
                       clear hown3 hgrow3 hnil3)
          go_roundw
          case rel => exact ⟨xs ++ [3], i, j + 1, rfl, by go_num, by omega, by omega, by simp; omega, hP3.out, (by have h := HK3.out; rw [List.length_append] at h; exact h), HB3.out⟩
          case measure => simp [RowKit.intOf] <;> omega
      case inr.inl =>
        subst hjb
        have h := dL_left (a := a) (b := b) (i := i) (j := b.length) hia (Nat.le_refl _)
        rw [hbr, refN_drop hia (.inl (by omega)) (.inl (by omega)) h.symm] at hP2
        obtain ⟨x1, x2⟩ := HT.out (i + 1) b.length (by omega) (by omega) trivial
        have d10 : dL a b (i + 1) b.length ≤ 512 := Nat.le_trans (dL_le a b _ _) (by omega)
        have hia2 : (i : Int) < (a.length : Int) := by omega
        have i3 : (i : Int) + 1 < (a.length : Int) + 1 := by omega
        clear hbr HT
        generalize rb (i + 1) = R1 at *
        generalize rb i = R0 at *
        generalize dL a b (i + 1) b.length = D10 at *
        generalize dL a b i b.length = d at *
        have hP3 : Hid (GrTo a b (xs ++ [2]) (i + 1) b.length) := hP2
        have b2 : (((D10 : Int) + 1 : Int) == (d : Int)) = true := by simp; omega
        go_wp2
        go_quiet (fail)
        go_wp2_with (at_builtin; go_loud (refine wpList_append_own _ rfl _ _ 28 rfl w1.heap.size 31 i0 (.int .u8 0) 1 1 Tryz.underlying28 hi hz0 hz1 hz2 rfl (by decide) _ _ _ rfl (HK.out.own _ _) ⟨wr.heap.size, 0, none⟩ 1 1 [.int .u8 2] rfl rfl (cell_new1 _ _ _) (fun x hx => by simp at hx; subst hx; rfl) (by unfold maxLen; omega) (by omega) (Nat.le_trans hsz (by simp)) ?_); intro v3 w3 hown3 hgrow3 hnil3
                     have HB3 := Lib.hid (((below_next HBW.out (bdN _ _)).alloc hsz (.cells #[.int .u8 2] 31)).grown hgrow3 (Nat.le_trans hsz (by simp)) HK.out.low)
                     have HK3 := Lib.hid (show OwnE w1.heap.size v3 (xs ++ [2]) w3 by unfold OwnE; rw [List.length_append, List.map_append]; exact hown3)
                     obtain ⟨ao3, cap3, rfl⟩ := HK3.out.form
                     clear hown3 hgrow3 hnil3)
        go_roundw
        case rel => exact ⟨xs ++ [2], i + 1, b.length, by go_num, rfl, by omega, by omega, by simp; omega, hP3.out, (by have h := HK3.out; rw [List.length_append] at h; exact h), HB3.out⟩
        case measure => simp [RowKit.intOf] <;> omega
      case inr.inr =>
        subst hia
        rw [hbr, refN_put (.inl (by omega)) (.inl (by omega)) (.inl (by omega))] at hP2
        have hjb2 : (j : Int) < (b.length : Int) := by omega
        clear hbr HT
        generalize rb a.length = R0 at *
        generalize dL a b a.length j = d at *
        have hP3 : Hid (GrTo a b (xs ++ [3]) a.length (j + 1)) := hP2
        go_wp2
        go_quiet (fail)
        go_wp2_with (at_builtin; go_loud (refine wpList_append_own _ rfl _ _ 28 rfl w1.heap.size 31 i0 (.int .u8 0) 1 1 Tryz.underlying28 hi hz0 hz1 hz2 rfl (by decide) _ _ _ rfl (HK.out.own _ _) ⟨wr.heap.size, 0, none⟩ 1 1 [.int .u8 3] rfl rfl (cell_new1 _ _ _) (fun x hx => by simp at hx; subst hx; rfl) (by unfold maxLen; omega) (by omega) (Nat.le_trans hsz (by simp)) ?_); intro v3 w3 hown3 hgrow3 hnil3
                     have HB3 := Lib.hid (((below_next HBW.out (bdN _ _)).alloc hsz (.cells #[.int .u8 3] 31)).grown hgrow3 (Nat.le_trans hsz (by simp)) HK.out.low)
                     have HK3 := Lib.hid (show OwnE w1.heap.size v3 (xs ++ [3]) w3 by unfold OwnE; rw [List.length_append, List.map_append]; exact hown3)
                     obtain ⟨ao3, cap3, rfl⟩ := HK3.out.form
                     clear hown3 hgrow3 hnil3)
        go_roundw
        case rel => exact ⟨xs ++ [3], a.length, j + 1, rfl, by go_num, by omega, by omega, by simp; omega, hP3.out, (by have h := HK3.out; rw [List.length_append] at h; exact h), HB3.out⟩
        case measure => simp [RowKit.intOf] <;> omega
    · have hi0 : i = a.length := by omega
      have hj0 : j = b.length := by omega
      subst hi0; subst hj0
      obtain ⟨y0, y1⟩ := HT.out 0 0 (Nat.zero_le _) (Nat.zero_le _) trivial
      have hn0 : (0 : Int) < (a.length : Int) + 1 := by omega
      have hn1 : (0 : Int) < (b.length : Int) + 1 := by omega
      generalize hd : dL a b 0 0 = d at *
      have HDd := Lib.hid hd
      clear hd HT
      go_wp2
      go_quiet (fail)
      go_wp2
      refine bodyPost_ret (v := .tuple #[.slice ao xs.length cpo, .int .i64 d, .int .u8 0]) (by simp [results, Tryz.f15]) rfl ?_
      exact ⟨⟨xs, ao, cpo, by rw [HDd.out], HK.out.at.step (bdN _ _), HP.out, by omega⟩, below_next (below_next HB1.out HBW.out) (bdN _ _)⟩
end Go.Proofs.YthgllfbigcoaiaaGreatDoor
namespace Go.Proofs.YthgllfbigcoaiaaGreatDoor
open Go Go.RowKit Go.Lib
set_option maxRecDepth 100000
set_option maxHeartbeats 8000000 in
theorem editsGr_any (a b : List ByteArray) (va vb : Value) (w : World) (ha : WdsAt w va a) (hb : WdsAt w vb b) (hal : a.length ≤ 512) (hbl : b.length ≤ 512) :
    Calls Tryz.prog 14 #[va, vb] w fun e w' => ReEnd a b e w' ∧ Below w.heap.size w w' := by
  obtain ⟨i0, hi, hz0, hz1, hz2⟩ := info_parts info_step
  have agE := Tryz.isAgg78
  have zgE := Tryz.sizeOf78
  have HA := Lib.hid ha
  have HB := Lib.hid hb
  have cD := distances_any a b va vb w ha hb hal hbl
  obtain ⟨⟨p, cap, rfl, hl, hc, hrA⟩, hza⟩ := ha
  obtain ⟨⟨p2, cap2, rfl, hl2, hc2, hrB⟩, hzb⟩ := hb
  unfold maxLen at hc hc2
  clear hrA hrB hza hzb
  have i1 : ¬ (512 : Int) < (a.length : Int) := by omega
  have i2 : ¬ (512 : Int) < (b.length : Int) := by omega
  unfold editsV at cD
  go_enter Tryz.func14, Tryz.ntmps14
  go_wp2_with (go_at_call 39; (with_reducible refine cD.mono ?_); rintro e w1 ⟨⟨o, rb, rfl, hT⟩, hb1⟩; have HT := Lib.hid hT; have HB1 := Lib.hid hb1; clear hT hb1)
  have hX0 : Hid (BoxE w1.heap.size (.slice p a.length cap) (.slice p2 b.length cap2) o a.length (w1.alloc (.cells #[.slice p a.length cap, .slice p2 b.length cap2, .slice (some ⟨o, 0, none⟩) (a.length + 1) (a.length + 1)] 78))) := BoxE.new w1 _ _ _ _ _
  have hT0 : Hid (TabW (w1.alloc (.cells #[.slice p a.length cap, .slice p2 b.length cap2, .slice (some ⟨o, 0, none⟩) (a.length + 1) (a.length + 1)] 78)) o rb a.length b.length (dL a b) (fun _ _ => True)) := HT.out.step (below_box _)
  have hB0 : Hid (Below w.heap.size w (w1.alloc (.cells #[.slice p a.length cap, .slice p2 b.length cap2, .slice (some ⟨o, 0, none⟩) (a.length + 1) (a.length + 1)] 78))) := below_next HB1.out (below_box _)
  clear cD HT HB1
  generalize w1.alloc (.cells #[.slice p a.length cap, .slice p2 b.length cap2, .slice (some ⟨o, 0, none⟩) (a.length + 1) (a.length + 1)] 78) = W0 at *
  generalize w1.heap.size = G at *
  have HA0 := Lib.hid (HA.out.step hB0.out)
  have HBB0 := Lib.hid (HB.out.step hB0.out)
  clear HA HB
  go_loopw [8, 9, 10, 11] (fun out iv jv _ wr => ∃ (xs : List Nat) (i j : Nat), iv = .int .i64 i ∧ jv = .int .i64 j ∧ i ≤ a.length ∧ j ≤ b.length ∧ xs.length ≤ i + j ∧ Hid (GrTo a b xs i j) ∧ Hid (OwnE W0.heap.size out xs wr) ∧ Hid (Below W0.heap.size W0 wr))
    (fun _ iv jv _ _ => (a.length + b.length) - ((RowKit.intOf iv).toNat + (RowKit.intOf jv).toNat))
  case atStart => exact ⟨[], 0, 0, rfl, rfl, Nat.zero_le _, Nat.zero_le _, Nat.zero_le _, GrTo.nil, OwnE.nil _ _, Below.refl _ _⟩
  case round =>
    obtain ⟨xs, i, j, rfl, rfl, hil, hjl, hxl, HP, HK, HBW⟩ := hrel
    have hD : ∀ i j, dL a b i j ≤ 1024 := fun i j => Nat.le_trans (dL_le a b i j) (by omega)
    obtain ⟨ao, cpo, rfl⟩ := HK.out.form
    have HX := Lib.hid (hX0.out.step HBW.out)
    have HT := Lib.hid (hT0.out.step HBW.out)
    obtain ⟨⟨x0, x1, x2⟩, hGs⟩ := HX.out
    by_cases hne : i < a.length ∨ j < b.length
    · have hP2 := HP.out.snoc hne
      have hs4 := (best_dL hil hjl hne).1
      have cB := best_any a b (.slice p a.length cap) (.slice p2 b.length cap2) o rb (dL a b) i j wr (HA0.out.step HBW.out) (HBB0.out.step HBW.out) (HT.out.weak (fun _ _ _ _ _ => trivial)) hil hjl hal hbl hD
      unfold editsV at cB
      have cA := fun w => ahead_any (bestN a b (dL a b) i j) i j w (by omega) (by omega) (by omega)
      have hmore := ahead_more (bestN a b (dL a b) i j) i j
      have hin := cv_ok (show (costV a b (dL a b) (bestN a b (dL a b) i j) i j).2 = true by rw [(best_dL hil hjl hne).2])
      have HP2 := Lib.hid hP2
      clear hP2 HT HX
      generalize bestN a b (dL a b) i j = s at *
      generalize aheadI s i = I at *
      generalize aheadJ s j = J at *
      clear hD
      by_cases hia : (i : Int) < (a.length : Int)
      all_goals
        try have hjb : (j : Int) < (b.length : Int) := by omega
        go_wp2_with (first
          | (go_at_call 40; (with_reducible refine cB.mono ?_); rintro e w2 ⟨rfl, hb2⟩; have HB2 := Lib.hid (below_next HBW.out hb2); have HK2 := Lib.hid (HK.out.step hb2); clear hb2; have hown := HK2.out; unfold OwnE at hown; have hsz2 := HB2.out.size)
          | (go_at_call 41; (with_reducible refine (cA _).mono ?_); rintro e w5 ⟨rfl, hw⟩; obtain rfl := hw.symm)
          | (at_builtin; refine wpList_append_own _ rfl _ _ 28 rfl W0.heap.size 31 i0 (.int .u8 0) 1 1 Tryz.underlying28 hi hz0 hz1 hz2 rfl (by decide) _ _ _ rfl (hown.alloc _) ⟨w2.heap.size, 0, none⟩ 1 1 [.int .u8 s] rfl rfl (cell_new1 _ _ _) (fun x hx => by simp at hx; subst hx; rfl) (by unfold maxLen; omega) (by omega) (by simp; omega) ?_; intro v3 w3 hown3 hgrow3 hnil3
             have HB3 := Lib.hid ((HB2.out.alloc HB2.out.size (.cells #[.int .u8 s] 31)).grown hgrow3 (by simp; omega) (fun k hk => (hown.lt k hk).1))
             have HK3 := Lib.hid (show OwnE W0.heap.size v3 (xs ++ [s]) w3 by unfold OwnE; rw [List.length_append, List.map_append]; exact hown3)
             obtain ⟨ao3, cap3, rfl⟩ := HK3.out.form
             clear hown hown3 hgrow3 hnil3))
        go_roundw
        case rel => exact ⟨xs ++ [s], I, J, rfl, rfl, hin.1, hin.2, by simp; omega, HP2.out, (by have h := HK3.out; rw [List.length_append] at h; exact h), HB3.out⟩
        case measure => simp [RowKit.intOf]; omega
    · have hi0 : i = a.length := by omega
      have hj0 : j = b.length := by omega
      subst hi0; subst hj0
      obtain ⟨y0, y1⟩ := HT.out 0 0 (Nat.zero_le _) (Nat.zero_le _) trivial
      have hn0 : (0 : Int) < (a.length : Int) + 1 := by omega
      have hn1 : (0 : Int) < (b.length : Int) + 1 := by omega
      generalize hd : dL a b 0 0 = d at *
      have HDd := Lib.hid hd
      clear hX0 hT0 hd hD HT HX
      go_wp2
      go_quiet (fail)
      go_wp2
      refine bodyPost_ret (v := .tuple #[.slice ao xs.length cpo, .int .i64 d, .int .u8 0]) (by simp [results, Tryz.f14]) rfl ?_
      exact ⟨⟨xs, ao, cpo, by rw [HDd.out], HK.out.at.step (bdN _ _), HP.out, by omega⟩, below_next (below_next hB0.out HBW.out) (bdN _ _)⟩
end Go.Proofs.YthgllfbigcoaiaaGreatDoor
namespace Go.Proofs.YthgllfbigcoaiaaGreatDoor
open Go Go.RowKit Go.Lib
set_option maxRecDepth 100000
theorem gq_eq {a b : List ByteArray} {n i k : Nat} (h : ∀ x, x < n → a.getD (i + x) ⟨#[]⟩ = b.getD (k + x) ⟨#[]⟩) : gq a n i = gq b n k := by
  have key : ∀ x, ((a.drop i).take n).getD x ⟨#[]⟩ = ((b.drop k).take n).getD x ⟨#[]⟩ := by
    intro x
    rw [getD_take, getD_take]
    by_cases hx : x < n
    · rw [if_pos hx, if_pos hx]
      have := h x hx
      simp only [List.getD_eq_getElem?_getD, List.getElem?_drop] at this ⊢
      exact this
    · rw [if_neg hx, if_neg hx]
  unfold gq q4
  rw [key 0, key 1, key 2, key 3]
theorem gq_at {a b : List ByteArray} {n i k : Nat} (hn : n ≤ 4) (h : gq a n i = gq b n k) (x : Nat) (hx : x < n) : a.getD (i + x) ⟨#[]⟩ = b.getD (k + x) ⟨#[]⟩ := by
  have e : ∀ (l : List ByteArray) (j : Nat), ((l.drop j).take n).getD x ⟨#[]⟩ = l.getD (j + x) ⟨#[]⟩ := by
    intro l j
    rw [getD_take, if_pos hx]
    simp only [List.getD_eq_getElem?_getD, List.getElem?_drop]
  rw [← e, ← e]
  unfold gq q4 at h
  injection h with h0 h1 h2 h3
  rcases (show x = 0 ∨ x = 1 ∨ x = 2 ∨ x = 3 by omega) with rfl | rfl | rfl | rfl
  · exact h0
  · exact h1
  · exact h2
  · exact h3
set_option maxHeartbeats 8000000 in
theorem same_any (a b : List ByteArray) (va vb : Value) (i k n : Nat) (w : World) (ha : WdsAt w va a) (hb : WdsAt w vb b) (hn : n ≤ 4) (hi : i + n ≤ a.length) (hk : k + n ≤ b.length) (hal : a.length ≤ 512) (hbl : b.length ≤ 512) :
    Calls Tryz.prog 63 #[va, .int .i64 i, vb, .int .i64 k, .int .i64 n] w fun e w' => e = .returned (.bool (decide (gq a n i = gq b n k))) ∧ Below w.heap.size w w' := by
  have HA := Lib.hid ha
  have HB := Lib.hid hb
  obtain ⟨⟨p, cap, rfl, hl, hc, hrA⟩, hza⟩ := ha
  obtain ⟨⟨p2, cap2, rfl, hl2, hc2, hrB⟩, hzb⟩ := hb
  unfold maxLen at hc hc2
  clear hrA hrB hza hzb
  go_enter Tryz.func63, Tryz.ntmps63
  go_wp2
  go_loopw [11] (fun xv wr => ∃ x : Nat, xv = .int .i64 x ∧ x ≤ n ∧ Hid (∀ y, y < x → a.getD (i + y) ⟨#[]⟩ = b.getD (k + y) ⟨#[]⟩) ∧ Hid (Below w.heap.size w wr)) (fun xv _ => n - (RowKit.intOf xv).toNat)
  case atStart => exact ⟨0, rfl, Nat.zero_le _, fun y h => absurd h (Nat.not_lt_zero y), Below.refl _ _⟩
  case round =>
    obtain ⟨x, rfl, hx, HE, HBW⟩ := hrel
    by_cases hlt : x < n
    · obtain ⟨⟨q1, cq1, hq1, hlq1, hcq1, hrow1⟩, _⟩ := HA.out.step HBW.out
      obtain ⟨rfl, _, rfl⟩ : p = q1 ∧ a.length = a.length ∧ cap = cq1 := by simpa using hq1
      obtain ⟨A1, rfl, hA1, hcell1⟩ := hrow1 (by omega)
      have y0 : wr.cell? (A1.add (i + x)) = some (.string (a.getD (i + x) ⟨#[]⟩)) := by
        have := hcell1 (i + x) 0 (by omega) (by omega)
        rwa [Nat.mul_one, Nat.add_zero] at this
      obtain ⟨⟨q2, cq2, hq2, hlq2, hcq2, hrow2⟩, _⟩ := HB.out.step HBW.out
      obtain ⟨rfl, _, rfl⟩ : p2 = q2 ∧ b.length = b.length ∧ cap2 = cq2 := by simpa using hq2
      obtain ⟨A2, rfl, hA2, hcell2⟩ := hrow2 (by omega)
      have y1 : wr.cell? (A2.add (k + x)) = some (.string (b.getD (k + x) ⟨#[]⟩)) := by
        have := hcell2 (k + x) 0 (by omega) (by omega)
        rwa [Nat.mul_one, Nat.add_zero] at this
      clear hcell1 hcell2 hrow1 hrow2 hq1 hq2 hcq1 hcq2 hlq1 hlq2
      have hxn : (x : Int) < (n : Int) := by omega
      have hix : (i : Int) + (x : Int) < (a.length : Int) := by omega
      have hkx : (k : Int) + (x : Int) < (b.length : Int) := by omega
      have w1 : IntKind.i64.wrap ((i : Int) + (x : Int)) = ((i + x : Nat) : Int) := by rw [IntKind.wrap_i64] <;> omega
      have w2 : IntKind.i64.wrap ((k : Int) + (x : Int)) = ((k + x : Nat) : Int) := by rw [IntKind.wrap_i64] <;> omega
      have HF : Hid (eqB (a.getD (i + x) ⟨#[]⟩) (b.getD (k + x) ⟨#[]⟩) = false → decide (gq a n i = gq b n k) = false) := fun h => by
        refine decide_eq_false fun e => ?_
        rw [gq_at hn e x hlt] at h
        have := eqB_iff.2 (show b.getD (k + x) ⟨#[]⟩ = b.getD (k + x) ⟨#[]⟩ from rfl)
        rw [h] at this; cases this
      have HG : Hid (eqB (a.getD (i + x) ⟨#[]⟩) (b.getD (k + x) ⟨#[]⟩) = true → ∀ y, y < x + 1 → a.getD (i + y) ⟨#[]⟩ = b.getD (k + y) ⟨#[]⟩) := fun h y hy => by
        rcases Nat.lt_succ_iff_lt_or_eq.1 hy with h1 | h1
        · exact HE.out y h1
        · rw [h1]; exact eqB_iff.1 h
      unfold eqB at HF HG
      clear HE
      generalize a.getD (i + x) ⟨#[]⟩ = sa at *
      generalize b.getD (k + x) ⟨#[]⟩ = sb at *
      cases he : (sa.toList == sb.toList)
      · have hne : (sa.toList != sb.toList) = true := by simp [bne, he]
        have HFF := Lib.hid (HF.out he)
        clear HF HG
        go_wp2
        go_quiet (fail)
        go_wp2
        go_ret
        exact ⟨by rw [HFF.out]; rfl, below_next HBW.out (bdN _ _)⟩
      · have hne : (sa.toList != sb.toList) = false := by simp [bne, he]
        have HGG := Lib.hid (HG.out he)
        clear HF HG
        go_wp2
        go_quiet (fail)
        go_wp2
        go_roundw
        case rel => exact ⟨x + 1, by go_num, hlt, HGG.out, below_next HBW.out (bdN _ _)⟩
        case measure => simp [RowKit.intOf] <;> omega
    · have hxn : ¬ (x : Int) < (n : Int) := by omega
      have HD : Hid (decide (gq a n i = gq b n k) = true) := decide_eq_true (gq_eq fun y hy => HE.out y (by omega))
      go_wp2
      go_ret
      exact ⟨by rw [HD.out]; rfl, HBW.out⟩
/-- how many places that are not used up hold an element -/
def cnU (u : Nat → Bool) (f : Nat → Q4) (g : Q4) : Nat → Nat
  | 0 => 0
  | M + 1 => cnU u f g M + if u M = false ∧ f M = g then 1 else 0
theorem cnU_new (f : Nat → Q4) (g : Q4) : ∀ M, cnU (fun _ => false) f g M = cn ((List.range M).map f) g
  | 0 => rfl
  | M + 1 => by
    rw [List.range_succ, List.map_append, List.map_singleton, cn_snoc, ← cnU_new f g M, cnU]
    simp
theorem cnU_none {u : Nat → Bool} {f : Nat → Q4} {g : Q4} : ∀ M, (∀ k, k < M → u k = true ∨ f k ≠ g) → cnU u f g M = 0
  | 0, _ => rfl
  | M + 1, h => by
    rw [cnU, cnU_none M (fun k hk => h k (by omega)), if_neg]
    rintro ⟨h1, h2⟩
    rcases h M (Nat.lt_succ_self M) with e | e
    · rw [h1] at e; cases e
    · exact e h2
theorem cnU_set {u : Nat → Bool} {f : Nat → Q4} {k0 : Nat} (hu : u k0 = false) (g : Q4) : ∀ M, cnU (fun k => if k = k0 then true else u k) f g M + (if k0 < M ∧ f k0 = g then 1 else 0) = cnU u f g M
  | 0 => by simp [cnU]
  | M + 1 => by
    have ih := cnU_set (f := f) hu g M
    rw [cnU, cnU]
    by_cases e : M = k0
    · subst e
      rw [if_neg (by omega)] at ih
      simp only [if_true, hu, Bool.true_eq_false, false_and, if_false, true_and, Nat.lt_succ_self]
      generalize cnU (fun k => if k = M then true else u k) f g M = X at *
      generalize cnU u f g M = Y at *
      omega
    · simp only [if_neg e]
      by_cases e2 : k0 < M
      · have : k0 < M + 1 := by omega
        simp only [e2, this, true_and] at ih ⊢
        omega
      · have : ¬ k0 < M + 1 := by omega
        simp only [e2, this, false_and, if_false] at ih ⊢
        omega
theorem cnU_less {u : Nat → Bool} {f : Nat → Q4} {k0 M : Nat} (hu : u k0 = false) (hk : k0 < M) : (fun g => cnU (fun k => if k = k0 then true else u k) f g M) = lessOne (fun g => cnU u f g M) (f k0) := by
  funext g
  have h := cnU_set (f := f) hu g M
  show cnU (fun k => if k = k0 then true else u k) f g M = if g = f k0 then cnU u f g M - 1 else cnU u f g M
  by_cases e : g = f k0
  · subst e
    rw [if_pos ⟨hk, rfl⟩] at h
    rw [if_pos rfl]
    omega
  · rw [if_neg (fun h => e h.2.symm)] at h
    rw [if_neg e]
    omega
theorem cnU_pos {u : Nat → Bool} {f : Nat → Q4} {k0 M : Nat} (hu : u k0 = false) (hk : k0 < M) : 0 < cnU u f (f k0) M := by
  have h := cnU_set (f := f) hu (f k0) M
  rw [if_pos ⟨hk, rfl⟩] at h
  omega
end Go.Proofs.YthgllfbigcoaiaaGreatDoor
namespace Go.Proofs.YthgllfbigcoaiaaGreatDoor
open Go Go.RowKit Go.Lib
set_option maxRecDepth 100000
set_option maxHeartbeats 1000000 in
theorem made0 (n : Nat) (hn : n ≤ 1000) (w : World) :
    (Instr.makeSlice 112 (.int .i64 (n : Int)) (.int .i64 (n : Int))).run Tryz.prog w = .ok (.slice (some ⟨w.heap.size, 0, none⟩) n n) (w.alloc (.cells (madeCells #[.bool false] n) 4)) := by
  obtain ⟨i, h1, h2, h3, h4⟩ := info_parts (show (Tryz.prog.info? 4).map (fun i => (i.zero, i.size, i.bytes)) = some (some (.bool false), 1, 1) by kernel_rfl)
  have hb : i.bytes * n ≤ 1 * 1000 := Nat.mul_le_mul (by omega) hn
  have hbi : (i.bytes : Int) * (n : Int) ≤ 281474976710656 := by
    have e : ((i.bytes * n : Nat) : Int) = (i.bytes : Int) * (n : Int) := by push_cast; rfl
    omega
  have hr := run_make (P := Tryz.prog) w 112 4 i _ Tryz.underlying112 h1 h2 .i64 .i64 (n : Int) (n : Int) (by omega) (Int.le_refl _) hbi (by omega)
  rw [h3, Nat.mul_one, Int.toNat_natCast] at hr
  exact hr
set_option maxHeartbeats 16000000 in
theorem refMatches0_any (a b : List ByteArray) (va vb : Value) (N : Nat) (w : World) (ha : WdsAt w va a) (hb : WdsAt w vb b) (h1 : 1 ≤ N) (h4 : N ≤ 4) (hal : a.length ≤ 512) (hbl : b.length ≤ 512) :
    Calls Tryz.prog 37 #[va, vb, .int .i64 N] w fun e w' => e = .returned (.int .i64 (mtQ a b N)) ∧ Below w.heap.size w w' := by
  have HA := Lib.hid ha
  have HB := Lib.hid hb
  obtain ⟨⟨p, cap, rfl, hl, hc, hrA⟩, hza⟩ := ha
  obtain ⟨⟨p2, cap2, rfl, hl2, hc2, hrB⟩, hzb⟩ := hb
  unfold maxLen at hc hc2
  clear hrA hrB hza hzb
  have hm := made0 b.length (by omega)
  go_enter Tryz.func37, Tryz.ntmps37
  go_wp2
  clear hm
  have hR0 : Hid (RowK (w.alloc (.cells (madeCells #[.bool false] b.length) 4)) w.heap.size 4 b.length (fun k => .bool ((fun _ : Nat => false) k))) := RowK.make w (.bool false) b.length 4
  have hB0 : Hid (Below w.heap.size w (w.alloc (.cells (madeCells #[.bool false] b.length) 4))) := below_box _
  generalize w.alloc (.cells (madeCells #[.bool false] b.length) 4) = W0 at *
  have hstart : 0 + mt (fun g => cnU (fun _ => false) (gq b N) g (b.length + 1 - N)) ((gramsQ a N).drop 0) = mtQ a b N := by
    rw [Nat.zero_add, List.drop_zero, mtQ_comm]
    unfold mtQ
    congr 1
    funext g
    exact cnU_new _ _ _
  go_loopw [8, 9, 10] (fun ov iv _ wr => ∃ (out i : Nat) (u : Nat → Bool), ov = .int .i64 out ∧ iv = .int .i64 i ∧ i ≤ a.length + 1 - N ∧ out ≤ i ∧ out + mt (fun g => cnU u (gq b N) g (b.length + 1 - N)) ((gramsQ a N).drop i) = mtQ a b N ∧ Hid (RowK wr w.heap.size 4 b.length (fun k => .bool (u k))) ∧ Hid (Below w.heap.size w wr)) (fun _ iv _ _ => a.length + 1 - (RowKit.intOf iv).toNat)
  case atStart => exact ⟨0, 0, fun _ => false, rfl, rfl, Nat.zero_le _, Nat.le_refl _, hstart, hR0.out, hB0.out⟩
  case round =>
    obtain ⟨out, i, u, rfl, rfl, hi, hoi, hinv, HR, HW⟩ := hrel
    clear hR0 hB0 hstart
    by_cases hlt : i < a.length + 1 - N
    · have hiN : (i : Int) + (N : Int) ≤ (a.length : Int) := by omega
      have hdr : (gramsQ a N).drop i = gq a N i :: (gramsQ a N).drop (i + 1) := by
        have hg : i < (gramsQ a N).length := by rw [gramsQ_length]; exact hlt
        rw [List.drop_eq_getElem_cons hg]
        congr 1
        simp [gramsQ]
      rw [hdr, mt_cons] at hinv
      have HINV := Lib.hid hinv
      clear hinv hdr
      have HR0 := HR
      obtain ⟨wo, hwo⟩ : ∃ wo, wo = wr := ⟨_, rfl⟩
      subst hwo
      go_wp2
      go_loopw [8, 10] (fun ov kv wr => ∃ k : Nat, ov = .int .i64 out ∧ kv = .int .i64 k ∧ k ≤ b.length + 1 - N ∧ Hid (∀ y, y < k → u y = true ∨ gq b N y ≠ gq a N i) ∧ Hid (RowK wr w.heap.size 4 b.length (fun k => .bool (u k))) ∧ Hid (Below w.heap.size w wr)) (fun _ kv _ => b.length + 1 - (RowKit.intOf kv).toNat)
      case atStart => exact ⟨0, rfl, rfl, Nat.zero_le _, fun y h => absurd h (Nat.not_lt_zero y), HR.out, HW.out⟩
      case round =>
        obtain ⟨k, rfl, rfl, hk, HE, HR, HW⟩ := hrel
        by_cases hlt2 : k < b.length + 1 - N
        · have hkN : (k : Int) + (N : Int) ≤ (b.length : Int) := by omega
          have c0 := HR.out.cell (j := k) (by omega)
          have f0 := HR.out.frozen k
          have hkb : (k : Int) < (b.length : Int) := by omega
          cases huk : u k
          · rw [huk] at c0
            have cS := same_any a b (.slice p a.length cap) (.slice p2 b.length cap2) i k N wr (HA.out.step HW.out) (HB.out.step HW.out) h4 (by omega) (by omega) hal hbl
            by_cases he : gq a N i = gq b N k
            · rw [decide_eq_true he] at cS
              have hfin : out + 1 + mt (fun g => cnU (fun x => if x = k then true else u x) (gq b N) g (b.length + 1 - N)) ((gramsQ a N).drop (i + 1)) = mtQ a b N := by
                have h := HINV.out
                rw [he, if_pos (cnU_pos huk hlt2)] at h
                rw [cnU_less huk hlt2]
                omega
              have HFIN := Lib.hid hfin
              clear hfin
              go_wp2_with (go_at_call 63; (with_reducible refine cS.mono ?_); rintro e w2 ⟨rfl, hb2⟩; have HR2 := Lib.hid (HR.out.step hb2); have HW2 := Lib.hid (below_next HW.out hb2); have c2 := HR2.out.cell (j := k) (by omega); have f2 := HR2.out.frozen k; rw [huk] at c2; clear hb2)
              go_roundw
              case rel => exact ⟨out + 1, i + 1, fun x => if x = k then true else u x, by go_num, by go_num, by omega, by omega, HFIN.out, HR2.out.set k (.bool true) _ (fun j _ => by by_cases e : j = k <;> simp [e]), below_set HW2.out (Nat.le_refl _) _⟩
              case measure => simp [RowKit.intOf] <;> omega
            · rw [decide_eq_false he] at cS
              go_wp2_with (go_at_call 63; (with_reducible refine cS.mono ?_); rintro e w2 ⟨rfl, hb2⟩; have HR2 := Lib.hid (HR.out.step hb2); have HW2 := Lib.hid (below_next HW.out hb2); clear hb2)
              go_roundw
              case rel => exact ⟨k + 1, rfl, by go_num, by omega, fun y hy => (by
                rcases Nat.lt_succ_iff_lt_or_eq.1 hy with h | h
                · exact HE.out y h
                · rw [h]; exact .inr (fun e => he e.symm)), HR2.out, HW2.out⟩
              case measure => simp [RowKit.intOf] <;> omega
          · rw [huk] at c0
            go_wp2
            go_roundw
            case rel => exact ⟨k + 1, rfl, by go_num, by omega, fun y hy => (by
              rcases Nat.lt_succ_iff_lt_or_eq.1 hy with h | h
              · exact HE.out y h
              · rw [h]; exact .inl huk), HR.out, HW.out⟩
            case measure => simp [RowKit.intOf] <;> omega
        · have hkN : ¬ (k : Int) + (N : Int) ≤ (b.length : Int) := by omega
          have HFIN : Hid (out + mt (fun g => cnU u (gq b N) g (b.length + 1 - N)) ((gramsQ a N).drop (i + 1)) = mtQ a b N) := by
            have h := HINV.out
            rw [if_neg] at h
            · exact h
            · rw [cnU_none (u := u) (f := gq b N) (g := gq a N i) _ (fun y hy => HE.out y (by omega))]
              omega
          go_wp2
          go_roundw
          case rel => exact ⟨out, i + 1, u, rfl, by go_num, by omega, by omega, HFIN.out, HR.out, HW.out⟩
          case measure => simp [RowKit.intOf] <;> omega
    · have hiN : ¬ (i : Int) + (N : Int) ≤ (a.length : Int) := by omega
      have hout : out = mtQ a b N := by
        rw [List.drop_eq_nil_of_le (by rw [gramsQ_length]; omega)] at hinv
        simpa [mt] using hinv
      have HOUT := Lib.hid hout
      clear hinv hout
      go_wp2
      go_ret
      exact ⟨by rw [← HOUT.out]; rfl, HW.out⟩
end Go.Proofs.YthgllfbigcoaiaaGreatDoor
namespace Go.Proofs.YthgllfbigcoaiaaGreatDoor
open Go Go.RowKit Go.Lib
set_option maxRecDepth 100000
set_option maxHeartbeats 4000000 in
theorem refGrams_any (l : List ByteArray) (v : Value) (N : Nat) (w : World) (hv : WdsAt w v l) (h1 : 1 ≤ N) (h4 : N ≤ 4) (hl5 : l.length ≤ 512) : Calls Tryz.prog 38 #[v, .int .i64 N] w fun e w' => e = .returned (.int .i64 (gramsN l.length N)) ∧ w' = w := by
  obtain ⟨⟨p, cap, rfl, hl, hc, hrow⟩, hz⟩ := hv
  unfold maxLen at hc
  clear hrow hz
  have HG := Lib.hid (show max ((l.length : Int) - (N : Int) + 1) 0 = gramsN l.length N from Int.max_comm _ _)
  go_enter Tryz.func38, Tryz.ntmps38
  go_wp2
  go_ret
  exact ⟨by rw [← HG.out]; rfl, rfl⟩
/-- the cases in which nothing is reckoned -/
theorem big_or (a b : List ByteArray) (n : Int) : (512 < a.length ∨ 512 < b.length) ∨ (¬ (512 < a.length ∨ 512 < b.length) ∧ (n < 1 ∨ 4 < n)) ∨ ∃ N : Nat, n = N ∧ 1 ≤ N ∧ N ≤ 4 ∧ a.length ≤ 512 ∧ b.length ≤ 512 := by
  by_cases h : 512 < a.length ∨ 512 < b.length
  · exact .inl h
  · by_cases h2 : n < 1 ∨ 4 < n
    · exact .inr (.inl ⟨h, h2⟩)
    · exact .inr (.inr ⟨n.toNat, by omega, by omega, by omega, by omega, by omega⟩)
set_option maxHeartbeats 8000000 in
theorem matches_any (a b : List ByteArray) (va vb : Value) (n : Int) (w : World) (ha : WdsAt w va a) (hb : WdsAt w vb b) :
    Calls Tryz.prog 12 #[va, vb, .int .i64 n] w fun e w' => e = .returned (matchV a b n) ∧ Below w.heap.size w w' := by
  rcases big_or a b n with h | ⟨h, h2⟩ | ⟨N, rfl, h1, h4, hal, hbl⟩
  · have hM : Hid (matchV a b n = .tuple #[.int .i64 0, .int .i64 0, .int .i64 0, .int .u8 3]) := by show matchV a b n = _; unfold matchV; rw [if_pos h]
    obtain ⟨⟨p, cap, rfl, hl, hc, hrA⟩, hza⟩ := ha
    obtain ⟨⟨p2, cap2, rfl, hl2, hc2, hrB⟩, hzb⟩ := hb
    unfold maxLen at hc hc2
    clear hrA hrB hza hzb
    by_cases i1 : (512 : Int) < (a.length : Int) <;> by_cases i2 : (512 : Int) < (b.length : Int)
    all_goals first
      | (exfalso; omega)
      | (go_enter Tryz.func12, Tryz.ntmps12
         go_wp2
         refine bodyPost_ret (v := .tuple #[.int .i64 0, .int .i64 0, .int .i64 0, .int .u8 3]) (by simp [results, Tryz.f12]) rfl ?_
         exact ⟨by rw [hM.out], Below.refl _ _⟩)
  · have hM : Hid (matchV a b n = .tuple #[.int .i64 0, .int .i64 0, .int .i64 0, .int .u8 1]) := by show matchV a b n = _; unfold matchV; rw [if_neg h, if_pos h2]
    obtain ⟨⟨p, cap, rfl, hl, hc, hrA⟩, hza⟩ := ha
    obtain ⟨⟨p2, cap2, rfl, hl2, hc2, hrB⟩, hzb⟩ := hb
    unfold maxLen at hc hc2
    clear hrA hrB hza hzb
    have i1 : ¬ (512 : Int) < (a.length : Int) := by omega
    have i2 : ¬ (512 : Int) < (b.length : Int) := by omega
    by_cases i3 : n < 1 <;> by_cases i4 : 4 < n
    all_goals first
      | (exfalso; omega)
      | (go_enter Tryz.func12, Tryz.ntmps12
         go_wp2
         refine bodyPost_ret (v := .tuple #[.int .i64 0, .int .i64 0, .int .i64 0, .int .u8 1]) (by simp [results, Tryz.f12]) rfl ?_
         exact ⟨by rw [hM.out], Below.refl _ _⟩)
  · exact Matches_main a b va vb N w ha hb h1 h4 hal hbl
set_option maxHeartbeats 8000000 in
theorem refMatches_any (a b : List ByteArray) (va vb : Value) (n : Int) (w : World) (ha : WdsAt w va a) (hb : WdsAt w vb b) :
    Calls Tryz.prog 13 #[va, vb, .int .i64 n] w fun e w' => e = .returned (matchV a b n) ∧ Below w.heap.size w w' := by
  rcases big_or a b n with h | ⟨h, h2⟩ | ⟨N, rfl, h1, h4, hal, hbl⟩
  · have hM : Hid (matchV a b n = .tuple #[.int .i64 0, .int .i64 0, .int .i64 0, .int .u8 3]) := by show matchV a b n = _; unfold matchV; rw [if_pos h]
    obtain ⟨⟨p, cap, rfl, hl, hc, hrA⟩, hza⟩ := ha
    obtain ⟨⟨p2, cap2, rfl, hl2, hc2, hrB⟩, hzb⟩ := hb
    unfold maxLen at hc hc2
    clear hrA hrB hza hzb
    by_cases i1 : (512 : Int) < (a.length : Int) <;> by_cases i2 : (512 : Int) < (b.length : Int)
    all_goals first
      | (exfalso; omega)
      | (go_enter Tryz.func13, Tryz.ntmps13
         go_wp2
         refine bodyPost_ret (v := .tuple #[.int .i64 0, .int .i64 0, .int .i64 0, .int .u8 3]) (by simp [results, Tryz.f13]) rfl ?_
         exact ⟨by rw [hM.out], Below.refl _ _⟩)
  · have hM : Hid (matchV a b n = .tuple #[.int .i64 0, .int .i64 0, .int .i64 0, .int .u8 1]) := by show matchV a b n = _; unfold matchV; rw [if_neg h, if_pos h2]
    obtain ⟨⟨p, cap, rfl, hl, hc, hrA⟩, hza⟩ := ha
    obtain ⟨⟨p2, cap2, rfl, hl2, hc2, hrB⟩, hzb⟩ := hb
    unfold maxLen at hc hc2
    clear hrA hrB hza hzb
    have i1 : ¬ (512 : Int) < (a.length : Int) := by omega
    have i2 : ¬ (512 : Int) < (b.length : Int) := by omega
    by_cases i3 : n < 1 <;> by_cases i4 : 4 < n
    all_goals first
      | (exfalso; omega)
      | (go_enter Tryz.func13, Tryz.ntmps13
         go_wp2
         refine bodyPost_ret (v := .tuple #[.int .i64 0, .int .i64 0, .int .i64 0, .int .u8 1]) (by simp [results, Tryz.f13]) rfl ?_
         exact ⟨by rw [hM.out], Below.refl _ _⟩)
  · have hM : Hid (matchV a b N = .tuple #[.int .i64 (mtQ a b N), .int .i64 (gramsN a.length N), .int .i64 (gramsN b.length N), .int .u8 0]) := by
      show matchV a b N = _
      unfold matchV
      rw [if_neg (by omega), if_neg (by omega), Int.toNat_natCast]
    have HA := Lib.hid ha
    have HB := Lib.hid hb
    have cM := refMatches0_any a b va vb N w ha hb h1 h4 hal hbl
    have cA := fun w' h => refGrams_any a va N w' h h1 h4 hal
    have cB := fun w' h => refGrams_any b vb N w' h h1 h4 hbl
    obtain ⟨⟨p, cap, rfl, hl, hc, hrA⟩, hza⟩ := ha
    obtain ⟨⟨p2, cap2, rfl, hl2, hc2, hrB⟩, hzb⟩ := hb
    unfold maxLen at hc hc2
    clear hrA hrB hza hzb
    have i1 : ¬ (512 : Int) < (a.length : Int) := by omega
    have i2 : ¬ (512 : Int) < (b.length : Int) := by omega
    have i3 : ¬ (N : Int) < 1 := by omega
    have i4 : ¬ (4 : Int) < (N : Int) := by omega
    generalize gramsN a.length N = gA at *
    generalize gramsN b.length N = gB at *
    generalize mtQ a b N = m at *
    go_enter Tryz.func13, Tryz.ntmps13
    go_wp2_with (first
      | (go_at_call 37; (with_reducible refine cM.mono ?_); rintro e w1 ⟨rfl, hb1⟩; have HB1 := Lib.hid hb1; clear hb1)
      | (go_at_call 38; (with_reducible refine (cA _ (HA.out.step HB1.out)).mono ?_); rintro e w2 ⟨rfl, rfl⟩)
      | (go_at_call 38; (with_reducible refine (cB _ (HB.out.step HB1.out)).mono ?_); rintro e w2 ⟨rfl, rfl⟩))
    refine bodyPost_ret (v := .tuple #[.int .i64 m, .int .i64 gA, .int .i64 gB, .int .u8 0]) (by simp [results, Tryz.f13]) rfl ?_
    exact ⟨by rw [hM.out], HB1.out⟩
/-- the answer of Edits, for any two lists -/
def Big (a b : List ByteArray) : Prop := 512 < a.length ∨ 512 < b.length
instance (a b : List ByteArray) : Decidable (Big a b) := inferInstanceAs (Decidable (_ ∨ _))
def edD (a b : List ByteArray) : Nat := if Big a b then 0 else dL a b 0 0
def edE (a b : List ByteArray) : Int := if Big a b then 3 else 0
def EdP (a b : List ByteArray) (xs : List Nat) : Prop := (Big a b → xs = []) ∧ (¬ Big a b → GrTo a b xs a.length b.length)
theorem EdP.unique {a b : List ByteArray} {xs ys : List Nat} (hx : EdP a b xs) (hy : EdP a b ys) : xs = ys := by
  by_cases h : Big a b
  · rw [hx.1 h, hy.1 h]
  · exact GrTo.unique (hx.2 h) (hy.2 h)
def EdU (a b : List ByteArray) (e : Ending) (w : World) : Prop := ∃ xs ao cap, e = .returned (.tuple #[.slice ao xs.length cap, .int .i64 (edD a b), .int .u8 (edE a b)]) ∧ StepsAt w (.slice ao xs.length cap) xs ∧ EdP a b xs ∧ xs.length ≤ 1024
theorem EdU.of {a b : List ByteArray} (h : ¬ Big a b) {e : Ending} {w : World} (k : ReEnd a b e w) : EdU a b e w := by
  obtain ⟨xs, ao, cap, rfl, h2, h3, h4⟩ := k
  exact ⟨xs, ao, cap, by unfold edD edE; rw [if_neg h, if_neg h], h2, ⟨fun x => absurd x h, fun _ => h3⟩, h4⟩
theorem EdU.big {a b : List ByteArray} (h : Big a b) (w : World) : EdU a b (.returned (.tuple #[.slice none 0 0, .int .i64 0, .int .u8 3])) w :=
  ⟨[], none, 0, by unfold edD edE; rw [if_pos h, if_pos h]; rfl, ⟨none, 0, rfl, by simp, by unfold maxLen; omega, fun h => absurd h (by simp)⟩, ⟨fun _ => rfl, fun x => absurd h x⟩, by simp⟩
set_option maxHeartbeats 8000000 in
theorem editsU_any (a b : List ByteArray) (va vb : Value) (w : World) (ha : WdsAt w va a) (hb : WdsAt w vb b) : Calls Tryz.prog 14 #[va, vb] w fun e w' => EdU a b e w' ∧ Below w.heap.size w w' := by
  by_cases h : Big a b
  · have HBG := Lib.hid h
    unfold Big at h
    obtain ⟨⟨p, cap, rfl, hl, hc, hrA⟩, hza⟩ := ha
    obtain ⟨⟨p2, cap2, rfl, hl2, hc2, hrB⟩, hzb⟩ := hb
    unfold maxLen at hc hc2
    clear hrA hrB hza hzb
    by_cases i1 : (512 : Int) < (a.length : Int) <;> by_cases i2 : (512 : Int) < (b.length : Int)
    all_goals first
      | (exfalso; omega)
      | (go_enter Tryz.func14, Tryz.ntmps14
         go_wp2
         refine bodyPost_ret (v := .tuple #[.slice none 0 0, .int .i64 0, .int .u8 3]) (by simp [results, Tryz.f14]) rfl ?_
         exact ⟨EdU.big HBG.out _, Below.refl _ _⟩)
  · have h' := h
    unfold Big at h'
    exact (editsGr_any a b va vb w ha hb (by omega) (by omega)).mono fun e w' hh => ⟨EdU.of h hh.1, hh.2⟩
set_option maxHeartbeats 8000000 in
theorem refEditsU_any (a b : List ByteArray) (va vb : Value) (w : World) (ha : WdsAt w va a) (hb : WdsAt w vb b) : Calls Tryz.prog 15 #[va, vb] w fun e w' => EdU a b e w' ∧ Below w.heap.size w w' := by
  by_cases h : Big a b
  · have HBG := Lib.hid h
    unfold Big at h
    obtain ⟨⟨p, cap, rfl, hl, hc, hrA⟩, hza⟩ := ha
    obtain ⟨⟨p2, cap2, rfl, hl2, hc2, hrB⟩, hzb⟩ := hb
    unfold maxLen at hc hc2
    clear hrA hrB hza hzb
    by_cases i1 : (512 : Int) < (a.length : Int) <;> by_cases i2 : (512 : Int) < (b.length : Int)
    all_goals first
      | (exfalso; omega)
      | (go_enter Tryz.func15, Tryz.ntmps15
         go_wp2
         refine bodyPost_ret (v := .tuple #[.slice none 0 0, .int .i64 0, .int .u8 3]) (by simp [results, Tryz.f15]) rfl ?_
         exact ⟨EdU.big HBG.out _, Below.refl _ _⟩)
  · have h' := h
    unfold Big at h'
    exact (refEdits_any a b va vb w ha hb (by omega) (by omega)).mono fun e w' hh => ⟨EdU.of h hh.1, hh.2⟩
end Go.Proofs.YthgllfbigcoaiaaGreatDoor
