/- Which documents are valid, on both sides. Which documents are equal, as the program tells it. The written form of a document, by the program. The written form of a document, by the specification. The guard on a document's size, and what it gives. The law DocsDocuments over any two documents, given that the layer's examples hold. What the row's condition says of an argument that is a document. -/
import Derived.Test.YtnbeomclmggbiaaGreatDoorDoA
import Derived.Test.YtnbeomclmggbiaaGreatDoorDoC
import Derived.Test.YtnbeomclmggbiaaGreatDoorDqA
import Derived.Test.YtnbeomclmggbiaaGreatDoorDqB
import Derived.Deep.SlicePairs
namespace Go.Proofs.YtnbeomclmggbiaaGreatDoor
open Go Go.RowKit Go.Lib
set_option maxRecDepth 100000
/-- the error of the first block that has one -/
def firstE : List Bk → Int
  | [] => 0
  | b :: r => if blockE b ≠ 0 then blockE b else firstE r
def docE (bs : List Bk) : Int := if 256 < bs.length then 3 else firstE bs
def fineK (bs : List Bk) (k : Nat) : Prop := ∀ i, i < k → blockE (bs.getD i nilB) = 0
theorem fineK.succ {bs : List Bk} {k : Nat} (h : fineK bs k) (hk : blockE (bs.getD k nilB) = 0) : fineK bs (k + 1) := fun i hi => by
  rcases Nat.lt_succ_iff_lt_or_eq.1 hi with h' | rfl
  · exact h i h'
  · exact hk
theorem firstE_at : ∀ {bs : List Bk} {k : Nat}, fineK bs k → k < bs.length → blockE (bs.getD k nilB) ≠ 0 → firstE bs = blockE (bs.getD k nilB)
  | b :: r, 0, _, _, he => by
    have e : (b :: r).getD 0 nilB = b := rfl
    rw [e] at he ⊢
    unfold firstE; rw [if_pos he]
  | b :: r, k + 1, h, hk, he => by
    have h0 : blockE b = 0 := h 0 (by omega)
    have e : (b :: r).getD (k + 1) nilB = r.getD k nilB := by simp
    rw [e] at he ⊢
    unfold firstE
    rw [if_neg (by simp [h0])]
    exact firstE_at (fun i hi => by have := h (i + 1) (by omega); simpa using this) (by simpa using hk) he
theorem firstE_all : ∀ {bs : List Bk}, fineK bs bs.length → firstE bs = 0
  | [], _ => rfl
  | b :: r, h => by
    have h0 : blockE b = 0 := h 0 (by simp)
    unfold firstE
    rw [if_neg (by simp [h0])]
    exact firstE_all fun i hi => by have := h (i + 1) (by simpa using hi); simpa using this
theorem docE_long {bs : List Bk} (h : 256 < bs.length) : docE bs = 3 := by unfold docE; rw [if_pos h]
theorem docE_at {bs : List Bk} {k : Nat} (hl : ¬ 256 < bs.length) (h : fineK bs k) (hk : k < bs.length) (he : blockE (bs.getD k nilB) ≠ 0) : docE bs = blockE (bs.getD k nilB) := by
  unfold docE; rw [if_neg hl]; exact firstE_at h hk he
theorem docE_all {bs : List Bk} (hl : ¬ 256 < bs.length) (h : fineK bs bs.length) : docE bs = 0 := by unfold docE; rw [if_neg hl]; exact firstE_all h
theorem getB_mem {bs : List Bk} {k : Nat} (hk : k < bs.length) : bs.getD k nilB ∈ bs := by
  rw [List.getD_eq_getElem?_getD, List.getElem?_eq_getElem hk]; exact List.getElem_mem hk
theorem dbox_new (w : World) (u : Value) (t : TypeId) : DBox w.heap.size u (w.alloc (.cells #[u] t)) := ⟨by simp, by simp⟩
set_option maxHeartbeats 8000000 in
theorem checkDoc_any (bs : List Bk) (v : Value) (w : World) (hv : BksAt w v bs) (hk : ∀ b ∈ bs, 0 ≤ b.k) (hs : ∀ b ∈ bs, ∀ x ∈ b.l, x.s.size ≤ maxLen) (hT : Tabs w) :
    Calls Tryz.prog 11 #[.agg #[v]] w fun e w' => e = .returned (.int .u8 (docE bs)) ∧ Below w.heap.size w w' := by
  obtain ⟨us, hul, ⟨p, cap, rfl, hl1, hc, hrow⟩, hup⟩ := hv
  unfold maxLen at hc
  have ag := Tryz.isAgg51
  have zg := Tryz.sizeOf51
  have ag2 := Tryz.isAgg24
  have zg2 := Tryz.sizeOf24
  have HR := Lib.hid hrow
  have HU := Lib.hid hup
  have HK := Lib.hid hk
  have HS := Lib.hid hs
  have HT := Lib.hid hT
  clear hrow hup hk hs hT
  by_cases h256 : 256 < bs.length
  · have hI : (256 : Int) < (bs.length : Int) := by omega
    have HE := Lib.hid (docE_long h256)
    go_enter Tryz.func11, Tryz.ntmps11
    go_wp2
    go_ret
    exact ⟨ret_u8 HE.out.symm, below_box _⟩
  · have hI : ¬ (256 : Int) < (bs.length : Int) := by omega
    go_enter Tryz.func11, Tryz.ntmps11
    go_wp2
    go_loopw [13] (fun i wr => ∃ k : Nat, k ≤ bs.length ∧ i = .int .i64 k ∧ Hid (fineK bs k) ∧ Hid (Below w.heap.size w wr)) (fun i _ => bs.length - (RowKit.intOf i).toNat)
    case atStart => exact ⟨0, Nat.zero_le _, rfl, (fun i h => by omega), below_box _⟩
    case round =>
      obtain ⟨k, hk, rfl, HE, HB⟩ := hrel
      by_cases hlt : k < bs.length
      · obtain ⟨A, rfl, hA, hcell⟩ := HR.out (by omega)
        obtain ⟨x0, x1⟩ := bks_cells hA hcell hlt HB.out
        have hp1 := (HU.out k hlt)
        obtain ⟨ao, ca, e1⟩ := pcs_form hp1
        rw [e1] at x1 hp1
        have hmem := getB_mem hlt
        have cC := fun w2 (h : Below w.heap.size w w2) => checkBlock_any (bs.getD k nilB) _ w2 (HK.out _ hmem) (hp1.step h) (HS.out _ hmem) (HT.out.step h)
        have HF := Lib.hid (fun h => docE_at (bs := bs) (k := k) h256 HE.out hlt h)
        have HN := Lib.hid (fun h => HE.out.succ (k := k) h)
        clear hcell hp1 e1 hmem
        generalize bs.getD k nilB = x at *
        obtain ⟨xk, xl⟩ := x
        simp only at x0 x1 cC
        generalize blockE ⟨xk, xl⟩ = Z at cC HF HN
        have HBX := Lib.hid (below_next HB.out (below_box (w := wr) (.cells #[.int .u8 xk, .slice ao xl.length ca] 51)))
        by_cases hz : Z = 0
        · subst hz
          have HN2 := Lib.hid (HN.out rfl)
          clear HF HN
          go_wp2_with (go_at_call 43; (with_reducible refine (cC _ HBX.out).mono ?_); rintro e w2 ⟨rfl, hb2⟩; have HB2 := Lib.hid (below_next HBX.out hb2); clear hb2)
          go_roundw
          case rel => exact ⟨k + 1, by omega, by go_num, HN2.out, HB2.out⟩
          case measure => simp [RowKit.intOf]; omega
        · have HF2 := Lib.hid (HF.out hz)
          have hz2 : (Z == 0) = false := by simpa using hz
          clear HF HN hz
          go_wp2_with (go_at_call 43; (with_reducible refine (cC _ HBX.out).mono ?_); rintro e w2 ⟨rfl, hb2⟩; have HB2 := Lib.hid (below_next HBX.out hb2); clear hb2)
          go_ret
          exact ⟨ret_u8 HF2.out.symm, HB2.out⟩
      · have hkl : k = bs.length := by omega
        subst hkl
        have HX := Lib.hid (docE_all h256 HE.out)
        go_wp2
        go_ret
        exact ⟨ret_u8 HX.out.symm, HB.out⟩
set_option maxHeartbeats 8000000 in
theorem refCheckDoc_any (bs : List Bk) (v : Value) (w : World) (hv : BksAt w v bs) (hb : bs.length ≤ 256 → ∀ b ∈ bs, bulk b.l ≤ 2500) :
    Calls Tryz.prog 12 #[.agg #[v]] w fun e w' => e = .returned (.int .u8 (docE bs)) ∧ Below w.heap.size w w' := by
  obtain ⟨us, hul, ⟨p, cap, rfl, hl1, hc, hrow⟩, hup⟩ := hv
  unfold maxLen at hc
  have ag := Tryz.isAgg51
  have zg := Tryz.sizeOf51
  have ag2 := Tryz.isAgg24
  have zg2 := Tryz.sizeOf24
  have HR := Lib.hid hrow
  have HU := Lib.hid hup
  clear hrow hup
  by_cases h256 : 256 < bs.length
  · have hI : (256 : Int) < (bs.length : Int) := by omega
    have HE := Lib.hid (docE_long h256)
    go_enter Tryz.func12, Tryz.ntmps12
    go_wp2
    go_ret
    exact ⟨ret_u8 HE.out.symm, below_box _⟩
  · have hI : ¬ (256 : Int) < (bs.length : Int) := by omega
    have HB := Lib.hid (hb (by omega))
    go_enter Tryz.func12, Tryz.ntmps12
    go_wp2
    go_loopw [3] (fun i wr => ∃ k : Nat, k ≤ bs.length ∧ i = .int .i64 k ∧ Hid (fineK bs k) ∧ Hid (DBox w.heap.size (.slice p bs.length cap) wr) ∧ Hid (Below w.heap.size w wr)) (fun i _ => bs.length - (RowKit.intOf i).toNat)
    case atStart => exact ⟨0, Nat.zero_le _, rfl, (fun i h => by omega), dbox_new w _ _, below_box _⟩
    case round =>
      obtain ⟨k, hk, rfl, HE, HD, HBW⟩ := hrel
      have b1 := HD.out.1
      by_cases hlt : k < bs.length
      · obtain ⟨A, rfl, hA, hcell⟩ := HR.out (by omega)
        obtain ⟨x0, x1⟩ := bks_cells hA hcell hlt HBW.out
        have hp1 := (HU.out k hlt)
        obtain ⟨ao, ca, e1⟩ := pcs_form hp1
        rw [e1] at x1 hp1
        have hmem := getB_mem hlt
        have hbk := HB.out _ hmem
        have cC := fun w2 (h : Below w.heap.size w w2) => refCheck_any (bs.getD k nilB).l _ w2 (hp1.step h) (by omega)
        have cI := fun w2 (h : Below w.heap.size w w2) => inBlock_any (bs.getD k nilB).k (bs.getD k nilB).l _ w2 (hp1.step h)
        have HF := Lib.hid (fun h => docE_at (bs := bs) (k := k) h256 HE.out hlt h)
        have HN := Lib.hid (fun h => HE.out.succ (k := k) h)
        clear hcell hp1 e1 hmem hbk
        generalize bs.getD k nilB = x at *
        obtain ⟨xk, xl⟩ := x
        simp only at x0 x1 cC cI
        have HBX := Lib.hid (below_next HBW.out (below_box (w := wr) (.cells #[.int .u8 xk, .slice ao xl.length ca] 51)))
        have HX1 := Lib.hid (BoxK.new wr xk (.slice ao xl.length ca) 51)
        by_cases hlo : xk < 1
        · have HF2 := Lib.hid ((HF.out (by rw [blockE_kind (.inl hlo)]; decide)).trans (blockE_kind (.inl hlo)))
          clear HF HN cC cI
          go_wp2
          go_ret
          exact ⟨ret_u8 HF2.out.symm, HBX.out⟩
        by_cases hhi : 6 < xk
        · have HF2 := Lib.hid ((HF.out (by rw [blockE_kind (.inr hhi)]; decide)).trans (blockE_kind (.inr hhi)))
          clear HF HN cC cI
          go_wp2
          go_ret
          exact ⟨ret_u8 HF2.out.symm, HBX.out⟩
        have hkk : ¬ ((⟨xk, xl⟩ : Bk).k < 1 ∨ 6 < (⟨xk, xl⟩ : Bk).k) := by simp only; omega
        by_cases hce : checkE xl = 0
        · have hbe : blockE ⟨xk, xl⟩ = inE xk xl := by unfold blockE; rw [if_neg hkk, if_neg (by simp [hce])]
          rw [hce] at cC
          rw [hbe] at HF HN
          clear hbe hkk hce
          generalize inE xk xl = Z at cI HF HN
          by_cases hz : Z = 0
          · subst hz
            have HN2 := Lib.hid (HN.out rfl)
            clear HF HN
            go_wp2_with (first
            | (go_at_call 31; (with_reducible refine (cC _ HBX.out).mono ?_); rintro e w2 ⟨rfl, hb2⟩; have HB2 := Lib.hid (below_next HBX.out hb2); have HD2 := Lib.hid ((HD.out.step (below_box _)).step hb2); have HX2 := Lib.hid (HX1.out.step hb2); clear hb2; obtain ⟨q0, q1, q2⟩ := HX2.out)
            | (go_at_call 44; (with_reducible refine (cI _ HB2.out).mono ?_); rintro e w3 ⟨rfl, hb3⟩; have HB3 := Lib.hid (below_next HB2.out hb3); have HD3 := Lib.hid (HD2.out.step hb3); clear hb3 q0 q1 q2))
            go_roundw
            case rel => exact ⟨k + 1, by omega, by go_num, HN2.out, HD3.out, HB3.out⟩
            case measure => simp [RowKit.intOf]; omega
          · have HF2 := Lib.hid (HF.out hz)
            have hz2 : (Z == 0) = false := by simpa using hz
            clear HF HN hz
            go_wp2_with (first
            | (go_at_call 31; (with_reducible refine (cC _ HBX.out).mono ?_); rintro e w2 ⟨rfl, hb2⟩; have HB2 := Lib.hid (below_next HBX.out hb2); have HD2 := Lib.hid ((HD.out.step (below_box _)).step hb2); have HX2 := Lib.hid (HX1.out.step hb2); clear hb2; obtain ⟨q0, q1, q2⟩ := HX2.out)
            | (go_at_call 44; (with_reducible refine (cI _ HB2.out).mono ?_); rintro e w3 ⟨rfl, hb3⟩; have HB3 := Lib.hid (below_next HB2.out hb3); have HD3 := Lib.hid (HD2.out.step hb3); clear hb3 q0 q1 q2))
            go_ret
            exact ⟨ret_u8 HF2.out.symm, HB3.out⟩
        · have hbe := blockE_check hkk hce
          simp only at hbe
          rw [hbe] at HF
          have HF2 := Lib.hid (HF.out hce)
          generalize checkE xl = Z at cC HF2 hce
          have hz2 : (Z == 0) = false := by simpa using hce
          clear HF HN hce hbe cI hkk
          go_wp2_with (go_at_call 31; (with_reducible refine (cC _ HBX.out).mono ?_); rintro e w2 ⟨rfl, hb2⟩; have HB2 := Lib.hid (below_next HBX.out hb2); have HD2 := Lib.hid ((HD.out.step (below_box _)).step hb2); have HX2 := Lib.hid (HX1.out.step hb2); clear hb2; obtain ⟨q0, q1, q2⟩ := HX2.out)
          go_ret
          exact ⟨ret_u8 HF2.out.symm, HB2.out⟩
      · have hkl : k = bs.length := by omega
        subst hkl
        have HX := Lib.hid (docE_all h256 HE.out)
        go_wp2
        go_ret
        exact ⟨ret_u8 HX.out.symm, HBW.out⟩
end Go.Proofs.YtnbeomclmggbiaaGreatDoor
namespace Go.Proofs.YtnbeomclmggbiaaGreatDoor
open Go Go.RowKit
set_option maxRecDepth 100000
set_option maxHeartbeats 8000000 in
theorem equalPcs_any (l m : List Pc) (u v : Value) (w : World) (hu : PcsAt w u l) (hv : PcsAt w v m) :
    Calls Tryz.prog 91 #[u, v] w fun e w' => e = .returned (.bool (samP l m)) ∧ ∃ n, w' = w.drewN n := by
  obtain ⟨p, cap, rfl, hl1, hc, hrow⟩ := hu
  obtain ⟨q, cap2, rfl, hl2, hc2, hrow2⟩ := hv
  unfold maxLen at hc hc2
  have ag := Tryz.isAgg56
  have zg := Tryz.sizeOf56
  have HR := Lib.hid hrow
  have HR2 := Lib.hid hrow2
  clear hrow hrow2
  by_cases hlen : l.length = m.length
  · have HL := Lib.hid hlen
    have HA := Lib.hid (fun h => samP_all hlen h)
    rw [← hlen]
    clear hlen
    go_enter Tryz.func91, Tryz.ntmps91
    go_wp2
    go_loopw [5, 13] (fun _ i wr => ∃ k : Nat, k ≤ l.length ∧ i = .int .i64 k ∧ Hid (eqP l m k) ∧ ∃ n, wr = w.drewN n) (fun _ i _ => l.length - (intOf i).toNat)
    case atStart => exact ⟨0, Nat.zero_le _, rfl, fun i h => by omega, 0, rfl⟩
    case round =>
      obtain ⟨k, hk, rfl, HE, n, rfl⟩ := hrel
      obtain ⟨w1, hw1⟩ : ∃ w1, w1 = w.drewN n := ⟨_, rfl⟩
      have HW := Lib.hid hw1
      by_cases hlt : k < l.length
      · have hlt2 : k < m.length := by have := HL.out; omega
        obtain ⟨A, rfl, hA, hcell⟩ := HR.out (by omega)
        obtain ⟨A2, rfl, hA2, hcell2⟩ := HR2.out (by omega)
        have hb : Below w.heap.size w w1 := by rw [hw1]; exact ⟨rfl, rfl, rfl, Nat.le_refl _, fun _ _ => rfl⟩
        obtain ⟨x0, x1, x2⟩ := pcs_cellsB hA hcell hlt hb
        obtain ⟨z0, z1, z2⟩ := pcs_cellsB hA2 hcell2 hlt2 hb
        have HF := Lib.hid (fun h => samP_at (l := l) (m := m) (k := k) hlt h)
        have HS : Hid (pcEq (l.getD k nil) (m.getD k nil) = true → eqP l m (k + 1)) := fun h i hi => by
          rcases Nat.lt_succ_iff_lt_or_eq.1 hi with h' | rfl
          · exact HE.out i h'
          · exact h
        rw [← hw1]
        clear hcell hcell2 hw1 hb
        generalize l.getD k nil = x at *
        generalize m.getD k nil = y at *
        obtain ⟨xk, xs, xc⟩ := x
        obtain ⟨yk, ys, yc⟩ := y
        by_cases e1 : xk = yk <;> by_cases e2 : xs.toList = ys.toList <;> by_cases e3 : xc = yc
        all_goals first
          | (have HF2 := Lib.hid (HF.out (by unfold pcEq; simp [e1, e2, e3]))
             clear HF HS
             go_wp2
             go_quiet (fail)
             go_wp2
             go_ret
             exact ⟨ret_bool HF2.out.symm, n + nq, by rw [HW.out, World.drewN_drewN]⟩)
          | (have HS2 := Lib.hid (HS.out (by unfold pcEq; simp [e1, e2, e3]))
             clear HF HS
             go_wp2
             go_quiet (fail)
             go_wp2
             go_roundw
             case rel => exact ⟨k + 1, by omega, by go_num, HS2.out, n + nq, by rw [HW.out, World.drewN_drewN]⟩
             case measure => simp [intOf]; omega)
      · have hkl : k = l.length := by omega
        subst hkl
        rw [← hw1]
        clear hw1
        go_wp2
        go_ret
        exact ⟨ret_bool (HA.out HE.out).symm, n, HW.out⟩
  · have HX := Lib.hid (samP_len hlen)
    have hlI : ((l.length : Int) == (m.length : Int)) = false := by simpa using (show ((l.length : Nat) : Int) ≠ ((m.length : Nat) : Int) by omega)
    clear hlen
    go_enter Tryz.func91, Tryz.ntmps91
    go_wp2
    go_ret
    exact ⟨ret_bool HX.out.symm, 0, rfl⟩
set_option maxHeartbeats 8000000 in
theorem sameBlock_any (x y : Bk) (u v : Value) (w : World) (hu : PcsAt w u x.l) (hv : PcsAt w v y.l) :
    Calls Tryz.prog 46 #[.agg #[.int .u8 x.k, u], .agg #[.int .u8 y.k, v]] w fun e w' => e = .returned (.bool (bkEq x y)) ∧ Below w.heap.size w w' := by
  obtain ⟨xk, xl⟩ := x
  obtain ⟨yk, yl⟩ := y
  simp only at hu hv
  have ag := Tryz.isAgg51
  have zg := Tryz.sizeOf51
  obtain ⟨ao, ca, rfl⟩ := pcs_form hu
  obtain ⟨ao2, ca2, rfl⟩ := pcs_form hv
  have hb0 : Below w.heap.size w ((w.alloc (.cells #[.int .u8 xk, .slice ao xl.length ca] 51)).alloc (.cells #[.int .u8 yk, .slice ao2 yl.length ca2] 51)) := below_two _ _ _
  have HB0 := Lib.hid hb0
  have cE := equalPcs_any xl yl _ _ _ (hu.step hb0) (hv.step hb0)
  have HX := Lib.hid (show bkEq ⟨xk, xl⟩ ⟨yk, yl⟩ = (decide (xk = yk) && samP xl yl) from rfl)
  clear hu hv hb0
  generalize samP xl yl = sm at cE HX
  by_cases h : xk = yk
  · subst h
    cases sm
    all_goals
      go_enter Tryz.func46, Tryz.ntmps46
      go_wp2_with (go_at_call 91; (with_reducible refine cE.mono ?_); rintro e w2 ⟨rfl, hw2⟩; have HB2 := Lib.hid (below_next HB0.out (below_drewsS hw2)); clear hw2)
      go_ret
      exact ⟨ret_bool (by rw [HX.out]; simp), HB2.out⟩
  · have hk1 : (xk == yk) = false := by simpa using h
    have HH := Lib.hid h
    clear h cE
    go_enter Tryz.func46, Tryz.ntmps46
    go_wp2
    go_ret
    exact ⟨ret_bool (by rw [HX.out]; simp [HH.out]), HB0.out⟩
set_option maxHeartbeats 8000000 in
theorem equalFunc_any (bs cs : List Bk) (u v : Value) (w : World) (hu : BksAt w u bs) (hv : BksAt w v cs) :
    Calls Tryz.prog 45 #[u, v, .func (.func 46) #[] #[]] w fun e w' => e = .returned (.bool (samK bs cs)) ∧ Below w.heap.size w w' := by
  obtain ⟨us, hul, ⟨p, cap, rfl, hl1, hc, hrow⟩, hup⟩ := hu
  obtain ⟨vs, hvl, ⟨q, cap2, rfl, hl2, hc2, hrow2⟩, hvp⟩ := hv
  unfold maxLen at hc hc2
  have ag := Tryz.isAgg51
  have zg := Tryz.sizeOf51
  have HR := Lib.hid hrow
  have HR2 := Lib.hid hrow2
  have HU := Lib.hid hup
  have HV := Lib.hid hvp
  clear hrow hrow2 hup hvp
  by_cases hlen : bs.length = cs.length
  · have HL := Lib.hid hlen
    have HA := Lib.hid (fun h => samK_all hlen h)
    rw [← hlen]
    clear hlen
    go_enter Tryz.func45, Tryz.ntmps45
    go_wp2
    go_loopw [7, 17] (fun _ i wr => ∃ k : Nat, k ≤ bs.length ∧ i = .int .i64 k ∧ Hid (eqK bs cs k) ∧ Hid (Below w.heap.size w wr)) (fun _ i _ => bs.length - (intOf i).toNat)
    case atStart => exact ⟨0, Nat.zero_le _, rfl, fun i h => by omega, Below.refl _ _⟩
    case round =>
      obtain ⟨k, hk, rfl, HE, HB⟩ := hrel
      by_cases hlt : k < bs.length
      · have hlt2 : k < cs.length := by have := HL.out; omega
        obtain ⟨A, rfl, hA, hcell⟩ := HR.out (by omega)
        obtain ⟨A2, rfl, hA2, hcell2⟩ := HR2.out (by omega)
        obtain ⟨x0, x1⟩ := bks_cells hA hcell hlt HB.out
        have hp1 := (HU.out k hlt)
        have hp2 := (HV.out k hlt2)
        obtain ⟨ao, ca, e1⟩ := pcs_form hp1
        obtain ⟨ao2, ca2, e2⟩ := pcs_form hp2
        rw [e1] at x1 hp1
        rw [e2] at hp2
        have hb1 := below_next HB.out (below_box (w := wr) (.cells #[.int .u8 (bs.getD k nilB).k, .slice ao (bs.getD k nilB).l.length ca] 51))
        obtain ⟨z0, z1⟩ := bks_cells hA2 hcell2 hlt2 hb1
        rw [e2] at z1
        have hb2 := below_next HB.out (below_two wr (.cells #[.int .u8 (bs.getD k nilB).k, .slice ao (bs.getD k nilB).l.length ca] 51) (.cells #[.int .u8 (cs.getD k nilB).k, .slice ao2 (cs.getD k nilB).l.length ca2] 51))
        have HBX := Lib.hid hb2
        have cS := sameBlock_any (bs.getD k nilB) (cs.getD k nilB) _ _ _ (hp1.step hb2) (hp2.step hb2)
        have HF := Lib.hid (fun h => samK_at (bs := bs) (cs := cs) (k := k) hlt h)
        have HS : Hid (bkEq (bs.getD k nilB) (cs.getD k nilB) = true → eqK bs cs (k + 1)) := fun h i hi => by
          rcases Nat.lt_succ_iff_lt_or_eq.1 hi with h' | rfl
          · exact HE.out i h'
          · exact h
        clear hcell hcell2 hp1 hp2 e1 e2 hb1 hb2
        generalize bs.getD k nilB = x at *
        generalize cs.getD k nilB = y at *
        generalize hsm : bkEq x y = sm at cS
        obtain ⟨xk, xl⟩ := x
        obtain ⟨yk, yl⟩ := y
        simp only at x0 x1 z0 z1 cS HBX
        cases sm
        · have HF2 := Lib.hid (HF.out hsm)
          clear HF HS hsm
          go_wp2_with (go_at_call 46; (with_reducible refine cS.mono ?_); rintro e w2 ⟨rfl, hb2⟩; have HB2 := Lib.hid (below_next HBX.out hb2); clear hb2)
          go_ret
          exact ⟨ret_bool HF2.out.symm, HB2.out⟩
        · have HS2 := Lib.hid (HS.out hsm)
          clear HF HS hsm
          go_wp2_with (go_at_call 46; (with_reducible refine cS.mono ?_); rintro e w2 ⟨rfl, hb2⟩; have HB2 := Lib.hid (below_next HBX.out hb2); clear hb2)
          go_roundw
          case rel => exact ⟨k + 1, by omega, by go_num, HS2.out, HB2.out⟩
          case measure => simp [intOf]; omega
      · have hkl : k = bs.length := by omega
        subst hkl
        go_wp2
        go_ret
        exact ⟨ret_bool (HA.out HE.out).symm, HB.out⟩
  · have HX := Lib.hid (samK_len hlen)
    have hlI : ((bs.length : Int) == (cs.length : Int)) = false := by simpa using (show ((bs.length : Nat) : Int) ≠ ((cs.length : Nat) : Int) by omega)
    clear hlen
    go_enter Tryz.func45, Tryz.ntmps45
    go_wp2
    go_ret
    exact ⟨ret_bool HX.out.symm, Below.refl _ _⟩
set_option maxHeartbeats 8000000 in
theorem same_doc (bs cs : List Bk) (u v : Value) (w : World) (hu : BksAt w u bs) (hv : BksAt w v cs) :
    Calls Tryz.prog 13 #[.agg #[u], .agg #[v]] w fun e w' => e = .returned (.bool (samK bs cs)) ∧ Below w.heap.size w w' := by
  have ag := Tryz.isAgg24
  have zg := Tryz.sizeOf24
  have hb0 : Below w.heap.size w ((w.alloc (.cells #[u] 24)).alloc (.cells #[v] 24)) := below_two _ _ _
  have HB0 := Lib.hid hb0
  have cE := equalFunc_any bs cs u v _ (hu.step hb0) (hv.step hb0)
  obtain ⟨us, _, ⟨p, cap, rfl, _⟩, _⟩ := hu
  obtain ⟨vs, _, ⟨q, cap2, rfl, _⟩, _⟩ := hv
  clear hb0
  go_enter Tryz.func13, Tryz.ntmps13
  go_wp2_with (go_at_call 45; (with_reducible refine cE.mono ?_); rintro e w2 ⟨rfl, hb2⟩; have HB2 := Lib.hid (below_next HB0.out hb2); clear hb2)
  go_ret
  exact ⟨rfl, HB2.out⟩
end Go.Proofs.YtnbeomclmggbiaaGreatDoor
namespace Go.Proofs.YtnbeomclmggbiaaGreatDoor
open Go Go.RowKit Go.Lib
set_option maxRecDepth 100000
/-- a block as it is written -/
def bkB (b : Bk) : List UInt8 := headL b.k.toNat ++ [32] ++ formB b.l ++ [10]
def docL (bs : List Bk) : List UInt8 := bs.flatMap bkB
def docS (bs : List Bk) : List UInt8 := if docE bs ≠ 0 then [] else if 65536 < (docL bs).length then [] else docL bs
def docZ (bs : List Bk) : Int := if docE bs ≠ 0 then docE bs else if 65536 < (docL bs).length then 3 else 0
theorem takeB_succ (bs : List Bk) (k : Nat) (hk : k < bs.length) : bs.take (k + 1) = bs.take k ++ [bs.getD k nilB] := by
  rw [List.take_succ_eq_append_getElem hk, List.getD_eq_getElem?_getD, List.getElem?_eq_getElem hk]
  rfl
theorem docL_succ (bs : List Bk) (k : Nat) (hk : k < bs.length) : docL (bs.take (k + 1)) = docL (bs.take k) ++ bkB (bs.getD k nilB) := by
  rw [takeB_succ bs k hk]; unfold docL; simp
theorem docL_take (bs : List Bk) (k : Nat) : (docL (bs.take k)).length ≤ (docL bs).length := by
  conv => rhs; rw [← List.take_append_drop k bs]
  unfold docL
  rw [List.flatMap_append, List.length_append]
  omega
theorem docE_fine {bs : List Bk} (h : docE bs = 0) : bs.length ≤ 256 ∧ fineK bs bs.length := by
  unfold docE at h
  split at h
  · cases h
  · refine ⟨by omega, ?_⟩
    have key : ∀ {bs : List Bk}, firstE bs = 0 → fineK bs bs.length := by
      intro bs
      induction bs with
      | nil => intro _ i hi; simp at hi
      | cons b r ih =>
        intro h i hi
        unfold firstE at h
        by_cases hb : blockE b = 0
        · rw [if_neg (by simp [hb])] at h
          match i, hi with
          | 0, _ => exact hb
          | i + 1, hi => have := ih h i (by simpa using hi); simpa using this
        · rw [if_pos hb] at h; exact absurd h hb
    exact key h
theorem blockE_zero {b : Bk} (h : blockE b = 0) : 1 ≤ b.k ∧ b.k ≤ 6 ∧ checkE b.l = 0 := by
  unfold blockE at h
  split at h
  · cases h
  · rename_i hk
    split at h
    · rename_i hc; exact absurd h hc
    · rename_i hc; exact ⟨by omega, by omega, by simpa using hc⟩
theorem head_size {k : Int} (h1 : 1 ≤ k) (h6 : k ≤ 6) : (headL k.toNat).length ≤ 3 := head_len _ (by omega)
/-- a block stands in a block of memory of its own -/
def BoxH (b : Nat) (k : Int) (u : Value) (w : World) : Prop := w.heap[b]? = some (.cells #[.int .u8 k, u] 51 (0, 0))
theorem BoxH.new (w : World) (k : Int) (u : Value) : BoxH w.heap.size k u (w.alloc (.cells #[.int .u8 k, u] 51)) := by
  unfold BoxH; show (w.heap.push _)[_]? = _; simp
theorem BoxH.step {b : Nat} {k : Int} {u : Value} {w w' : World} (h : BoxH b k u w) (hb : Below w.heap.size w w') : BoxH b k u w' := by
  unfold BoxH at *; rw [hb.block b (lt_of_block h)]; exact h
theorem BoxH.grown {b B n : Nat} {k : Int} {u v : Value} {xs : List Value} {w w' : World} (h : BoxH b k u w) (ho : w.ownsRow B 5 1 v n xs) (hg : w.grownBy w' v.ownBlock) : BoxH b k u w' := by
  unfold BoxH at *; rw [hg.block b (lt_of_block h) (fun e => own_other ho h (by decide) e.symm)]; exact h
theorem BoxH.cells {b : Nat} {k : Int} {u : Value} {w : World} (h : BoxH b k u w) : w.cell? ⟨b, 0, none⟩ = some (.int .u8 k) ∧ w.cell? ⟨b, 1, none⟩ = some u :=
  ⟨by rw [Lib.cell_of_heap h]; rfl, by rw [Lib.cell_of_heap h]; rfl⟩
set_option maxHeartbeats 16000000 in
theorem print_any (bs : List Bk) (v : Value) (w : World) (hv : BksAt w v bs) (hk : ∀ b ∈ bs, 0 ≤ b.k) (hs : ∀ b ∈ bs, ∀ x ∈ b.l, x.s.size ≤ maxLen) (hb : bs.length ≤ 256 → ∀ b ∈ bs, bulk b.l ≤ 2500) (hL : docE bs = 0 → (docL bs).length ≤ 100000) (hE : Env w) :
    Calls Tryz.prog 9 #[.agg #[v]] w fun e w' => e = .returned (.tuple #[.string (bytes (docS bs)), .int .u8 (docZ bs)]) ∧ Below w.heap.size w w' := by
  obtain ⟨i0, hi, hz0, hz1, hz2⟩ := info_parts info_byte
  have hb0 : Below w.heap.size w (w.alloc (.cells #[v] 24)) := below_box _
  have HB0 := Lib.hid hb0
  have cC := checkDoc_any bs v _ (hv.step hb0) hk hs (hE.step hb0).tabs
  have HES := Lib.hid (show docS bs = if docE bs ≠ 0 then [] else if 65536 < (docL bs).length then [] else docL bs from rfl)
  have HEZ := Lib.hid (show docZ bs = if docE bs ≠ 0 then docE bs else if 65536 < (docL bs).length then 3 else 0 from rfl)
  have HD0 := Lib.hid (dbox_new w v 24)
  obtain ⟨us, hul, ⟨p, cap, rfl, hl1, hc, hrow⟩, hup⟩ := hv
  unfold maxLen at hc
  have ag := Tryz.isAgg51
  have zg := Tryz.sizeOf51
  have ag2 := Tryz.isAgg24
  have zg2 := Tryz.sizeOf24
  have HR := Lib.hid hrow
  have HU := Lib.hid hup
  have HE := Lib.hid hE
  clear hrow hup hs hE hk
  by_cases hd : docE bs = 0
  · obtain ⟨h256, hfine⟩ := docE_fine hd
    have HF := Lib.hid hfine
    have HBK := Lib.hid (hb h256)
    have hLL := hL hd
    rw [hd] at cC
    have HDE := Lib.hid hd
    clear hd hfine hb hL
    go_enter Tryz.func9, Tryz.ntmps9
    go_wp2_with (go_at_call 11; (with_reducible refine cC.mono ?_); rintro e w1 ⟨rfl, hb1⟩; have HB1 := Lib.hid (below_next HB0.out hb1); have d1 := (HD0.out.step hb1).1; clear hb1)
    go_loopw [5, 16] (fun o i wr => ∃ k : Nat, k ≤ bs.length ∧ i = .int .i64 k ∧ Hid (OwnB w.heap.size o (docL (bs.take k)) wr) ∧ Hid (Below w.heap.size w wr)) (fun _ i _ => bs.length - (RowKit.intOf i).toNat)
    case atStart => exact ⟨0, Nat.zero_le _, rfl, OwnB.nil _ _, HB1.out⟩
    case round =>
      obtain ⟨k, hk, rfl, HO, HB⟩ := hrel
      by_cases hlt : k < bs.length
      · obtain ⟨A, rfl, hA, hcell⟩ := HR.out (by omega)
        obtain ⟨x0, x1⟩ := bks_cells hA hcell hlt HB.out
        have hp1 := (HU.out k hlt)
        obtain ⟨ao, ca, e1⟩ := pcs_form hp1
        rw [e1] at x1 hp1
        have hbe := blockE_zero (HF.out k hlt)
        have hbk := HBK.out _ (getB_mem hlt)
        have hds := docL_succ bs k hlt
        have hdt := docL_take bs k
        have hdt2 := docL_take bs (k + 1)
        clear hcell e1
        generalize bs.getD k nilB = x at *
        obtain ⟨xk, xl⟩ := x
        simp only at x0 x1 hp1 hbe hbk
        obtain ⟨hk1, hk6, hce⟩ := hbe
        obtain ⟨kn, rfl⟩ : ∃ kn : Nat, xk = (kn : Int) := ⟨xk.toNat, by omega⟩
        have hall := all_valid hce
        have hkb : bkB ⟨(kn : Int), xl⟩ = headL kn ++ [32] ++ formB xl ++ [10] := by unfold bkB; simp only [Int.toNat_natCast]
        have hhz := head_len kn (by omega)
        have hhb : (bytes (headL kn)).size = (headL kn).length := bsize _
        have hBr : w.heap.size ≤ wr.heap.size := HB.out.size
        have hO1 := HO.out
        generalize hL1 : docL (bs.take k) = L at hO1
        have hLl : L.length ≤ 100000 := by rw [← hL1]; omega
        have hLt : (L ++ headL kn ++ [32] ++ formB xl).length ≤ 100000 := by
          have h := hds
          rw [hL1, hkb] at h
          have h2 := congrArg List.length h
          simp only [List.length_append, List.length_cons, List.length_nil] at h2 ⊢
          omega
        have HDS : Hid (docL (bs.take (k + 1)) = L ++ headL kn ++ [32] ++ formB xl ++ [10]) := by
          show _ = _
          rw [hds, hL1, hkb]; simp only [List.append_assoc]
        have hown := hO1.step (below_box (w := wr) (.cells #[.int .u8 (kn : Int), .slice ao xl.length ca] 51))
        unfold OwnB at hown
        have HB2 := Lib.hid (HB.out.alloc hBr (.cells #[.int .u8 (kn : Int), .slice ao xl.length ca] 51))
        have hBa : w.heap.size ≤ (wr.alloc (.cells #[.int .u8 (kn : Int), .slice ao xl.length ca] 51)).heap.size := Nat.le_trans hBr (below_box _).size
        have HX0 := Lib.hid (BoxH.new wr (kn : Int) (.slice ao xl.length ca))
        have c0 : (wr.alloc (.cells #[.int .u8 (kn : Int), .slice ao xl.length ca] 51)).cell? ⟨0, kn, none⟩ = some (.string (bytes (headL kn))) := (HE.out.step HB2.out).wds kn (by omega)
        have hi0 : (0 : Int) ≤ (kn : Int) := by omega
        have hi7 : (kn : Int) < 7 := by omega
        have HP1 := Lib.hid hp1
        have hL2 : (L ++ headL kn).length ≤ 100010 := by rw [List.length_append]; omega
        have hL3 : (L ++ headL kn ++ [32]).length ≤ 100020 := by simp only [List.length_append, List.length_cons, List.length_nil]; omega
        clear hds hdt hdt2 hkb hL1 hO1 hp1 hk1 hk6 hce
        go_wp2_with (first
          | (at_builtin; refine Lib.wpList_append_own_string _ rfl _ _ 71 9 rfl w.heap.size 5 i0 Tryz.underlying71 Tryz.underlying9 hi hz0 hz1 hz2 _ _ _ rfl hown (bytes (headL kn)) rfl (by unfold maxLen; omega) (by omega) (by omega) ?_; intro v2 w2 hown2 hgrow2 hnil2
             have HB3 := Lib.hid (HB2.out.grown hgrow2 hBa (fun k hk => (hown.lt k hk).1))
             have HX2 := Lib.hid (HX0.out.grown hown hgrow2)
             have hO2 := OwnB.more (l := L) (m := headL kn) (by rw [hhb] at hown2; exact hown2)
             have hB2 : w.heap.size ≤ w2.heap.size := HB3.out.size
             unfold OwnB at hO2
             clear hown hown2 hgrow2 hnil2 c0)
          | (at_builtin; refine wpList_append_own _ rfl _ _ 71 rfl w.heap.size 5 i0 (.int .u8 0) 1 1 Tryz.underlying71 hi hz0 hz1 hz2 rfl (by decide) _ _ _ rfl (hO2.alloc _) ⟨w2.heap.size, 0, none⟩ 1 1 [.int .u8 32] rfl rfl (cell_new1 _ _ _) (fun x hx => by simp at hx; subst hx; rfl) (by unfold maxLen; omega) (by omega) (by simp; omega) ?_; intro v3 w3 hown3 hgrow3 hnil3
             have HB4 := Lib.hid ((HB3.out.alloc hB2 (.cells #[.int .u8 32] 5)).grown hgrow3 (by simp; omega) (fun k hk => (hO2.lt k hk).1))
             have HX3 := Lib.hid ((HX2.out.step (below_box (.cells #[.int .u8 32] 5))).grown (hO2.alloc (.cells #[.int .u8 32] 5)) hgrow3)
             have hO3 := OwnB.more (l := L ++ headL kn) (m := [32]) hown3
             obtain ⟨b0, b1⟩ := HX3.out.cells
             have cA := appendPieces_any w.heap.size xl _ (.slice ao xl.length ca) _ w3 hO3 (SliceAt.below HB4.out HP1.out) HE.out.tabs.2.2 HB4.out.size (HE.out.step HB4.out).nts hall (by omega) (by omega)
             clear hO2 hown3 hgrow3 hnil3)
          | (go_at_call 40; (with_reducible refine cA.mono ?_); rintro e w4 ⟨v4, rfl, hO4, hb4⟩; have HB5 := Lib.hid (HB4.out.trans hb4); have hB4 : w.heap.size ≤ w4.heap.size := HB5.out.size; unfold OwnB at hO4; clear hb4 b0 b1)
          | (at_builtin; refine wpList_append_own _ rfl _ _ 71 rfl w.heap.size 5 i0 (.int .u8 0) 1 1 Tryz.underlying71 hi hz0 hz1 hz2 rfl (by decide) _ _ _ rfl (hO4.alloc _) ⟨w4.heap.size, 0, none⟩ 1 1 [.int .u8 10] rfl rfl (cell_new1 _ _ _) (fun x hx => by simp at hx; subst hx; rfl) (by unfold maxLen; omega) (by omega) (by simp; omega) ?_; intro v5 w5 hown5 hgrow5 hnil5
             have HB6 := Lib.hid ((HB5.out.alloc hB4 (.cells #[.int .u8 10] 5)).grown hgrow5 (by simp; omega) (fun k hk => (hO4.lt k hk).1))
             have HO6 := Lib.hid (OwnB.more (l := L ++ headL kn ++ [32] ++ formB xl) (m := [10]) hown5)
             clear hO4 hown5 hgrow5 hnil5))
        go_roundw
        case rel => exact ⟨k + 1, by omega, by go_num, (by show OwnB _ _ _ _; rw [HDS.out]; exact HO6.out), HB6.out⟩
        case measure => simp [RowKit.intOf]; omega
      · have hkl : k = bs.length := by omega
        have hE2 : bs.take k = bs := List.take_of_length_le (by omega)
        rw [hE2] at HO
        have hO9 := HO.out
        obtain ⟨ao, cap9, rfl⟩ := hO9.form
        have hcv := convert_own hO9
        clear hO9 hE2
        by_cases hbig : 65536 < (docL bs).length
        · have hI : (65536 : Int) < ((docL bs).length : Int) := by omega
          have hbb := Lib.hid hbig
          clear hbig
          go_wp2
          go_ret2
          exact ⟨by rw [HES.out, HEZ.out]; simp [HDE.out, hbb.out]; rfl, HB.out⟩
        · have hI : ¬ (65536 : Int) < ((docL bs).length : Int) := by omega
          have hbb := Lib.hid hbig
          clear hbig
          go_wp2
          go_ret2
          exact ⟨by rw [HES.out, HEZ.out]; simp [HDE.out, hbb.out], HB.out⟩
  · have HH := Lib.hid hd
    generalize docE bs = Z at cC HES HEZ HH hd
    have hz : (Z == 0) = false := by simpa using hd
    clear hd hb hL
    go_enter Tryz.func9, Tryz.ntmps9
    go_wp2_with (go_at_call 11; (with_reducible refine cC.mono ?_); rintro e w1 ⟨rfl, hb1⟩; have HB1 := Lib.hid (below_next HB0.out hb1); clear hb1)
    go_ret2
    exact ⟨by rw [HES.out, HEZ.out]; simp [HH.out]; rfl, HB1.out⟩
end Go.Proofs.YtnbeomclmggbiaaGreatDoor
namespace Go.Proofs.YtnbeomclmggbiaaGreatDoor
open Go Go.RowKit Go.Lib
set_option maxRecDepth 100000
/-- a region's condition may be sharpened on the way -/
theorem wpAnyH_mono {P : Program} {ops : Array Oper} {Q : Exit → Act → World → Prop} {md : Region.Mode} {S S' : World → Prop} (hs : ∀ w, S' w → S w) :
    ∀ (fuel : Nat) (listed : Array Bool) (a : Act) (w : World), wpAnyH P md ops Q S' fuel listed a w → wpAnyH P md ops Q S fuel listed a w
  | 0, _, _, _, h => h
  | fuel + 1, _, _, _, h => ⟨h.1, fun i hi => wpOp_mono (fun a' w' h' => ⟨hs w' h'.1, wpAnyH_mono hs fuel _ a' w' h'.2⟩) (h.2 i hi)⟩
set_option maxHeartbeats 16000000 in
theorem refPrint_any (bs : List Bk) (v : Value) (w : World) (hv : BksAt w v bs) (hb : bs.length ≤ 256 → ∀ b ∈ bs, bulk b.l ≤ 2500) (hL : docE bs = 0 → (docL bs).length ≤ 100000) :
    Calls Tryz.prog 10 #[.agg #[v]] w fun e w' => e = .returned (.tuple #[.string (bytes (docS bs)), .int .u8 (docZ bs)]) ∧ Below w.heap.size w w' := by
  have hb0 : Below w.heap.size w (w.alloc (.cells #[v] 24)) := below_box _
  have HB0 := Lib.hid hb0
  have cC := refCheckDoc_any bs v _ (hv.step hb0) hb
  have HES := Lib.hid (show docS bs = if docE bs ≠ 0 then [] else if 65536 < (docL bs).length then [] else docL bs from rfl)
  have HEZ := Lib.hid (show docZ bs = if docE bs ≠ 0 then docE bs else if 65536 < (docL bs).length then 3 else 0 from rfl)
  have HD0 := Lib.hid (dbox_new w v 24)
  obtain ⟨us, hul, ⟨p, cap, rfl, hl1, hc, hrow⟩, hup⟩ := hv
  unfold maxLen at hc
  have ag := Tryz.isAgg51
  have zg := Tryz.sizeOf51
  have ag2 := Tryz.isAgg24
  have zg2 := Tryz.sizeOf24
  have HR := Lib.hid hrow
  have HU := Lib.hid hup
  clear hrow hup
  by_cases hd : docE bs = 0
  · obtain ⟨h256, hfine⟩ := docE_fine hd
    have HF := Lib.hid hfine
    have HBK := Lib.hid (hb h256)
    have hLL := hL hd
    rw [hd] at cC
    have HDE := Lib.hid hd
    clear hd hfine hb hL
    have cH := fun w2 => heads_any w2
    go_enter Tryz.func10, Tryz.ntmps10
    go_wp2_with (go_at_call 12; (with_reducible refine cC.mono ?_); rintro e w1 ⟨rfl, hb1⟩; have HB1 := Lib.hid (below_next HB0.out hb1); have HD1 := Lib.hid (HD0.out.step hb1); clear hb1)
    go_loopw [5, 6] (fun o i wr => ∃ k : Nat, k ≤ bs.length ∧ i = .int .i64 k ∧ o = .string (bytes (docL (bs.take k))) ∧ Hid (DBox w.heap.size (.slice p bs.length cap) wr) ∧ Hid (Below w.heap.size w wr)) (fun _ i _ => bs.length - (RowKit.intOf i).toNat)
    case atStart => exact ⟨0, Nat.zero_le _, rfl, rfl, HD1.out, HB1.out⟩
    case round =>
      obtain ⟨k, hk, rfl, rfl, HD, HB⟩ := hrel
      have b1 := HD.out.1
      have hdt := docL_take bs k
      by_cases hlt : k < bs.length
      · obtain ⟨A, rfl, hA, hcell⟩ := HR.out (by omega)
        obtain ⟨x0, x1⟩ := bks_cells hA hcell hlt HB.out
        have hp1 := (HU.out k hlt)
        obtain ⟨ao, ca, e1⟩ := pcs_form hp1
        rw [e1] at x1 hp1
        have hbe := blockE_zero (HF.out k hlt)
        have hbk := HBK.out _ (getB_mem hlt)
        have hds := docL_succ bs k hlt
        have hdt2 := docL_take bs (k + 1)
        clear hcell e1
        generalize bs.getD k nilB = x at *
        obtain ⟨xk, xl⟩ := x
        simp only at x0 x1 hp1 hbe hbk
        obtain ⟨hk1, hk6, hce⟩ := hbe
        obtain ⟨kn, rfl⟩ : ∃ kn : Nat, xk = (kn : Int) := ⟨xk.toNat, by omega⟩
        have hall := all_valid hce
        have hkb : bkB ⟨(kn : Int), xl⟩ = headL kn ++ [32] ++ formB xl ++ [10] := by unfold bkB; simp only [Int.toNat_natCast]
        have HDS : Hid (bytes (docL (bs.take k)) ++ bytes (headL kn) ++ (⟨#[32]⟩ : ByteArray) ++ bytes (formB xl) ++ (⟨#[10]⟩ : ByteArray) = bytes (docL (bs.take (k + 1)))) := by
          show _ = _
          rw [hds, hkb, bytes_app, bytes_app, bytes_app, bytes_app]
          congr 1
          simp [bytes_list]
        have cF := fun w2 (h : Below w.heap.size w w2) => form_any xl (.slice ao xl.length ca) w2 (hp1.step h) (by omega) hall
        have hi0 : (0 : Int) ≤ (kn : Int) := by omega
        have hi7 : (kn : Int) < 7 := by omega
        have htn : (kn : Int).toNat = kn := by omega
        have hwd : w.heap.size < wr.heap.size := HD.out.2
        have hAw : (A.add (k * 2)).block < wr.heap.size := by rw [add_block]; omega
        have hz1 : (bytes (headL kn)).size ≤ 3 := by rw [bytes_size]; exact head_len kn (by omega)
        have hz2 : (bytes (docL (bs.take k))).size ≤ 100000 := by rw [bytes_size]; omega
        have hz3 : (bytes (formB xl)).size ≤ 100000 := by rw [bytes_size]; have := formB_length xl; omega
        have hov1 : ¬ 9223372036854775807 < (bytes (docL (bs.take k))).size + (bytes (headL kn)).size := by omega
        have hov2 : ¬ 9223372036854775807 < (bytes (docL (bs.take k))).size + (bytes (headL kn)).size + 1 := by omega
        have hov3 : ¬ 9223372036854775807 < (bytes (docL (bs.take k))).size + (bytes (headL kn)).size + 1 + (bytes (formB xl)).size := by omega
        have hov4 : ¬ 9223372036854775807 < (bytes (docL (bs.take k))).size + (bytes (headL kn)).size + 1 + (bytes (formB xl)).size + 1 := by omega
        generalize hLL2 : docL (bs.take k) = L at *
        clear hds hdt2 hkb hp1 hk1 hk6 hce hLL2
        go_wp2
        refine wp_region_held_drew (S := fun w' => w'.cell? ⟨w.heap.size, 0, none⟩ = some (.slice (some A) bs.length cap) ∧ w'.cell? (A.add (k * 2)) = some (.int .u8 (kn : Int)) ∧ w'.cell? { block := (A.add (k * 2)).block, off := (A.add (k * 2)).off + 1 } = some (.slice ao xl.length ca)) (by kernel_rfl) ⟨b1, x0, x1⟩ (fun hHeld => ?_)
        refine wpAnyH_take (i := 0) (v := ?va0) rfl (by kernel_rfl) (by kernel_rfl) (by kernel_rfl) (fun _ _ _ h => h) (Or.inl ⟨by rfl, ?hy0⟩) hHeld ?re0
        case hy0 => (intro w9 hSw; (try dsimp only at hSw); go_simp; try with_reducible rfl)
        refine wpAnyH_take (i := 2) (v := ?va2) rfl (by kernel_rfl) (by kernel_rfl) (by kernel_rfl) (fun _ _ _ h => h) (Or.inl ⟨by rfl, ?hy2⟩) hHeld ?re2
        case hy2 => (intro w9 hSw; (try dsimp only at hSw); go_simp; try with_reducible rfl)
        refine wpAnyH_take (i := 3) (v := ?va3) rfl (by kernel_rfl) (by kernel_rfl) (by kernel_rfl) (fun _ _ _ h => h) (Or.inl ⟨by rfl, ?hy3⟩) hHeld ?re3
        case hy3 => (intro w9 hSw; (try dsimp only at hSw); go_simp; try with_reducible rfl)
        refine wpAnyH_take (i := 4) (v := ?va4) rfl (by kernel_rfl) (by kernel_rfl) (by kernel_rfl) (fun _ _ _ h => h) (Or.inl ⟨by rfl, ?hy4⟩) hHeld ?re4
        case hy4 => (intro w9 hSw; (try dsimp only at hSw); go_simp; try with_reducible rfl)
        refine wpAnyH_take (i := 5) (v := ?va5) rfl (by kernel_rfl) (by kernel_rfl) (by kernel_rfl) (fun _ _ _ h => h) (Or.inl ⟨by rfl, ?hy5⟩) hHeld ?re5
        case hy5 => (intro w9 hSw; (try dsimp only at hSw); go_simp; try with_reducible rfl)
        refine wpAnyH_take (i := 6) (v := ?va6) rfl (by kernel_rfl) (by kernel_rfl) (by kernel_rfl) (fun _ _ _ h => h) (Or.inl ⟨by rfl, ?hy6⟩) hHeld ?re6
        case hy6 => (intro w9 hSw; (try dsimp only at hSw); go_simp; try with_reducible rfl)
        refine wpAnyH_take (i := 7) (v := ?va7) rfl (by kernel_rfl) (by kernel_rfl) (by kernel_rfl) (fun _ _ _ h => h) (Or.inl ⟨by rfl, ?hy7⟩) hHeld ?re7
        case hy7 => (intro w9 hSw; (try dsimp only at hSw); go_simp; try with_reducible rfl)
        refine wpAnyH_take (i := 12) (v := ?va12) rfl (by kernel_rfl) (by kernel_rfl) (by kernel_rfl) (fun _ _ _ h => h) (Or.inl ⟨by rfl, ?hy12⟩) hHeld ?re12
        case hy12 => (intro w9 hSw; (try dsimp only at hSw); go_simp; try with_reducible rfl)
        refine wpAnyH_take (i := 13) (v := ?va13) rfl (by kernel_rfl) (by kernel_rfl) (by kernel_rfl) (fun _ _ _ h => h) (Or.inl ⟨by rfl, ?hy13⟩) hHeld ?re13
        case hy13 => (intro w9 hSw; (try dsimp only at hSw); go_simp; try with_reducible rfl)
        refine wpAnyH_take (i := 14) (v := ?va14) rfl (by kernel_rfl) (by kernel_rfl) (by kernel_rfl) (fun _ _ _ h => h) (Or.inl ⟨by rfl, ?hy14⟩) hHeld ?re14
        case hy14 => (intro w9 hSw; (try dsimp only at hSw); go_simp; try with_reducible rfl)
        refine wpAnyH_take (i := 15) (v := ?va15) rfl (by kernel_rfl) (by kernel_rfl) (by kernel_rfl) (fun _ _ _ h => h) (Or.inl ⟨by rfl, ?hy15⟩) hHeld ?re15
        case hy15 => (intro w9 hSw; (try dsimp only at hSw); go_simp; try with_reducible rfl)
        refine wpAnyH_take (i := 16) (v := ?va16) rfl (by kernel_rfl) (by kernel_rfl) (by kernel_rfl) (fun _ _ _ h => h) (Or.inl ⟨by rfl, ?hy16⟩) hHeld ?re16
        case hy16 => (intro w9 hSw; (try dsimp only at hSw); go_simp; try with_reducible rfl)
        refine wpAnyH_take (i := 17) (v := ?va17) rfl (by kernel_rfl) (by kernel_rfl) (by kernel_rfl) (fun _ _ _ h => h) (Or.inl ⟨by rfl, ?hy17⟩) hHeld ?re17
        case hy17 => (intro w9 hSw; (try dsimp only at hSw); go_simp; try with_reducible rfl)
        refine wpAnyH_ready (rs := [1]) (by kernel_rfl) (by simp) ?_
        refine AllReadyH.cons rfl (fun K hK => ?_) AllReadyH.nil
        go_simp
        (go_at_call 41; (with_reducible refine (cH _).mono ?_); rintro e w2 ⟨⟨v2, rfl, hv2⟩, hb2⟩; have HB2 := Lib.hid (below_next (wr := wr.drew) HB.out.drew hb2); obtain ⟨b2, rfl, hc2⟩ := hv2; have c2 := hc2 kn (by omega); have hsz2 : wr.heap.size ≤ w2.heap.size := hb2.size; have d0 := (hb2.cell (p := ⟨w.heap.size, 0, none⟩) (by show w.heap.size < wr.heap.size; omega)).trans b1; have d1 := (hb2.cell (p := A.add (k * 2)) (by show _ < wr.heap.size; omega)).trans x0; have d2 := (hb2.cell (p := { block := (A.add (k * 2)).block, off := (A.add (k * 2)).off + 1 }) (by show (A.add (k * 2)).block < wr.heap.size; omega)).trans x1)
        refine hK.out _ _ ⟨d0, d1, d2⟩ (fun hHeld => ?_)
        clear hK K
        clear hHeld
        refine wpAnyH_mono (S' := fun w' => (w'.cell? ⟨w.heap.size, 0, none⟩ = some (.slice (some A) bs.length cap) ∧ w'.cell? (A.add (k * 2)) = some (.int .u8 (kn : Int)) ∧ w'.cell? { block := (A.add (k * 2)).block, off := (A.add (k * 2)).off + 1 } = some (.slice ao xl.length ca)) ∧ w'.cell? ⟨b2, kn, none⟩ = some (.string (bytes (headL kn)))) (fun _ h => h.1) _ _ _ _ ?_
        have hHeld : (fun w' => (w'.cell? ⟨w.heap.size, 0, none⟩ = some (.slice (some A) bs.length cap) ∧ w'.cell? (A.add (k * 2)) = some (.int .u8 (kn : Int)) ∧ w'.cell? { block := (A.add (k * 2)).block, off := (A.add (k * 2)).off + 1 } = some (.slice ao xl.length ca)) ∧ w'.cell? ⟨b2, kn, none⟩ = some (.string (bytes (headL kn)))) w2 := ⟨⟨d0, d1, d2⟩, c2⟩
        refine wpAnyH_take (i := 8) (v := ?va8) rfl (by kernel_rfl) (by kernel_rfl) (by kernel_rfl) (fun _ _ _ h => h) (Or.inl ⟨by rfl, ?hy8⟩) hHeld ?re8
        case hy8 => (intro w9 hSw; (try dsimp only at hSw); go_simp; try with_reducible rfl)
        refine wpAnyH_take (i := 9) (v := ?va9) rfl (by kernel_rfl) (by kernel_rfl) (by kernel_rfl) (fun _ _ _ h => h) (Or.inl ⟨by rfl, ?hy9⟩) hHeld ?re9
        case hy9 => (intro w9 hSw; (try dsimp only at hSw); go_simp; try with_reducible rfl)
        refine wpAnyH_take (i := 10) (v := ?va10) rfl (by kernel_rfl) (by kernel_rfl) (by kernel_rfl) (fun _ _ _ h => h) (Or.inl ⟨by rfl, ?hy10⟩) hHeld ?re10
        case hy10 => (intro w9 hSw; (try dsimp only at hSw); go_simp; try with_reducible rfl)
        refine wpAnyH_take (i := 11) (v := ?va11) rfl (by kernel_rfl) (by kernel_rfl) (by kernel_rfl) (fun _ _ _ h => h) (Or.inl ⟨by rfl, ?hy11⟩) hHeld ?re11
        case hy11 => (intro w9 hSw; (try dsimp only at hSw); go_simp; try with_reducible rfl)
        refine wpAnyH_ready (rs := [18]) (by kernel_rfl) (by simp) ?_
        refine AllReadyH.cons rfl (fun K hK => ?_) AllReadyH.nil
        go_simp
        (go_at_call 42; (with_reducible refine (cF w2 HB2.out).mono ?_); rintro e w3 ⟨rfl, hb3⟩; have HB3 := Lib.hid (below_next HB2.out hb3); have c3 := (hb3.cell (p := ⟨b2, kn, none⟩) (World.block_lt_of_cell? w2 _ c2)).trans c2; have f0 := (hb3.cell (p := ⟨w.heap.size, 0, none⟩) (by show w.heap.size < w2.heap.size; omega)).trans d0; have f1 := (hb3.cell (p := A.add (k * 2)) (by show _ < w2.heap.size; omega)).trans d1; have f2 := (hb3.cell (p := { block := (A.add (k * 2)).block, off := (A.add (k * 2)).off + 1 }) (by show (A.add (k * 2)).block < w2.heap.size; omega)).trans d2)
        refine hK.out _ _ ⟨⟨f0, f1, f2⟩, c3⟩ (fun hHeld => ?_)
        clear hK K
        refine wpAnyH_take (i := 19) (v := ?va19) rfl (by kernel_rfl) (by kernel_rfl) (by kernel_rfl) (fun _ _ _ h => h) (Or.inl ⟨by rfl, ?hy19⟩) hHeld ?re19
        case hy19 => (intro w9 hSw; (try dsimp only at hSw); go_simp; try with_reducible rfl)
        refine wpAnyH_take (i := 20) (v := ?va20) rfl (by kernel_rfl) (by kernel_rfl) (by kernel_rfl) (fun _ _ _ h => h) (Or.inl ⟨by rfl, ?hy20⟩) hHeld ?re20
        case hy20 => (intro w9 hSw; (try dsimp only at hSw); go_simp; try with_reducible rfl)
        refine wpAnyH_take (i := 21) (v := ?va21) rfl (by kernel_rfl) (by kernel_rfl) (by kernel_rfl) (fun _ _ _ h => h) (Or.inl ⟨by rfl, ?hy21⟩) hHeld ?re21
        case hy21 => (intro w9 hSw; (try dsimp only at hSw); go_simp; try with_reducible rfl)
        refine wpAnyH_done (by kernel_rfl) ?_ _
        clear hHeld
        · have HD3 : Hid (DBox w.heap.size (.slice (some A) bs.length cap) w3) := ⟨f0, by have := hb3.size; omega⟩
          clear f0 f1 f2 d0 d1 d2 c3 c2 hb2 hb3 b1 x0 x1
          go_wp2
          go_roundw
          case rel => exact ⟨k + 1, by omega, by go_num, by rw [HDS.out], HD3.out, HB3.out⟩
          case measure => simp [RowKit.intOf]; omega
      · have hE2 : bs.take k = bs := List.take_of_length_le (by omega)
        rw [hE2]
        have hbz : (bytes (docL bs)).size = (docL bs).length := bytes_size _
        by_cases hbig : 65536 < (docL bs).length
        · have hI : (65536 : Int) < ((docL bs).length : Int) := by omega
          have hbb := Lib.hid hbig
          rw [← hbz] at hI
          clear hbig
          go_wp2
          go_ret2
          exact ⟨by rw [HES.out, HEZ.out]; simp [HDE.out, hbb.out]; rfl, HB.out⟩
        · have hI : ¬ (65536 : Int) < ((docL bs).length : Int) := by omega
          have hbb := Lib.hid hbig
          rw [← hbz] at hI
          clear hbig
          go_wp2
          go_ret2
          exact ⟨by rw [HES.out, HEZ.out]; simp [HDE.out, hbb.out], HB.out⟩
  · have HH := Lib.hid hd
    generalize docE bs = Z at cC HES HEZ HH hd
    have hz : (Z == 0) = false := by simpa using hd
    clear hd hb hL
    go_enter Tryz.func10, Tryz.ntmps10
    go_wp2_with (go_at_call 12; (with_reducible refine cC.mono ?_); rintro e w1 ⟨rfl, hb1⟩; have HB1 := Lib.hid (below_next HB0.out hb1); clear hb1)
    go_ret2
    exact ⟨by rw [HES.out, HEZ.out]; simp [HH.out]; rfl, HB1.out⟩
end Go.Proofs.YtnbeomclmggbiaaGreatDoor
namespace Go.Proofs.YtnbeomclmggbiaaGreatDoor
open Go Go.RowKit Go.Lib
set_option maxRecDepth 100000
def costK (b : Bk) : Nat := b.l.length + (plainB b.l).length
/-- the guard's count when the first k blocks have been added -/
def cntD (bs : List Bk) (k : Nat) : Nat := bs.length + ((bs.take k).map costK).sum
theorem cntD_zero (bs : List Bk) : cntD bs 0 = bs.length := by simp [cntD]
theorem cntD_succ (bs : List Bk) (k : Nat) (hk : k < bs.length) : cntD bs (k + 1) = cntD bs k + costK (bs.getD k nilB) := by
  unfold cntD
  rw [takeB_succ bs k hk]
  simp only [List.map_append, List.sum_append, List.map_cons, List.map_nil, List.sum_cons, List.sum_nil, Nat.add_zero]
  omega
theorem plain_le (l : List Pc) : (plainB l).length ≤ bulk l := plain_length l
theorem bulk_ge (l : List Pc) : l.length ≤ bulk l := by unfold bulk; omega
/-- how long the written form of valid pieces can be -/
theorem form_cost : ∀ {l : List Pc}, (∀ x ∈ l, pieceE x = 0) → (formB l).length ≤ 21 * l.length + 2 * (plainB l).length
  | [], _ => by simp [formB]
  | x :: l, h => by
    have ih := form_cost (l := l) fun y hy => h y (List.mem_cons_of_mem _ hy)
    have hx := h x (List.mem_cons_self ..)
    unfold formB plainB at *
    simp only [List.flatMap_cons, List.length_append, List.length_cons]
    have e : x.s.data.toList.length = x.s.size := rfl
    by_cases hk : x.k = 1
    · have h1 : (wB x).length ≤ 2 * x.s.size := by
        unfold wB; rw [if_pos hk]
        have := esc_length x.s.data.toList; omega
      rw [if_pos hk]
      omega
    · have hn : x.s.size ≤ 16 := by
        unfold pieceE at hx
        rw [if_neg hk] at hx
        split at hx
        · cases hx
        · split at hx
          · cases hx
          · split at hx
            · rename_i hnb
              unfold nameB at hnb
              simp only [Bool.and_eq_true, decide_eq_true_eq] at hnb
              omega
            · cases hx
      have h1 := wB_length x
      have h2 : (wB x).length ≤ x.s.size + 5 := by
        unfold wB; rw [if_neg hk]
        simp only [List.length_append, e]
        have h1 : (markA x.k x.c).length ≤ 3 := by unfold markA; repeat' split
                                                   all_goals simp
        have h2 : (markZ x.k).length ≤ 2 := by unfold markZ; repeat' split
                                               all_goals simp
        omega
      rw [if_neg hk]
      simp only [List.length_nil]
      omega
theorem valid_mem {l : List Pc} (h : checkE l = 0) : ∀ x ∈ l, pieceE x = 0 := by
  intro x hx
  obtain ⟨i, hi, rfl⟩ := List.getElem_of_mem hx
  have := all_valid h i hi
  rw [List.getD_eq_getElem?_getD, List.getElem?_eq_getElem hi] at this
  exact this
theorem docL_cost : ∀ {bs : List Bk}, (∀ b ∈ bs, blockE b = 0) → (docL bs).length ≤ 5 * bs.length + 21 * (bs.map costK).sum
  | [], _ => by simp [docL]
  | b :: r, h => by
    have ih := docL_cost (bs := r) fun y hy => h y (List.mem_cons_of_mem _ hy)
    obtain ⟨h1, h6, hc⟩ := blockE_zero (h b (List.mem_cons_self ..))
    have hf := form_cost (valid_mem hc)
    have hh := head_size h1 h6
    unfold docL bkB costK at *
    simp only [List.flatMap_cons, List.length_append, List.length_cons, List.length_nil, List.map_cons, List.sum_cons]
    omega
/-- what the guard tells of a document that is not too great -/
def Small (bs : List Bk) : Prop := (∀ i, i < bs.length → i < 300 → bulk (bs.getD i nilB).l ≤ 2500) ∧ cntD bs (min bs.length 300) ≤ 3500
theorem Small.bulk {bs : List Bk} (h : Small bs) : bs.length ≤ 256 → ∀ b ∈ bs, bulk b.l ≤ 2500 := by
  intro hl b hb
  obtain ⟨i, hi, rfl⟩ := List.getElem_of_mem hb
  have := h.1 i hi (by omega)
  rw [List.getD_eq_getElem?_getD, List.getElem?_eq_getElem hi] at this
  exact this
theorem Small.len {bs : List Bk} (h : Small bs) : docE bs = 0 → (docL bs).length ≤ 100000 := by
  intro hd
  obtain ⟨hl, hf⟩ := docE_fine hd
  have hv : ∀ b ∈ bs, blockE b = 0 := by
    intro b hb
    obtain ⟨i, hi, rfl⟩ := List.getElem_of_mem hb
    have := hf i hi
    rw [List.getD_eq_getElem?_getD, List.getElem?_eq_getElem hi] at this
    exact this
  have hc := docL_cost hv
  have h2 := h.2
  rw [Nat.min_eq_left (by omega)] at h2
  unfold cntD at h2
  rw [List.take_length] at h2
  omega
def VastEnd (bs : List Bk) (e : Ending) : Prop := ∃ b, e = .returned (.bool b) ∧ (b = false → Small bs)
set_option maxHeartbeats 16000000 in
theorem vast_any (bs : List Bk) (v : Value) (w : World) (hv : BksAt w v bs) (hs : ∀ b ∈ bs, (∀ x ∈ b.l, x.s.size ≤ 140737488355328) ∧ b.l.length ≤ 140737488355328) (hn : bs.length ≤ 140737488355328) :
    Calls Tryz.prog 7 #[.agg #[v]] w fun e w' => VastEnd bs e ∧ Below w.heap.size w w' := by
  have HD0 := Lib.hid (dbox_new w v 24)
  obtain ⟨us, hul, ⟨p, cap, rfl, hl1, hc, hrow⟩, hup⟩ := hv
  unfold maxLen at hc
  have ag := Tryz.isAgg51
  have zg := Tryz.sizeOf51
  have ag2 := Tryz.isAgg24
  have zg2 := Tryz.sizeOf24
  have HR := Lib.hid hrow
  have HU := Lib.hid hup
  have HS := Lib.hid hs
  clear hrow hup hs
  go_enter Tryz.func7, Tryz.ntmps7
  go_wp2
  go_loopw [3, 4] (fun n i wr => ∃ k : Nat, k ≤ bs.length ∧ k ≤ 300 ∧ i = .int .i64 k ∧ n = .int .i64 (cntD bs k) ∧ Hid (cntD bs k ≤ bs.length + k * 5000) ∧ Hid (∀ j, j < k → bulk (bs.getD j nilB).l ≤ 2500) ∧ Hid (DBox w.heap.size (.slice p bs.length cap) wr) ∧ Hid (Below w.heap.size w wr)) (fun _ i _ => bs.length - (RowKit.intOf i).toNat)
  case atStart => exact ⟨0, Nat.zero_le _, by omega, rfl, by rw [cntD_zero], (by show _ ≤ _; rw [cntD_zero]; omega), (fun j h => by omega), HD0.out, below_box _⟩
  case round =>
    obtain ⟨k, hk, hk3, rfl, rfl, HC, HL, HD, HB⟩ := hrel
    have b1 := HD.out.1
    by_cases hlt : k < bs.length
    · by_cases h300 : k < 300
      · obtain ⟨A, rfl, hA, hcell⟩ := HR.out (by omega)
        obtain ⟨x0, x1⟩ := bks_cells hA hcell hlt HB.out
        have hp1 := (HU.out k hlt)
        obtain ⟨ao, ca, e1⟩ := pcs_form hp1
        rw [e1] at x1 hp1
        have hsz := HS.out _ (getB_mem hlt)
        have hcs := cntD_succ bs k hlt
        have hcb := HC.out
        have HLN : Hid (bulk (bs.getD k nilB).l ≤ 2500 → ∀ j, j < k + 1 → bulk (bs.getD j nilB).l ≤ 2500) := fun h j hj => by
          rcases Nat.lt_succ_iff_lt_or_eq.1 hj with h' | rfl
          · exact HL.out j h'
          · exact h
        have h300I : (k : Int) < 300 := by omega
        clear hcell e1
        generalize bs.getD k nilB = x at *
        obtain ⟨xk, xl⟩ := x
        simp only [costK] at hcs
        simp only at x0 x1 hp1 hsz HLN
        have hbx := below_next HB.out (below_box (w := wr) (.cells #[.slice ao xl.length ca] 35))
        have HBX := Lib.hid hbx
        have cL := long_any xl (.slice ao xl.length ca) wr.heap.size (wr.alloc (.cells #[.slice ao xl.length ca] 35)) (by rw [Lib.cell_of_heap (heap_alloc_new wr _)]; rfl) (hp1.step hbx) hsz.1 hsz.2
        have hDX := HD.out.step (below_box (w := wr) (.cells #[.slice ao xl.length ca] 35))
        have HDX := Lib.hid hDX
        have b2 := hDX.1
        have x2 := ((below_box (w := wr) (.cells #[.slice ao xl.length ca] 35)).cell (p := { block := (A.add (k * 2)).block, off := (A.add (k * 2)).off + 1 }) (by show (A.add (k * 2)).block < _; rw [add_block]; have := HD.out.2; omega)).trans x1
        have cP := fun n (h : bulk xl ≤ 2500) => refPlain_any xl (.slice ao xl.length ca) ((wr.alloc (.cells #[.slice ao xl.length ca] 35)).drewN n) (hp1.step (below_next hbx (below_drewsS ⟨n, rfl⟩))) (by omega)
        have hpl := plain_le xl
        have hbg := bulk_ge xl
        have HCS := Lib.hid hcs
        have hbz : (bytes (plainB xl)).size = (plainB xl).length := bytes_size _
        clear hbx hp1 hsz hDX hcs
        generalize cntD bs k = q at *
        go_wp2_with (go_at_call 17; (with_reducible refine cL.mono ?_); rintro e w3 ⟨⟨b, rfl, hb⟩, hw⟩; obtain rfl := hw.symm; cases b)
        · have hbk : bulk xl ≤ 2500 := by simpa using hb
          have HLN2 := Lib.hid (HLN.out hbk)
          clear hb
          go_quiet ((go_at_call 32; refine Calls.quiet_of_same (cP _ hbk)))
          go_wp2
          refine ⟨⟨k + 1, by omega, by omega, by go_num, by rw [HCS.out]; congr 1; omega, (by show _ ≤ _; rw [HCS.out]; omega), HLN2.out, HDX.out.step (below_drewsS ⟨nq, rfl⟩), below_next HBX.out (below_drewsS ⟨nq, rfl⟩)⟩, by simp [RowKit.intOf]; omega⟩
        · go_ret
          exact ⟨⟨true, rfl, fun h => by cases h⟩, HBX.out⟩
      · have hk300 : k = 300 := by omega
        have h300I : ¬ (k : Int) < 300 := by omega
        have HX : Hid (cntD bs k ≤ 3500 → Small bs) := fun h => ⟨fun i hi h3 => HL.out i (by omega), by rw [Nat.min_eq_right (by omega), ← hk300]; exact h⟩
        generalize cntD bs k = q at *
        go_wp2
        go_ret
        exact ⟨⟨_, rfl, fun h => HX.out (by simp at h; omega)⟩, HB.out⟩
    · have hkl : k = bs.length := by omega
      have HX : Hid (cntD bs k ≤ 3500 → Small bs) := fun h => ⟨fun i hi h3 => HL.out i (by omega), by rw [Nat.min_eq_left (by omega), ← hkl]; exact h⟩
      generalize cntD bs k = q at *
      go_wp2
      go_ret
      exact ⟨⟨_, rfl, fun h => HX.out (by simp at h; omega)⟩, HB.out⟩
end Go.Proofs.YtnbeomclmggbiaaGreatDoor
namespace Go.Proofs.YtnbeomclmggbiaaGreatDoor
open Go Go.RowKit Go.Lib
set_option maxRecDepth 100000
/-- blocks that came with an argument: kinds are numbers of one byte, no length is beyond a machine -/
structure Came (bs : List Bk) : Prop where
  kinds : ∀ b ∈ bs, 0 ≤ b.k
  sizes : ∀ b ∈ bs, (∀ x ∈ b.l, x.s.size ≤ 140737488355328) ∧ b.l.length ≤ 140737488355328
  len : bs.length ≤ 140737488355328
set_option maxHeartbeats 32000000 in
theorem documents_law (bs cs : List Bk) (u v : Value) (w : World) (hu : BksAt w u bs) (hv : BksAt w v cs) (hb : Came bs) (hc : Came cs) (hE : Env w)
    (hR : ∀ w', Below w.heap.size w w' → Calls Tryz.prog 8 #[] w' fun e w'' => e = .returned (.bool true) ∧ Below w'.heap.size w' w'') :
    Calls Tryz.prog 3 #[.agg #[u], .agg #[v]] w fun e w' => e = .returned (.bool true) ∧ Below w.heap.size w w' := by
  have hb0 : Below w.heap.size w ((w.alloc (.cells #[u] 24)).alloc (.cells #[v] 24)) := below_two _ _ _
  have HB0 := Lib.hid hb0
  have H10 := Lib.hid (DBox.two w u v 24 24).1
  have H20 := Lib.hid (DBox.two w u v 24 24).2
  have cV1 := fun w2 (h : Below w.heap.size w w2) => vast_any bs u w2 (hu.step h) hb.sizes hb.len
  have cV2 := fun w2 (h : Below w.heap.size w w2) => vast_any cs v w2 (hv.step h) hc.sizes hc.len
  have hmx : ∀ b ∈ bs, ∀ x ∈ b.l, x.s.size ≤ maxLen := fun b h x hx => by have := (hb.sizes b h).1 x hx; unfold maxLen; omega
  have cP1 := fun w2 (h : Below w.heap.size w w2) (hs : Small bs) => print_any bs u w2 (hu.step h) hb.kinds hmx hs.bulk hs.len (hE.step h)
  have cP2 := fun w2 (h : Below w.heap.size w w2) (hs : Small bs) => refPrint_any bs u w2 (hu.step h) hs.bulk hs.len
  have cC1 := fun w2 (h : Below w.heap.size w w2) => checkDoc_any bs u w2 (hu.step h) hb.kinds hmx (hE.step h).tabs
  have cC2 := fun w2 (h : Below w.heap.size w w2) (hs : Small bs) => refCheckDoc_any bs u w2 (hu.step h) hs.bulk
  have cS1 := fun w2 (h : Below w.heap.size w w2) => same_doc bs cs u v w2 (hu.step h) (hv.step h)
  have cS2 := fun w2 (h : Below w.heap.size w w2) => refSame_any bs cs u v w2 (hu.step h) (hv.step h)
  have cS3 := fun w2 (h : Below w.heap.size w w2) => same_doc bs bs u u w2 (hu.step h) (hu.step h)
  rw [samK_refl] at cS3
  obtain ⟨us, _, ⟨p, cap, rfl, _⟩, _⟩ := hu
  obtain ⟨vs, _, ⟨q, cap2, rfl, _⟩, _⟩ := hv
  have ag2 := Tryz.isAgg24
  have zg2 := Tryz.sizeOf24
  generalize docS bs = S at cP1 cP2
  generalize docZ bs = Z at cP1 cP2
  generalize docE bs = E at cC1 cC2
  generalize samK bs cs = sm at cS1 cS2
  obtain ⟨d1, _⟩ := H10.out
  obtain ⟨d2, _⟩ := H20.out
  clear hb hc hmx hE hb0
  go_enter Tryz.func3, Tryz.ntmps3
  go_wp2_with (first
    | (go_at_call 10; (with_reducible refine (cP2 _ HB3.out (by first | exact HS1.out rfl | exact HS1.out trivial | exact HS1.out)).mono ?_); rintro e w4 ⟨rfl, hb4⟩; clear g1 g2; have HB4 := Lib.hid (below_next HB3.out hb4); have H14 := Lib.hid (H13.out.step hb4); have H24 := Lib.hid (H23.out.step hb4); have g1 := H14.out.1; have g2 := H24.out.1; clear hb4)
    | (go_at_call 9; (with_reducible refine (cP1 _ HB2.out (by first | exact HS1.out rfl | exact HS1.out trivial | exact HS1.out)).mono ?_); rintro e w3 ⟨rfl, hb3⟩; clear g1 g2; have HB3 := Lib.hid (below_next HB2.out hb3); have H13 := Lib.hid (H12.out.step hb3); have H23 := Lib.hid (H22.out.step hb3); have g1 := H13.out.1; have g2 := H23.out.1; clear hb3)
    | (go_at_call 7; (with_reducible refine (cV2 _ HB1.out).mono ?_); rintro e w2 ⟨⟨b2, rfl, hs2⟩, hb2⟩; clear g1 g2; have HB2 := Lib.hid (below_next HB1.out hb2); have H12 := Lib.hid (H11.out.step hb2); have H22 := Lib.hid (H21.out.step hb2); have g1 := H12.out.1; have g2 := H22.out.1; clear hb2; clear hs2; cases b2)
    | (go_at_call 7; (with_reducible refine (cV1 _ HB0.out).mono ?_); rintro e w1 ⟨⟨b1, rfl, hs1⟩, hb1⟩; clear d1 d2; have HB1 := Lib.hid (below_next HB0.out hb1); have H11 := Lib.hid (H10.out.step hb1); have H21 := Lib.hid (H20.out.step hb1); have g1 := H11.out.1; have g2 := H21.out.1; clear hb1; have HS1 := Lib.hid hs1; clear hs1; cases b1)
    | (go_at_call 8; (with_reducible refine (hR _ HB2.out).mono ?_); rintro e w20 ⟨rfl, hb20⟩; have HB20 := Lib.hid (below_next HB2.out hb20); clear hb20)
    | (go_at_call 8; (with_reducible refine (hR _ HB1.out).mono ?_); rintro e w20 ⟨rfl, hb20⟩; have HB20 := Lib.hid (below_next HB1.out hb20); clear hb20))
  rotate_left
  all_goals try (go_ret; exact ⟨rfl, HB20.out⟩)
  go_region_held3 (fun w' => w'.cell? ⟨w.heap.size, 0, none⟩ = some (.slice p bs.length cap) ∧ w'.cell? ⟨w.heap.size + 1, 0, none⟩ = some (.slice q cs.length cap2))
    (first
      | exact ⟨g1, g2⟩
      | (go_keep; done))
    ((go_simp; first
      | (go_at_call 13; (with_reducible refine (cS3 _ HB8.out).mono ?_); rintro e w9 ⟨rfl, hb9⟩; clear g1 g2; have HB9 := Lib.hid (below_next HB8.out hb9); have H19 := Lib.hid (H18.out.step hb9); have H29 := Lib.hid (H28.out.step hb9); have g1 := H19.out.1; have g2 := H29.out.1; clear hb9)
      | (go_at_call 14; (with_reducible refine (cS2 _ HB7.out).mono ?_); rintro e w8 ⟨rfl, hb8⟩; clear g1 g2; have HB8 := Lib.hid (below_next HB7.out hb8); have H18 := Lib.hid (H17.out.step hb8); have H28 := Lib.hid (H27.out.step hb8); have g1 := H18.out.1; have g2 := H28.out.1; clear hb8)
      | (go_at_call 13; (with_reducible refine (cS1 _ HB6.out).mono ?_); rintro e w7 ⟨rfl, hb7⟩; clear g1 g2; have HB7 := Lib.hid (below_next HB6.out hb7); have H17 := Lib.hid (H16.out.step hb7); have H27 := Lib.hid (H26.out.step hb7); have g1 := H17.out.1; have g2 := H27.out.1; clear hb7)
      | (go_at_call 12; (with_reducible refine (cC2 _ HB5.out (by first | exact HS1.out rfl | exact HS1.out trivial | exact HS1.out)).mono ?_); rintro e w6 ⟨rfl, hb6⟩; clear g1 g2; have HB6 := Lib.hid (below_next HB5.out hb6); have H16 := Lib.hid (H15.out.step hb6); have H26 := Lib.hid (H25.out.step hb6); have g1 := H16.out.1; have g2 := H26.out.1; clear hb6)
      | (go_at_call 11; (with_reducible refine (cC1 _ HB4.out.drew).mono ?_); rintro e w5 ⟨rfl, hb5⟩; clear g1 g2; have HB5 := Lib.hid (below_next (wr := w4.drew) HB4.out.drew hb5); have H15 := Lib.hid (DBox.step (w := w4.drew) H14.out hb5); have H25 := Lib.hid (DBox.step (w := w4.drew) H24.out hb5); have g1 := H15.out.1; have g2 := H25.out.1; clear hb5)
      | (go_at_call 8; (with_reducible refine (hR _ HB9.out).mono ?_); rintro e w20 ⟨rfl, hb20⟩; clear g1 g2; have HB20 := Lib.hid (below_next HB9.out hb20); have g1 := (H19.out.step hb20).1; have g2 := (H29.out.step hb20).1; clear hb20)))
  go_wp2
  go_ret
  exact ⟨rfl, HB20.out⟩
end Go.Proofs.YtnbeomclmggbiaaGreatDoor
namespace Go.Proofs.YtnbeomclmggbiaaGreatDoor
open Go Go.RowKit Go.Lib
set_option maxRecDepth 100000
section
variable {H : Type} {enc : TypeId × Value → H} {W : World} {sp : Nat → Bool} {held : Bool}
theorem bk_weights {d0 d1 : DataW H} {l r : List (DataW H)} (hd : (.agg [d0, d1] : DataW H) ∈ l) {n : Nat} (hn : n ∈ d1.weights Tryz.prog 35) : n ∈ (DataW.agg [.slice l r] : DataW H).weights Tryz.prog 24 := by
  have h1 : n ∈ (.agg [d0, d1] : DataW H).weights Tryz.prog 51 := by
    simp only [DataW.weights, Tryz.underlying51]
    simp [DataW.weightsEach, hn]
  have h2 := weights_all (e := 51) hd h1
  simp only [DataW.weights, Tryz.underlying24]
  simp [DataW.weightsEach, DataW.weights, Tryz.underlying22, h2]
theorem doc_weights {l r : List (DataW H)} : (l.length + r.length) * Tryz.prog.bytesOf 51 ∈ (DataW.agg [.slice l r] : DataW H).weights Tryz.prog 24 := by
  simp only [DataW.weights, Tryz.underlying24]
  simp [DataW.weightsEach, DataW.weights, Tryz.underlying22]
theorem doc_open {fuel : Nat} {cs : List Value} {d : DataW H} {p : List MemPlace} (h : DataW.trod enc Tryz.prog W 0 sp held fuel 24 cs = some (d, p))
    (hw : ∀ n ∈ d.weights Tryz.prog 24, n ≤ reachBytes) : ∃ (bs : List Bk) (v : Value), cs = [v] ∧ BksAt W v bs ∧ Came bs := by
  have hr : reachBytes ≤ 140737488355328 := by decide
  obtain ⟨xs, n, _, hx, hl, hxl, hf⟩ := DataW.trod_struct Tryz.underlying24 h
  have h1 : cs.length = 1 := hl.trans (by kernel_rfl)
  have hx1 : xs.length = 1 := hxl
  match xs, hx1, cs, h1 with
  | [y0], _, [v], _ =>
    have f0 : DataW.trod enc Tryz.prog W 0 sp held n 22 (([v].drop 0).take (Tryz.prog.cellsOf 22)) = some y0 := hf 0 _ rfl
    rw [show Tryz.prog.cellsOf 22 = 1 by kernel_rfl] at f0
    have f1 : DataW.trod enc Tryz.prog W 0 sp held n 22 [v] = some y0 := f0
    have hd : d = .agg [y0.1] := by
      have := congrArg Prod.fst hx
      simpa using this
    subst hd
    rcases Go.Deep.open_slice_pairs Tryz.underlying22 Tryz.underlying51 (by kernel_rfl) rfl rfl (by kernel_rfl) (by kernel_rfl) f1 with ⟨hv, _⟩ | ⟨a, len, cap, m, n', V0, V1, D0, D1, P0, P1, hv, _, hle, hmx, hmm, hy, hel⟩
    · obtain rfl : v = .slice none 0 0 := by simpa using hv
      exact ⟨[], _, rfl, bks_nil _, ⟨by simp, by simp, by simp⟩⟩
    · obtain rfl : v = .slice (some a) len cap := by simpa using hv
      have hy1 : y0.1 = .slice ((List.range len).map fun i => .agg [D0 i, D1 i]) ((List.range (m - len)).map fun j => .agg [D0 (len + j), D1 (len + j)]) := congrArg Prod.fst hy
      rw [hy1] at hw
      have hlm : len ≤ m := by rw [hmm]; split <;> omega
      have each : ∀ i : Fin len, ∃ b : Bk, V0 i.1 = .int .u8 b.k ∧ 0 ≤ b.k ∧ PcsAt W (V1 i.1) b.l ∧ (∀ x ∈ b.l, x.s.size ≤ 140737488355328) ∧ b.l.length ≤ 140737488355328 := fun i => by
        obtain ⟨_, _, t0, t1⟩ := hel i.1 (by have := i.2; omega)
        obtain ⟨z, c0, _, hwf⟩ := DataW.trod_int Tryz.underlying49 t0
        have hmem : (.agg [D0 i.1, D1 i.1] : DataW H) ∈ (List.range len).map fun i => (.agg [D0 i, D1 i] : DataW H) := List.mem_map.2 ⟨i.1, List.mem_range.2 i.2, rfl⟩
        obtain ⟨l, u, hu, hp, hs, hn⟩ := pcs_open t1 (fun n hn => hw n (bk_weights hmem hn))
        refine ⟨⟨z, l⟩, by simpa using c0, ?_, ?_, hs, hn⟩
        · have hz : IntKind.u8.min ≤ z := by simp [Lit.wf] at hwf; exact hwf.1
          have h0 : IntKind.u8.min = 0 := by decide
          simp only
          omega
        · obtain rfl : V1 i.1 = u := by simpa using hu
          exact hp
      refine ⟨List.ofFn fun i => Classical.choose (each i), _, rfl, ⟨List.ofFn fun i : Fin len => V1 i.1, by simp, ⟨some a, cap, by simp, by simpa using hle, hmx, fun h0 => ⟨a, rfl, ?_, ?_⟩⟩, ?_⟩, ⟨?_, ?_, ?_⟩⟩
      · have h0' : 0 < len := by simpa using h0
        obtain ⟨c0, _⟩ := hel 0 (by omega)
        have hb := World.block_lt_of_cell? W _ c0
        rwa [add_block] at hb
      · intro i j hi hj
        have hi' : i < len := by simpa using hi
        obtain ⟨c0, c1, _⟩ := hel i (by omega)
        have hg : (List.ofFn fun i => Classical.choose (each i)).getD i nilB = Classical.choose (each ⟨i, hi'⟩) := by
          rw [List.getD_eq_getElem?_getD, List.getElem?_eq_getElem hi]; simp
        have hg2 : (List.ofFn fun i : Fin len => V1 i.1).getD i nilV = V1 i := by
          rw [List.getD_eq_getElem?_getD, List.getElem?_eq_getElem (by simpa using hi')]; simp
        obtain ⟨e0, _⟩ := Classical.choose_spec (each ⟨i, hi'⟩)
        unfold bkF
        rw [hg, hg2]
        match j, hj with
        | 0, _ => rw [Nat.add_zero, c0]; simp only [if_pos]; exact congrArg some e0
        | 1, _ => rw [c1]; simp
      · intro i hi
        have hi' : i < len := by simpa using hi
        have hg : (List.ofFn fun i => Classical.choose (each i)).getD i nilB = Classical.choose (each ⟨i, hi'⟩) := by
          rw [List.getD_eq_getElem?_getD, List.getElem?_eq_getElem hi]; simp
        have hg2 : (List.ofFn fun i : Fin len => V1 i.1).getD i nilV = V1 i := by
          rw [List.getD_eq_getElem?_getD, List.getElem?_eq_getElem (by simpa using hi')]; simp
        rw [hg, hg2]
        exact (Classical.choose_spec (each ⟨i, hi'⟩)).2.2.1
      · intro b hb
        obtain ⟨i, hi, rfl⟩ := List.getElem_of_mem hb
        have hi' : i < len := by simpa using hi
        have e : (List.ofFn fun i => Classical.choose (each i))[i] = Classical.choose (each ⟨i, hi'⟩) := by simp
        rw [e]
        exact (Classical.choose_spec (each ⟨i, hi'⟩)).2.1
      · intro b hb
        obtain ⟨i, hi, rfl⟩ := List.getElem_of_mem hb
        have hi' : i < len := by simpa using hi
        have e : (List.ofFn fun i => Classical.choose (each i))[i] = Classical.choose (each ⟨i, hi'⟩) := by simp
        rw [e]
        exact (Classical.choose_spec (each ⟨i, hi'⟩)).2.2.2
      · have key := hw _ doc_weights
        have hby : 1 ≤ Tryz.prog.bytesOf 51 := by decide +kernel
        simp only [List.length_map, List.length_range, List.length_ofFn] at key ⊢
        have : len * 1 ≤ (len + (m - len)) * Tryz.prog.bytesOf 51 := Nat.mul_le_mul (by omega) hby
        omega
/-- a document as an argument -/
theorem doc_of {base : Nat} {v : Value} (hv : Value.okWide Tryz.prog W .any base 24 v) {u : Value} (h : v.cells.toList = [u]) : v = .agg #[u] := by
  obtain ⟨cs, rfl, _⟩ := Go.WideShapes.okWide_struct Tryz.underlying24 hv
  have : cs.toList = [u] := by simpa [Value.cells] using h
  congr 1
  exact Array.ext' this
end
end Go.Proofs.YtnbeomclmggbiaaGreatDoor
