/- Which lists of pieces, and which documents, are equal, as the specification tells it. The law DocsParses over any text, given that the layer's examples hold. -/
import Derived.Test.YtnbeomclmggbiaaGreatDoorDoA
import Derived.Test.YtnbeomclmggbiaaGreatDoorDoB
namespace Go.Proofs.YtnbeomclmggbiaaGreatDoor
open Go Go.RowKit
set_option maxRecDepth 100000
def pcEq (x y : Pc) : Bool := decide (x.k = y.k) && decide (x.s.toList = y.s.toList) && decide (x.c = y.c)
/-- the first k pieces are equal -/
def eqP (l m : List Pc) (k : Nat) : Prop := ∀ i, i < k → pcEq (l.getD i nil) (m.getD i nil) = true
def samP (l m : List Pc) : Bool := decide (l.length = m.length) && (List.range l.length).all fun i => pcEq (l.getD i nil) (m.getD i nil)
theorem samP_len {l m : List Pc} (h : l.length ≠ m.length) : samP l m = false := by unfold samP; simp [h]
theorem samP_at {l m : List Pc} {k : Nat} (hk : k < l.length) (h : pcEq (l.getD k nil) (m.getD k nil) = false) : samP l m = false := by
  unfold samP
  have : (List.range l.length).all (fun i => pcEq (l.getD i nil) (m.getD i nil)) = false := by
    rw [List.all_eq_false]
    exact ⟨k, List.mem_range.2 hk, by rw [h]; simp⟩
  rw [this, Bool.and_false]
theorem samP_all {l m : List Pc} (hl : l.length = m.length) (h : eqP l m l.length) : samP l m = true := by
  unfold samP
  rw [decide_eq_true hl, Bool.true_and, List.all_eq_true]
  exact fun i hi => h i (List.mem_range.1 hi)
theorem pcEq_refl (x : Pc) : pcEq x x = true := by unfold pcEq; simp
theorem samP_refl (l : List Pc) : samP l l = true := samP_all rfl fun _ _ => pcEq_refl _
set_option maxHeartbeats 8000000 in
theorem samePcs_any (l m : List Pc) (u v : Value) (w : World) (hu : PcsAt w u l) (hv : PcsAt w v m) :
    Calls Tryz.prog 28 #[u, v] w fun e w' => e = .returned (.bool (samP l m)) ∧ ∃ n, w' = w.drewN n := by
  obtain ⟨p, cap, rfl, hl1, hc, hrow⟩ := hu
  obtain ⟨q, cap2, rfl, hl2, hc2, hrow2⟩ := hv
  unfold maxLen at hc hc2
  have ag := Tryz.isAgg56
  have zg := Tryz.sizeOf56
  have HR := Lib.hid hrow
  have HR2 := Lib.hid hrow2
  clear hrow hrow2
  by_cases hlen : l.length = m.length
  · have HL := Lib.hid hlen
    have HA := Lib.hid (fun h => samP_all hlen h)
    rw [← hlen]
    clear hlen
    go_enter Tryz.func28, Tryz.ntmps28
    go_wp2
    go_loopw [5] (fun i wr => ∃ k : Nat, k ≤ l.length ∧ i = .int .i64 k ∧ Hid (eqP l m k) ∧ ∃ n, wr = w.drewN n) (fun i _ => l.length - (intOf i).toNat)
    case atStart => exact ⟨0, Nat.zero_le _, rfl, fun i h => by omega, 0, rfl⟩
    case round =>
      obtain ⟨k, hk, rfl, HE, n, rfl⟩ := hrel
      obtain ⟨w1, hw1⟩ : ∃ w1, w1 = w.drewN n := ⟨_, rfl⟩
      have HW := Lib.hid hw1
      by_cases hlt : k < l.length
      · have hlt2 : k < m.length := by have := HL.out; omega
        obtain ⟨A, rfl, hA, hcell⟩ := HR.out (by omega)
        obtain ⟨A2, rfl, hA2, hcell2⟩ := HR2.out (by omega)
        have hb : Below w.heap.size w w1 := by rw [hw1]; exact ⟨rfl, rfl, rfl, Nat.le_refl _, fun _ _ => rfl⟩
        obtain ⟨x0, x1, x2⟩ := pcs_cellsB hA hcell hlt hb
        obtain ⟨z0, z1, z2⟩ := pcs_cellsB hA2 hcell2 hlt2 hb
        have HF := Lib.hid (fun h => samP_at (l := l) (m := m) (k := k) hlt h)
        have HS : Hid (pcEq (l.getD k nil) (m.getD k nil) = true → eqP l m (k + 1)) := fun h i hi => by
          rcases Nat.lt_succ_iff_lt_or_eq.1 hi with h' | rfl
          · exact HE.out i h'
          · exact h
        rw [← hw1]
        clear hcell hcell2 hw1 hb
        generalize l.getD k nil = x at *
        generalize m.getD k nil = y at *
        obtain ⟨xk, xs, xc⟩ := x
        obtain ⟨yk, ys, yc⟩ := y
        by_cases e1 : xk = yk <;> by_cases e2 : xs.toList = ys.toList <;> by_cases e3 : xc = yc
        all_goals first
          | (have HF2 := Lib.hid (HF.out (by unfold pcEq; simp [e1, e2, e3]))
             clear HF HS
             go_wp2
             go_quiet (fail)
             go_wp2
             go_ret
             exact ⟨ret_bool HF2.out.symm, n + nq, by rw [HW.out, World.drewN_drewN]⟩)
          | (have HS2 := Lib.hid (HS.out (by unfold pcEq; simp [e1, e2, e3]))
             clear HF HS
             go_wp2
             go_quiet (fail)
             go_wp2
             go_roundw
             case rel => exact ⟨k + 1, by omega, by go_num, HS2.out, n + nq, by rw [HW.out, World.drewN_drewN]⟩
             case measure => simp [intOf]; omega)
      · have hkl : k = l.length := by omega
        subst hkl
        rw [← hw1]
        clear hw1
        go_wp2
        go_ret
        exact ⟨ret_bool (HA.out HE.out).symm, n, HW.out⟩
  · have HX := Lib.hid (samP_len hlen)
    have hlI : ((l.length : Int) == (m.length : Int)) = false := by simpa using (show ((l.length : Nat) : Int) ≠ ((m.length : Nat) : Int) by omega)
    clear hlen
    go_enter Tryz.func28, Tryz.ntmps28
    go_wp2
    go_ret
    exact ⟨ret_bool HX.out.symm, 0, rfl⟩
/-- equal documents -/
def bkEq (x y : Bk) : Bool := decide (x.k = y.k) && samP x.l y.l
def eqK (bs cs : List Bk) (k : Nat) : Prop := ∀ i, i < k → bkEq (bs.getD i nilB) (cs.getD i nilB) = true
def samK (bs cs : List Bk) : Bool := decide (bs.length = cs.length) && (List.range bs.length).all fun i => bkEq (bs.getD i nilB) (cs.getD i nilB)
theorem samK_len {bs cs : List Bk} (h : bs.length ≠ cs.length) : samK bs cs = false := by unfold samK; simp [h]
theorem samK_at {bs cs : List Bk} {k : Nat} (hk : k < bs.length) (h : bkEq (bs.getD k nilB) (cs.getD k nilB) = false) : samK bs cs = false := by
  unfold samK
  have : (List.range bs.length).all (fun i => bkEq (bs.getD i nilB) (cs.getD i nilB)) = false := by
    rw [List.all_eq_false]
    exact ⟨k, List.mem_range.2 hk, by rw [h]; simp⟩
  rw [this, Bool.and_false]
theorem samK_all {bs cs : List Bk} (hl : bs.length = cs.length) (h : eqK bs cs bs.length) : samK bs cs = true := by
  unfold samK
  rw [decide_eq_true hl, Bool.true_and, List.all_eq_true]
  exact fun i hi => h i (List.mem_range.1 hi)
theorem samK_refl (bs : List Bk) : samK bs bs = true := samK_all rfl fun i _ => by unfold bkEq; rw [samP_refl]; simp
/-- the cells of one block of a list -/
theorem bks_cells {w : World} {A : Addr} {bs : List Bk} {us : List Value} {k : Nat} {wr : World} (hA : A.block < w.heap.size) (hcell : ∀ i j, i < bs.length → j < 2 → w.cell? (A.add (i * 2 + j)) = some (bkF bs us i j)) (hlt : k < bs.length) (hb : Below w.heap.size w wr) :
    wr.cell? (A.add (k * 2)) = some (.int .u8 (bs.getD k nilB).k) ∧ wr.cell? { block := (A.add (k * 2)).block, off := (A.add (k * 2)).off + 1 } = some (us.getD k nilV) := by
  have hAb : (A.add (k * 2)).block < w.heap.size := by rw [add_block]; exact hA
  refine ⟨?_, ?_⟩
  · rw [hb.cell hAb]; have := hcell k 0 hlt (by omega); simpa [bkF] using this
  · rw [hb.cell (p := { block := (A.add (k * 2)).block, off := (A.add (k * 2)).off + 1 }) hAb]; have := cell_off (by omega) (hcell k 1 hlt (by omega)); simpa [bkF] using this
theorem below_drewsS {w w' : World} (h : ∃ n, w' = w.drewN n) : Below w.heap.size w w' := by
  obtain ⟨n, rfl⟩ := h
  exact ⟨rfl, rfl, rfl, Nat.le_refl _, fun _ _ => rfl⟩
/-- a document in its own cell -/
def DBox (b : Nat) (v : Value) (w : World) : Prop := w.cell? ⟨b, 0, none⟩ = some v ∧ b < w.heap.size
theorem DBox.step {b : Nat} {v : Value} {w w' : World} (h : DBox b v w) (hb : Below w.heap.size w w') : DBox b v w' :=
  ⟨by rw [hb.cell (p := ⟨b, 0, none⟩) h.2]; exact h.1, Nat.lt_of_lt_of_le h.2 hb.size⟩
theorem DBox.two (w : World) (u v : Value) (t t' : TypeId) : DBox w.heap.size u ((w.alloc (.cells #[u] t)).alloc (.cells #[v] t')) ∧ DBox (w.heap.size + 1) v ((w.alloc (.cells #[u] t)).alloc (.cells #[v] t')) := by
  have h : DBox w.heap.size u (w.alloc (.cells #[u] t)) := ⟨by simp, by simp⟩
  refine ⟨h.step (below_box _), ?_, by simp⟩
  simp
theorem below_two (w : World) (o o' : Obj) : Below w.heap.size w ((w.alloc o).alloc o') := ((Below.refl _ _).alloc (Nat.le_refl _) _).alloc (by simp) _
theorem pcs_form {w : World} {u : Value} {l : List Pc} (h : PcsAt w u l) : ∃ ao cap, u = .slice ao l.length cap := by
  obtain ⟨p, cap, rfl, _⟩ := h
  exact ⟨p, cap, rfl⟩
set_option maxHeartbeats 8000000 in
theorem refSame_any (bs cs : List Bk) (u v : Value) (w : World) (hu : BksAt w u bs) (hv : BksAt w v cs) :
    Calls Tryz.prog 14 #[.agg #[u], .agg #[v]] w fun e w' => e = .returned (.bool (samK bs cs)) ∧ Below w.heap.size w w' := by
  obtain ⟨us, hul, ⟨p, cap, rfl, hl1, hc, hrow⟩, hup⟩ := hu
  obtain ⟨vs, hvl, ⟨q, cap2, rfl, hl2, hc2, hrow2⟩, hvp⟩ := hv
  unfold maxLen at hc hc2
  have ag := Tryz.isAgg51
  have zg := Tryz.sizeOf51
  have ag2 := Tryz.isAgg24
  have zg2 := Tryz.sizeOf24
  have HR := Lib.hid hrow
  have HR2 := Lib.hid hrow2
  have HU := Lib.hid hup
  have HV := Lib.hid hvp
  clear hrow hrow2 hup hvp
  by_cases hlen : bs.length = cs.length
  · have HL := Lib.hid hlen
    have HA := Lib.hid (fun h => samK_all hlen h)
    rw [← hlen]
    clear hlen
    go_enter Tryz.func14, Tryz.ntmps14
    go_wp2
    go_loopw [5] (fun i wr => ∃ k : Nat, k ≤ bs.length ∧ i = .int .i64 k ∧ Hid (eqK bs cs k) ∧ Hid (DBox w.heap.size (.slice p bs.length cap) wr) ∧ Hid (DBox (w.heap.size + 1) (.slice q bs.length cap2) wr) ∧ Hid (Below w.heap.size w wr)) (fun i _ => bs.length - (intOf i).toNat)
    case atStart => exact ⟨0, Nat.zero_le _, rfl, fun i h => by omega, (DBox.two w _ _ _ _).1, (DBox.two w _ _ _ _).2, below_two _ _ _⟩
    case round =>
      obtain ⟨k, hk, rfl, HE, H1, H2, HB⟩ := hrel
      have b1 := H1.out.1
      have b2 := H2.out.1
      by_cases hlt : k < bs.length
      · have hlt2 : k < cs.length := by have := HL.out; omega
        obtain ⟨A, rfl, hA, hcell⟩ := HR.out (by omega)
        obtain ⟨A2, rfl, hA2, hcell2⟩ := HR2.out (by omega)
        obtain ⟨x0, x1⟩ := bks_cells hA hcell hlt HB.out
        obtain ⟨z0, z1⟩ := bks_cells hA2 hcell2 hlt2 HB.out
        have hp1 := (HU.out k hlt)
        have hp2 := (HV.out k hlt2)
        obtain ⟨ao, ca, e1⟩ := pcs_form hp1
        obtain ⟨ao2, ca2, e2⟩ := pcs_form hp2
        rw [e1] at x1 hp1
        rw [e2] at z1 hp2
        have HF := Lib.hid (fun h => samK_at (bs := bs) (cs := cs) (k := k) hlt h)
        have HS : Hid (bkEq (bs.getD k nilB) (cs.getD k nilB) = true → eqK bs cs (k + 1)) := fun h i hi => by
          rcases Nat.lt_succ_iff_lt_or_eq.1 hi with h' | rfl
          · exact HE.out i h'
          · exact h
        have cS := fun n => samePcs_any (bs.getD k nilB).l (cs.getD k nilB).l _ _ (wr.drewN n) (hp1.step (below_next HB.out (below_drewsS ⟨n, rfl⟩))) (hp2.step (below_next HB.out (below_drewsS ⟨n, rfl⟩)))
        clear hcell hcell2 hp1 hp2 e1 e2
        generalize bs.getD k nilB = x at *
        generalize cs.getD k nilB = y at *
        obtain ⟨xk, xl⟩ := x
        obtain ⟨yk, yl⟩ := y
        simp only at x0 x1 z0 z1 cS
        by_cases e1 : xk = yk
        · generalize hsm : samP xl yl = sm at cS
          subst e1
          cases sm
          · have HF2 := Lib.hid (HF.out (by unfold bkEq; simp [hsm]))
            clear HF HS hsm
            go_wp2
            go_quiet ((go_at_call 28; refine Calls.quiet_of (cS _)))
            go_wp2
            go_ret
            exact ⟨ret_bool HF2.out.symm, below_next HB.out (below_drewsS ⟨nq, rfl⟩)⟩
          · have HS2 := Lib.hid (HS.out (by unfold bkEq; simp [hsm]))
            clear HF HS hsm
            go_wp2
            go_quiet ((go_at_call 28; refine Calls.quiet_of (cS _)))
            go_wp2
            go_roundw
            case rel => exact ⟨k + 1, by omega, by go_num, HS2.out, H1.out.step (below_drewsS ⟨nq, rfl⟩), H2.out.step (below_drewsS ⟨nq, rfl⟩), below_next HB.out (below_drewsS ⟨nq, rfl⟩)⟩
            case measure => simp [intOf]; omega
        · have HF2 := Lib.hid (HF.out (by unfold bkEq; simp [e1]))
          have hk1 : (xk == yk) = false := by simpa using e1
          clear HF HS
          go_wp2
          go_quiet (fail)
          go_wp2
          go_ret
          exact ⟨ret_bool HF2.out.symm, below_next HB.out (below_drewsS ⟨nq, rfl⟩)⟩
      · have hkl : k = bs.length := by omega
        subst hkl
        go_wp2
        go_ret
        exact ⟨ret_bool (HA.out HE.out).symm, HB.out⟩
  · have HX := Lib.hid (samK_len hlen)
    have hlI : ((bs.length : Int) == (cs.length : Int)) = false := by simpa using (show ((bs.length : Nat) : Int) ≠ ((cs.length : Nat) : Int) by omega)
    clear hlen
    go_enter Tryz.func14, Tryz.ntmps14
    go_wp2
    go_ret
    exact ⟨ret_bool HX.out.symm, below_two _ _ _⟩
end Go.Proofs.YtnbeomclmggbiaaGreatDoor
namespace Go.Proofs.YtnbeomclmggbiaaGreatDoor
open Go Go.RowKit
set_option maxRecDepth 100000
noncomputable def paB (s : ByteArray) : List Bk := match docV s.data.toList with
  | .ok bs => bs
  | .error _ => []
noncomputable def paN (s : ByteArray) : Int := match docV s.data.toList with
  | .ok _ => 0
  | .error (n, _) => (n : Nat)
noncomputable def paZ (s : ByteArray) : Int := match docV s.data.toList with
  | .ok _ => 0
  | .error (_, z) => z
theorem bks_form {w : World} {v : Value} {bs : List Bk} (h : BksAt w v bs) : ∃ ao cap, v = .slice ao bs.length cap := by
  obtain ⟨us, _, ⟨p, cap, rfl, _⟩, _⟩ := h
  exact ⟨p, cap, rfl⟩
theorem PaEnd.all {s : ByteArray} {e : Ending} {w' : World} (h : PaEnd s e w') : ∃ v, e = .returned (.tuple #[.agg #[v], .int .i64 (paN s), .int .u8 (paZ s)]) ∧ BksAt w' v (paB s) := by
  unfold paN paZ paB
  cases hv : docV s.data.toList with
  | ok bs =>
    obtain ⟨v, h1, h2, _⟩ := h.good hv
    exact ⟨v, h1, h2⟩
  | error p =>
    obtain ⟨n, z⟩ := p
    exact ⟨.slice none 0 0, h.error hv, bks_nil _⟩
set_option maxHeartbeats 16000000 in
theorem parses_law (s : ByteArray) (w : World) (hE : Env w)
    (hR : ∀ w', Below w.heap.size w w' → Calls Tryz.prog 8 #[] w' fun e w'' => e = .returned (.bool true) ∧ Below w'.heap.size w' w'') :
    Calls Tryz.prog 4 #[.string s] w fun e w' => e = .returned (.bool true) ∧ Below w.heap.size w w' := by
  have cR0 := hR w (Below.refl _ _)
  have ag2 := Tryz.isAgg24
  have zg2 := Tryz.sizeOf24
  by_cases hs : 3500 < s.size
  · have hsI : (3500 : Int) < (s.size : Int) := by omega
    go_enter Tryz.func4, Tryz.ntmps4
    go_wp2_with (go_at_call 8; (with_reducible refine cR0.mono ?_); rintro e w8 ⟨rfl, hb8⟩)
    go_ret
    exact ⟨rfl, hb8⟩
  have hsI : ¬ (3500 : Int) < (s.size : Int) := by omega
  have cA := parse_any s w (by omega) hE
  have cB := fun wr => refParse_any s wr (by omega)
  have fin := Lib.hid (fun e wr (h : PaEnd s e wr) => h.all)
  generalize paB s = bs at fin
  generalize paN s = N at fin
  generalize paZ s = Z at fin
  clear hE cR0
  go_enter Tryz.func4, Tryz.ntmps4
  go_wp2_with (first
    | (go_at_call 15; (with_reducible refine cA.mono ?_); rintro e w2 ⟨he2, hb2⟩; obtain ⟨v2, rfl, hp2⟩ := fin.out _ _ he2; obtain ⟨ao2, ca2, rfl⟩ := bks_form hp2; have HP2 := Lib.hid (hp2.step (below_box (.cells #[.slice ao2 bs.length ca2] 24))); have HB2 := Lib.hid (below_next hb2 (below_box (.cells #[.slice ao2 bs.length ca2] 24))); have HD2 := Lib.hid (show DBox w2.heap.size (.slice ao2 bs.length ca2) (w2.alloc (.cells #[.slice ao2 bs.length ca2] 24)) from ⟨by simp, by simp⟩); clear hb2 he2 hp2)
    | (go_at_call 16; (with_reducible refine (cB _).mono ?_); rintro e w3 ⟨he3, hb3⟩; obtain ⟨v3, rfl, hp3⟩ := fin.out _ _ he3; obtain ⟨ao3, ca3, rfl⟩ := bks_form hp3
       have d3 := ((HD2.out.step hb3).step (below_box (.cells #[.slice ao3 bs.length ca3] 24))).1; have HB3 := Lib.hid (below_next (below_next HB2.out hb3) (below_box (.cells #[.slice ao3 bs.length ca3] 24)))
       have cS := refSame_any bs bs _ _ _ ((HP2.out.step hb3).step (below_box (.cells #[.slice ao3 bs.length ca3] 24))) (hp3.step (below_box (.cells #[.slice ao3 bs.length ca3] 24))); rw [samK_refl] at cS; clear hb3 he3 hp3)
    | (go_at_call 14; (with_reducible refine cS.mono ?_); rintro e w6 ⟨rfl, hb6⟩; have HB6 := Lib.hid (below_next HB3.out hb6); clear hb6)
    | (go_at_call 8; (with_reducible refine (hR _ HB6.out).mono ?_); rintro e w8 ⟨rfl, hb8⟩; have HB8 := Lib.hid (below_next HB6.out hb8); clear hb8))
  go_ret
  exact ⟨rfl, HB8.out⟩
end Go.Proofs.YtnbeomclmggbiaaGreatDoor
