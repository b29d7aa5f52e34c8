/- The law ChecksSteps, over any words. -/
import Derived.Test.YthgllfbigcoaiaaGreatDoorCk18
namespace Go.Proofs.YthgllfbigcoaiaaGreatDoor
open Go Go.RowKit Go.Lib
set_option maxRecDepth 100000
theorem one_words {l : List ByteArray} : ∀ u ∈ l.map Value.string, u.oneCell' = true := by
  intro u hu
  obtain ⟨_, _, rfl⟩ := List.mem_map.1 hu
  rfl
theorem edits_n (l m : List ByteArray) (vl vm : Value) (w : World) (hl : WdsAt w vl l) (hm : WdsAt w vm m) (h1 : l.length ≤ 40) (h2 : m.length ≤ 40) :
    Calls Tryz.prog 14 #[vl, vm] w fun e w' => (∃ ao ln cp, e = .returned (.tuple #[.slice ao ln cp, .int .i64 (dL l m 0 0), .int .u8 0])) ∧ Below w.heap.size w w' := by
  refine (edits_any l m vl vm w hl hm (by omega) (by omega)).mono ?_
  rintro e w' ⟨⟨xs, ao, cp, rfl, _, _, _⟩, hb⟩
  exact ⟨⟨_, _, _, rfl⟩, hb⟩
set_option maxHeartbeats 16000000 in
theorem steps_law (a b c : List ByteArray) (va vb vc : Value) (wd : ByteArray) (w : World) (ha : WdsAt w va a) (hb : WdsAt w vb b) (hc : WdsAt w vc c) (hwd : wd.size ≤ maxLen)
    (hS : ∀ w', Below w.heap.size w w' → Calls Tryz.prog 11 #[] w' fun e w'' => e = .returned (.bool true) ∧ Below w'.heap.size w' w'') :
    Calls Tryz.prog 6 #[va, vb, vc, .string wd] w fun e w' => e = .returned (.bool true) ∧ Below w.heap.size w w' := by
  by_cases hbig : 39 < a.length ∨ 39 < b.length ∨ 39 < c.length ∨ 100 < wd.size
  · exact steps_early a b c va vb vc wd w ha hb hc hwd hbig hS
  have HA := Lib.hid ha
  have HB := Lib.hid hb
  have HC := Lib.hid hc
  have HS := Lib.hid hS
  have HL := Lib.hid (lists_new w [(va, a), (vb, b), (vc, c)] 22 (by simp [ha, hb, hc]) (by simp))
  simp only [List.map_cons, List.map_nil, List.length_cons, List.length_nil, Nat.zero_add, Nat.reduceAdd] at HL
  have cM := fun w v h => many_any [(va, a), (vb, b), (vc, c)] v w h
  have hlenA := ha.len
  have hlenB := hb.len
  have hlenC := hc.len
  unfold maxLen at hlenA hlenB hlenC
  obtain ⟨i0, hi, hz0, hz1, hz2⟩ := info_parts info_word
  have hzAW : Hid (∀ s ∈ a ++ [wd], s.size ≤ maxLen) := fun s hs => by
    rcases List.mem_append.1 hs with h | h
    · exact ha.2 s h
    · rw [List.mem_singleton.1 h]; exact hwd
  have hzBW : Hid (∀ s ∈ b ++ [wd], s.size ≤ maxLen) := fun s hs => by
    rcases List.mem_append.1 hs with h | h
    · exact hb.2 s h
    · rw [List.mem_singleton.1 h]; exact hwd
  obtain ⟨⟨p, cap, rfl, hl, hcc, hrA⟩, hza⟩ := ha
  obtain ⟨⟨p2, cap2, rfl, hl2, hc2, hrB⟩, hzb⟩ := hb
  obtain ⟨⟨p3, cap3, rfl, hl3, hc3, hrC⟩, hzc⟩ := hc
  unfold maxLen at hcc hc2 hc3 hwd
  clear hS hrA hrB hrC hza hzb hzc
  have hal : a.length ≤ 39 := by omega
  have hbl : b.length ≤ 39 := by omega
  have hcl : c.length ≤ 39 := by omega
  have hwl : wd.size ≤ 100 := by omega
  have i1 : ¬ (39 : Int) < (a.length : Int) := by omega
  have i2 : ¬ (39 : Int) < (b.length : Int) := by omega
  have i3 : ¬ (39 : Int) < (c.length : Int) := by omega
  have i4 : ¬ (100 : Int) < (wd.size : Int) := by omega
  have cE := edits_any a b (.slice p a.length cap) (.slice p2 b.length cap2) (w.alloc (.cells #[.slice p a.length cap, .slice p2 b.length cap2, .slice p3 c.length cap3] 22)) (HA.out.step (below_box _)) (HB.out.step (below_box _)) (by omega) (by omega)
  clear hbig
  go_enter Tryz.func6, Tryz.ntmps6
  go_wp2_with (first
    | (go_at_call 10; (with_reducible refine (cM _ _ HL.out).mono ?_); rintro e w1 ⟨⟨B, rfl⟩, rfl⟩; cases B)
    | (go_at_call 11; (with_reducible refine (HS.out _ (below_box _)).mono ?_); rintro e w2 ⟨rfl, hb2⟩)
    | (go_at_call 14; (with_reducible refine cE.mono ?_); rintro e w2 ⟨⟨xs, ao, cpo, rfl, hst, hpa, hxl⟩, hb2⟩; have HW2 := Lib.hid (below_next (below_box _) hb2); have HST := Lib.hid hst; have HPA := Lib.hid hpa; clear hst hpa hb2))
  rotate_left
  · go_ret
    exact ⟨rfl, below_next (below_box _) hb2⟩
  clear cM HL cE
  have hn1024 : dL a b 0 0 ≤ 39 := Nat.le_trans (dL_le a b 0 0) (by omega)
  generalize hn : dL a b 0 0 = n at *
  have HN := Lib.hid hn
  clear hn
  go_loopw [12, 13, 14, 15, 16, 17] (fun iv kv cv xv _ _ wr => ∃ (x i k c1 cr : Nat), xv = .int .i64 x ∧ iv = .int .i64 i ∧ kv = .int .i64 k ∧ cv = .int .i64 c1 ∧ x ≤ xs.length ∧ c1 + cr = n ∧ Hid (PathE a b i k (xs.drop x) cr) ∧ Hid (Below w2.heap.size w2 wr))
    (fun _ _ _ xv _ _ _ => xs.length - (RowKit.intOf xv).toNat)
  case atStart => exact ⟨0, 0, 0, 0, n, rfl, rfl, rfl, rfl, Nat.zero_le _, by omega, HPA.out, Below.refl _ _⟩
  case round =>
    obtain ⟨x, i, k, c1, cr, rfl, rfl, rfl, rfl, hx, hcr, HP, HBW⟩ := hrel
    have HWr := Lib.hid (below_next HW2.out HBW.out)
    by_cases hlt : x < xs.length
    · have hdr : xs.drop x = xs.getD x 0 :: xs.drop (x + 1) := by
        rw [List.drop_eq_getElem_cons hlt, List.getD_eq_getElem?_getD, List.getElem?_eq_getElem hlt]; rfl
      have hp := HP.out
      rw [hdr] at hp
      obtain ⟨h4, hok, c', hc', hp2⟩ := hp.cons
      have HP2 := Lib.hid hp2
      have hin := cv_ok hok
      obtain ⟨q, cq, hq, hlq, hcq, hrow⟩ := HST.out.step HBW.out
      obtain ⟨rfl, rfl⟩ : ao = q ∧ cpo = cq := by simpa using hq
      obtain ⟨A, rfl, hA, hcell⟩ := hrow (by omega)
      have x0 : wr.cell? (A.add x) = some (.int .u8 (xs.getD x 0 : Nat)) := by
        have := hcell x 0 hlt (by omega)
        rwa [Nat.mul_one, Nat.add_zero] at this
      clear hcell hrow hq hp hp2 hdr HP
      unfold maxLen at hcq
      generalize xs.getD x 0 = s at *
      have hxi : (x : Int) < (xs.length : Int) := by omega
      have hk0 : s = 0 → i < a.length ∧ k < b.length ∧ a.getD i ⟨#[]⟩ = b.getD k ⟨#[]⟩ := by rintro rfl; exact keep_eq hok
      rcases (show s = 0 ∨ s = 1 ∨ s = 2 ∨ s = 3 by omega) with rfl | rfl | rfl | rfl
      · have HP2 : Hid (PathE a b (i + 1) (k + 1) (xs.drop (x + 1)) c') := HP2
        obtain ⟨hi1, hk1, he⟩ := hk0 rfl
        have hi2 : (i : Int) < (a.length : Int) := by omega
        have hk2 : (k : Int) < (b.length : Int) := by omega
        obtain ⟨⟨q1, cq1, hq1, hlq1, hcq1, hrow1⟩, _⟩ := HA.out.step HWr.out
        obtain ⟨rfl, _, rfl⟩ : p = q1 ∧ a.length = a.length ∧ cap = cq1 := by simpa using hq1
        obtain ⟨A1, rfl, hA1, hcell1⟩ := hrow1 (by omega)
        have y0 : wr.cell? (A1.add i) = some (.string (a.getD i ⟨#[]⟩)) := by
          have := hcell1 i 0 hi1 (by omega)
          rwa [Nat.mul_one, Nat.add_zero] at this
        obtain ⟨⟨q2, cq2, hq2, hlq2, hcq2, hrow2⟩, _⟩ := HB.out.step HWr.out
        obtain ⟨rfl, _, rfl⟩ : p2 = q2 ∧ b.length = b.length ∧ cap2 = cq2 := by simpa using hq2
        obtain ⟨A2, rfl, hA2, hcell2⟩ := hrow2 (by omega)
        have y1 : wr.cell? (A2.add k) = some (.string (b.getD k ⟨#[]⟩)) := by
          have := hcell2 k 0 hk1 (by omega)
          rwa [Nat.mul_one, Nat.add_zero] at this
        rw [he] at y0
        clear hcell1 hcell2 hrow1 hrow2 hq1 hq2 hcq1 hcq2 hlq1 hlq2
        generalize b.getD k ⟨#[]⟩ = sb at *
        go_wp2
        go_quiet (fail)
        clear hk0
        go_wp2
        go_quiet (fail)
        go_wp2
        go_roundw
        case rel =>
          have hst : stepC 0 = 0 := rfl
          exact ⟨x + 1, i + 1, k + 1, c1, c', by go_num, by go_num, by go_num, rfl, by omega, by omega, HP2.out, below_next HBW.out (bdN _ _)⟩
        case measure => simp [RowKit.intOf] <;> omega
      · have HP2 : Hid (PathE a b (i + 1) (k + 1) (xs.drop (x + 1)) c') := HP2
        have hst : stepC 1 = 1 := rfl
        have x0 : wr.cell? (A.add x) = some (.int .u8 1) := x0
        have hi1 : (i + 1) ≤ a.length := hin.1
        have hk1 : (k + 1) ≤ b.length := hin.2
        have hi2 : (i : Int) < (a.length : Int) := by omega
        have hk2 : (k : Int) < (b.length : Int) := by omega
        have hi3 : i < a.length := by omega
        have hk3 : k < b.length := by omega
        have hi4 : decide (a.length ≤ i) = false := decide_eq_false (by omega)
        have hk4 : decide (b.length ≤ k) = false := decide_eq_false (by omega)
        clear hk0
        go_wp2
        go_quiet (fail)
        go_wp2
        go_quiet (fail)
        go_wp2
        go_roundw
        case rel => exact ⟨x + 1, (i + 1), (k + 1), c1 + 1, c', by go_num, by go_num, by go_num, by go_num, by omega, by omega, HP2.out, below_next HBW.out (bdN _ _)⟩
        case measure => simp [RowKit.intOf] <;> omega
      · have HP2 : Hid (PathE a b (i + 1) k (xs.drop (x + 1)) c') := HP2
        have hst : stepC 2 = 1 := rfl
        have x0 : wr.cell? (A.add x) = some (.int .u8 2) := x0
        have hi1 : (i + 1) ≤ a.length := hin.1
        have hk1 : k ≤ b.length := hin.2
        have hi2 : (i : Int) < (a.length : Int) := by omega
        have hi3 : i < a.length := by omega
        have hi4 : decide (a.length ≤ i) = false := decide_eq_false (by omega)
        clear hk0
        go_wp2
        go_quiet (fail)
        go_wp2
        go_quiet (fail)
        go_wp2
        go_roundw
        case rel => exact ⟨x + 1, (i + 1), k, c1 + 1, c', by go_num, by go_num, rfl, by go_num, by omega, by omega, HP2.out, below_next HBW.out (bdN _ _)⟩
        case measure => simp [RowKit.intOf] <;> omega
      · have HP2 : Hid (PathE a b i (k + 1) (xs.drop (x + 1)) c') := HP2
        have hst : stepC 3 = 1 := rfl
        have x0 : wr.cell? (A.add x) = some (.int .u8 3) := x0
        have hi1 : i ≤ a.length := hin.1
        have hk1 : (k + 1) ≤ b.length := hin.2
        have hk2 : (k : Int) < (b.length : Int) := by omega
        have hk3 : k < b.length := by omega
        have hk4 : decide (b.length ≤ k) = false := decide_eq_false (by omega)
        clear hk0
        go_wp2
        go_quiet (fail)
        go_wp2
        go_quiet (fail)
        go_wp2
        go_roundw
        case rel => exact ⟨x + 1, i, (k + 1), c1 + 1, c', by go_num, rfl, by go_num, by go_num, by omega, by omega, HP2.out, below_next HBW.out (bdN _ _)⟩
        case measure => simp [RowKit.intOf] <;> omega
    · have hxe : x = xs.length := by omega
      have hp := HP.out
      rw [hxe, List.drop_length] at hp
      obtain ⟨rfl, rfl, rfl⟩ := hp.nil
      obtain rfl : c1 = n := by omega
      have hxi : ¬ (x : Int) < (xs.length : Int) := by omega
      clear hp HP hxe hlt hx hcr
      obtain ⟨wo, hwo⟩ : ∃ wo, wo = wr := ⟨_, rfl⟩
      subst hwo
      go_wp2
      have hq0 : Hid (((((a.length : Int) == (b.length : Int)) = true) → a.length = b.length ∧ a.take 0 = b.take 0) ∧ ((((a.length : Int) == (b.length : Int)) = false) → a ≠ b)) := by
        refine ⟨fun h => ⟨by have := eq_of_beq h; omega, by simp⟩, fun h e => ?_⟩
        rw [e] at h
        simp at h
      generalize ((a.length : Int) == (b.length : Int)) = q0 at *
      go_loopw [18, 19] (fun qv yv wr => ∃ (y : Nat) (q : Bool), y ≤ a.length ∧ yv = .int .i64 y ∧ qv = .bool q ∧ Hid ((q = true → a.length = b.length ∧ a.take y = b.take y) ∧ (q = false → a ≠ b)) ∧ Hid (Below w.heap.size w wr)) (fun _ yv _ => a.length - (RowKit.intOf yv).toNat)
      case atStart => exact ⟨0, q0, Nat.zero_le _, rfl, rfl, hq0.out, HWr.out⟩
      case round =>
        obtain ⟨y, q, hy, rfl, rfl, HQ, HW3⟩ := hrel
        by_cases hyq : y < a.length ∧ q = true
        · obtain ⟨hya, rfl⟩ := hyq
          obtain ⟨hab, htk⟩ := HQ.out.1 rfl
          have hyb : y < b.length := by omega
          have hyi : (y : Int) < (a.length : Int) := by omega
          have hyi2 : (y : Int) < (b.length : Int) := by omega
          obtain ⟨⟨q1, cq1, hq1, hlq1, hcq1, hrow1⟩, _⟩ := HA.out.step HW3.out
          obtain ⟨rfl, _, rfl⟩ : p = q1 ∧ a.length = a.length ∧ cap = cq1 := by simpa using hq1
          obtain ⟨A1, rfl, hA1, hcell1⟩ := hrow1 (by omega)
          have y0 : wr.cell? (A1.add y) = some (.string (a.getD y ⟨#[]⟩)) := by
            have := hcell1 y 0 hya (by omega)
            rwa [Nat.mul_one, Nat.add_zero] at this
          obtain ⟨⟨q2, cq2, hq2, hlq2, hcq2, hrow2⟩, _⟩ := HB.out.step HW3.out
          obtain ⟨rfl, _, rfl⟩ : p2 = q2 ∧ b.length = b.length ∧ cap2 = cq2 := by simpa using hq2
          obtain ⟨A2, rfl, hA2, hcell2⟩ := hrow2 (by omega)
          have y1 : wr.cell? (A2.add y) = some (.string (b.getD y ⟨#[]⟩)) := by
            have := hcell2 y 0 hyb (by omega)
            rwa [Nat.mul_one, Nat.add_zero] at this
          have hnext : Hid ((eqB (a.getD y ⟨#[]⟩) (b.getD y ⟨#[]⟩) = true → a.length = b.length ∧ a.take (y + 1) = b.take (y + 1)) ∧ (eqB (a.getD y ⟨#[]⟩) (b.getD y ⟨#[]⟩) = false → a ≠ b)) := by
            refine ⟨fun h => ⟨hab, ?_⟩, fun h e => ?_⟩
            · have e := eqB_iff.1 h
              rw [List.take_add_one, List.take_add_one, getD_some hya, getD_some hyb, htk, e]
            · rw [e] at h
              have := eqB_iff.2 (show b.getD y ⟨#[]⟩ = b.getD y ⟨#[]⟩ from rfl)
              rw [h] at this; cases this
          clear hcell1 hcell2 hrow1 hrow2 hq1 hq2 hcq1 hcq2 hlq1 hlq2 hab htk
          unfold eqB at hnext
          generalize a.getD y ⟨#[]⟩ = sa at *
          generalize b.getD y ⟨#[]⟩ = sb at *
          go_wp2
          go_quiet (fail)
          go_wp2
          go_roundw
          case rel => exact ⟨y + 1, _, by omega, by go_num, rfl, hnext.out, below_next HW3.out (bdN _ _)⟩
          case measure => simp [RowKit.intOf] <;> omega
        · have HQE : Hid (q = true ↔ a = b) := by
            cases q with
            | true =>
              obtain ⟨hab, htk⟩ := HQ.out.1 rfl
              have hya : y = a.length := by
                rcases Nat.lt_or_ge y a.length with h | h
                · exact absurd ⟨h, rfl⟩ hyq
                · omega
              rw [hya, List.take_length, hab, List.take_length] at htk
              exact ⟨fun _ => htk, fun _ => rfl⟩
            | false => exact ⟨fun h => (by cases h), fun h => absurd h (HQ.out.2 rfl)⟩
          clear HQ hq0
          have hs : dL b a 0 0 = c1 := (lev_symm b a).trans HN.out
          have ht : c1 ≤ dL a c 0 0 + dL c b 0 0 := by
            rw [← HN.out]; exact lev_tri a b c
          have hw4 : dL (a ++ [wd]) (b ++ [wd]) 0 0 = c1 := (lev_snoc a b wd).trans HN.out
          have hz : c1 = 0 ↔ a = b := by rw [← HN.out]; exact lev_zero a b
          have hge : a.length ≤ b.length + c1 ∧ b.length ≤ a.length + c1 := by rw [← HN.out]; exact lev_ge a b
          have hmx : c1 ≤ max a.length b.length := by rw [← HN.out]; exact lev_max a b
          have hqe : q = ((c1 : Int) == 0) := by
            cases q with
            | true => have := hz.2 (HQE.out.1 rfl); rw [this]; rfl
            | false =>
              have : ¬ c1 = 0 := fun h => by have := HQE.out.2 (hz.1 h); cases this
              simp; omega
          have cBA := fun w' h1 h2 => edits_n b a (.slice p2 b.length cap2) (.slice p a.length cap) w' h1 h2 (by omega) (by omega)
          have cAC := fun w' h1 h2 => edits_n a c (.slice p a.length cap) (.slice p3 c.length cap3) w' h1 h2 (by omega) (by omega)
          have cCB := fun w' h1 h2 => edits_n c b (.slice p3 c.length cap3) (.slice p2 b.length cap2) w' h1 h2 (by omega) (by omega)
          have cWW := fun v1 v2 w' h1 h2 => edits_n (a ++ [wd]) (b ++ [wd]) v1 v2 w' h1 h2 (by simp; omega) (by simp; omega)
          rw [hs] at cBA
          rw [hw4] at cWW
          have ho1 : dL a c 0 0 ≤ 39 := Nat.le_trans (dL_le a c 0 0) (by omega)
          have ho2 : dL c b 0 0 ≤ 39 := Nat.le_trans (dL_le c b 0 0) (by omega)
          generalize dL a c 0 0 = o1 at *
          generalize dL c b 0 0 = o2 at *
          subst hqe
          have hq3 : (¬ y < a.length) ∨ (y < a.length ∧ ((c1 : Int) == 0) = false) := by
            rcases Nat.lt_or_ge y a.length with h | h
            · exact .inr ⟨h, by cases e : ((c1 : Int) == 0) with | true => exact absurd ⟨h, e⟩ hyq | false => rfl⟩
            · exact .inl (by omega)
          have j1 : (c1 : Int) ≤ (o1 : Int) + (o2 : Int) := by omega
          have j2 : (c1 : Int) ≤ max (a.length : Int) (b.length : Int) := by omega
          have j3 : max ((a.length : Int) - (b.length : Int)) ((b.length : Int) - (a.length : Int)) ≤ (c1 : Int) := by omega
          clear hyq HQE hs hw4 hz
          rcases hq3 with hy2 | ⟨hy2, hqz⟩
          case' inl => have hyi : ¬ (y : Int) < (a.length : Int) := by omega
          case' inr => have hyi : (y : Int) < (a.length : Int) := by omega
          all_goals
            go_wp2_with (first
              | (go_at_call 11; (with_reducible refine (HS.out _ HW11.out).mono ?_); rintro e w12 ⟨rfl, hb12⟩; have HW12 := Lib.hid (below_next HW11.out hb12); clear hb12)
              | (go_at_call 14; (with_reducible refine (cWW _ _ _ (HV8.out.step HB10.out) HV10.out).mono ?_); rintro e w11 ⟨⟨ao11, ln11, cp11, rfl⟩, hb11⟩; have HW11 := Lib.hid (below_next HW10.out hb11); clear hb11)
              | (go_at_call 14; (with_reducible refine (cCB _ (HC.out.step HW5.out) (HB.out.step HW5.out)).mono ?_); rintro e w6 ⟨⟨ao6, ln6, cp6, rfl⟩, hb6⟩; have HW6 := Lib.hid (below_next HW5.out hb6); clear hb6
                 have HE6 : Hid ((w6.alloc (.cells #[] 9)).ownsRow w6.heap.size 9 1 (.slice (some ⟨w6.heap.size, 0, none⟩) 0 0) 0 []) := OwnS.new w6
                 have HA6 := Lib.hid (wds_src (HA.out.step (HW6.out.alloc HW6.out.size (.cells #[] 9)))))
              | (go_at_call 14; (with_reducible refine (cAC _ (HA.out.step HW4.out) (HC.out.step HW4.out)).mono ?_); rintro e w5 ⟨⟨ao5, ln5, cp5, rfl⟩, hb5⟩; have HW5 := Lib.hid (below_next HW4.out hb5); clear hb5)
              | (go_at_call 14; (with_reducible refine (cBA _ (HB.out.step HW3.out) (HA.out.step HW3.out)).mono ?_); rintro e w4 ⟨⟨ao4, ln4, cp4, rfl⟩, hb4⟩; have HW4 := Lib.hid (below_next HW3.out hb4); clear hb4)
              | (at_builtin; refine app_any _ rfl _ _ 22 rfl w8.heap.size 9 i0 (.string ⟨#[]⟩) 16 Tryz.underlying22 hi hz0 hz1 hz2 rfl _ _ _ rfl (HK9.out.alloc _) (some ⟨w9.heap.size, 0, none⟩) 1 1 [.string wd] rfl rfl (fun h => by cases h) (fun ad had => by cases had; exact cell_new1 _ _ _) (fun x hx => by simp at hx; subst hx; rfl) (by unfold maxLen; omega) (by omega) (Nat.le_trans HB9.out.size (by simp)) ?_; intro v10 w10 hown10 hgrow10
                 have HB10 := Lib.hid ((HB9.out.alloc HB9.out.size (.cells #[.string wd] 9)).grown hgrow10 (Nat.le_trans HB9.out.size (by simp)) (fun k hk => (HK9.out.lt k hk).1))
                 have HK10 : Hid (OwnS w8.heap.size v10 (b ++ [wd]) w10) := by unfold OwnS Hid; rw [List.length_append, List.map_append]; exact hown10
                 have HV10 := Lib.hid (HK10.out.at hzBW.out)
                 obtain ⟨ao10, cap10, rfl⟩ := HK10.out.form
                 rw [List.length_append, List.length_singleton] at HV10
                 have HW10 := Lib.hid (below_next HW8.out HB10.out)
                 clear hown10 hgrow10)
              | (at_builtin; refine app_any _ rfl _ _ 22 rfl w8.heap.size 9 i0 (.string ⟨#[]⟩) 16 Tryz.underlying22 hi hz0 hz1 hz2 rfl _ _ _ rfl HE8.out p2 b.length cap2 (b.map Value.string) rfl (by simp) HB8s.out.1 HB8s.out.2 one_words (by unfold maxLen; omega) (by omega) (by simp) ?_; intro v9 w9 hown9 hgrow9
                 have HB9 := Lib.hid (((Below.refl w8.heap.size w8).alloc (Nat.le_refl _) (.cells #[] 9)).grown hgrow9 (by simp) (fun k hk => (HE8.out.lt k hk).1))
                 have HK9 : Hid (OwnS w8.heap.size v9 b w9) := by unfold OwnS Hid; rw [Nat.zero_add, List.nil_append] at hown9; exact hown9
                 obtain ⟨ao9, cap9, rfl⟩ := HK9.out.form
                 unfold OwnS at HK9
                 clear hown9 hgrow9)
              | (at_builtin; refine app_any _ rfl _ _ 22 rfl w6.heap.size 9 i0 (.string ⟨#[]⟩) 16 Tryz.underlying22 hi hz0 hz1 hz2 rfl _ _ _ rfl (HK7.out.alloc _) (some ⟨w7.heap.size, 0, none⟩) 1 1 [.string wd] rfl rfl (fun h => by cases h) (fun ad had => by cases had; exact cell_new1 _ _ _) (fun x hx => by simp at hx; subst hx; rfl) (by unfold maxLen; omega) (by omega) (Nat.le_trans HB7.out.size (by simp)) ?_; intro v8 w8 hown8 hgrow8
                 have HB8 := Lib.hid ((HB7.out.alloc HB7.out.size (.cells #[.string wd] 9)).grown hgrow8 (Nat.le_trans HB7.out.size (by simp)) (fun k hk => (HK7.out.lt k hk).1))
                 have HK8 : Hid (OwnS w6.heap.size v8 (a ++ [wd]) w8) := by unfold OwnS Hid; rw [List.length_append, List.map_append]; exact hown8
                 have HV8 := Lib.hid (HK8.out.at hzAW.out)
                 obtain ⟨ao8, cap8, rfl⟩ := HK8.out.form
                 rw [List.length_append, List.length_singleton] at HV8
                 have HW8 := Lib.hid (below_next HW6.out HB8.out)
                 have HE8 : Hid ((w8.alloc (.cells #[] 9)).ownsRow w8.heap.size 9 1 (.slice (some ⟨w8.heap.size, 0, none⟩) 0 0) 0 []) := OwnS.new w8
                 have HB8s := Lib.hid (wds_src (HB.out.step (HW8.out.alloc HW8.out.size (.cells #[] 9))))
                 clear hown8 hgrow8)
              | (at_builtin; refine app_any _ rfl _ _ 22 rfl w6.heap.size 9 i0 (.string ⟨#[]⟩) 16 Tryz.underlying22 hi hz0 hz1 hz2 rfl _ _ _ rfl HE6.out p a.length cap (a.map Value.string) rfl (by simp) HA6.out.1 HA6.out.2 one_words (by unfold maxLen; omega) (by omega) (by simp) ?_; intro v7 w7 hown7 hgrow7
                 have HB7 := Lib.hid (((Below.refl w6.heap.size w6).alloc (Nat.le_refl _) (.cells #[] 9)).grown hgrow7 (by simp) (fun k hk => (HE6.out.lt k hk).1))
                 have HK7 : Hid (OwnS w6.heap.size v7 a w7) := by unfold OwnS Hid; rw [Nat.zero_add, List.nil_append] at hown7; exact hown7
                 obtain ⟨ao7, cap7, rfl⟩ := HK7.out.form
                 unfold OwnS at HK7
                 clear hown7 hgrow7))
            go_ret
            exact ⟨rfl, HW12.out⟩
end Go.Proofs.YthgllfbigcoaiaaGreatDoor
