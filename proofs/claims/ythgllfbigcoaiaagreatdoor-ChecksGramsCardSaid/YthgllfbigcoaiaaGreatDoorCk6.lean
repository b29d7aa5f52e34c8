/- Matches of two lists, by the program. -/
import Derived.Test.YthgllfbigcoaiaaGreatDoorCk5
import Derived.Deep.RegionWith
namespace Go.Proofs.YthgllfbigcoaiaaGreatDoor
open Go Go.RowKit Go.Lib
set_option maxRecDepth 100000
theorem below_grown {B m : Nat} {w wr w' : World} (h : Below B w wr) (hg : wr.grownBy w' (some m)) (hm : B ≤ m) (hB : B ≤ wr.heap.size) : Below B w w' :=
  ⟨hg.os.trans h.os, hg.tape.trans h.tape, hg.output.trans h.output, Nat.le_trans h.size hg.size, fun j hj => (hg.block j (Nat.lt_of_lt_of_le hj hB) (by simp; omega)).trans (h.block j hj)⟩
theorem gramsN_nat (len N : Nat) : gramsN len (N : Int) = ((len + 1 - N : Nat) : Int) := by
  unfold gramsN
  omega
theorem gramsQ_get {l : List ByteArray} {N k : Nat} (h : k < l.length + 1 - N) : (gramsQ l N)[k]? = some (gq l N k) := by
  unfold gramsQ
  rw [List.getElem?_map, List.getElem?_range h]
  rfl
theorem gramsQ_take {l : List ByteArray} {N k : Nat} (h : k < l.length + 1 - N) : (gramsQ l N).take (k + 1) = (gramsQ l N).take k ++ [gq l N k] := by
  rw [List.take_add_one, gramsQ_get h]; rfl
theorem gramsQ_drop {l : List ByteArray} {N k : Nat} (h : k < l.length + 1 - N) : (gramsQ l N).drop k = gq l N k :: (gramsQ l N).drop (k + 1) := by
  have := gramsQ_get h
  rw [List.drop_eq_getElem_cons (by rw [gramsQ_length]; exact h)]
  rw [List.getElem?_eq_getElem (by rw [gramsQ_length]; exact h)] at this
  rw [Option.some.inj this]
theorem gq_ok {l : List ByteArray} (h : ∀ s ∈ l, s.size ≤ maxLen) (N k : Nat) : okQ (gq l N k) := by
  have key : ∀ i, (((l.drop k).take N).getD i ⟨#[]⟩).size ≤ maxLen := by
    intro i
    rw [List.getD_eq_getElem?_getD]
    cases e : ((l.drop k).take N)[i]? with
    | none => exact Nat.zero_le _
    | some s => exact h s (List.mem_of_mem_drop (List.mem_of_mem_take (List.mem_of_getElem? e)))
  exact ⟨key 0, key 1, key 2, key 3⟩
theorem cn_le {G : Type} [DecidableEq G] (l : List G) (g : G) : cn l g ≤ l.length := List.count_le_length
/-- an entry's steps, in the walk's spelling: the key spelt out -/
theorem CntIs.entryI {w : World} {b N : Nat} {c : Q4 → Nat} (h : CntIs w b N c) {q : Q4} (hq : okQ q) (hN : N < 1000000) (x : Int) (m : Nat) (hx : x = (m : Int)) : ∃ (v0 sv : Value) (w1 w3 : World),
    (Instr.lookup 71 (.map (some b)) (κQ q) false).run Tryz.prog w = .ok (.int .i64 (c q)) w ∧
    (Instr.mapEntry 71 (.map (some b)) (κQ q)).run Tryz.prog w = .ok (.tuple #[v0, sv]) w1 ∧
    (Instr.lookup 71 (.map (some b)) (κQ q) false).run Tryz.prog w1 = .ok (.int .i64 (c q)) w1 ∧
    (Instr.entryStore 71 (.map (some b)) sv (.int .i64 x)).run Tryz.prog w1 = .ok () w3 ∧
    Hid (CntIs w3 b (N + 1) (fun x => if x = q then m else c x)) ∧ Hid (w.grownBy w3 (some b)) := by
  subst hx
  obtain ⟨v0, sv, w1, w3, e1, e2, e3, h4, h5⟩ := h.entry hq (by unfold maxLen; omega) m
  exact ⟨v0, sv, w1, w3, h.look hq, e1, e2, e3, h4, h5⟩
theorem cn_take_le (l : List ByteArray) (N k : Nat) (q : Q4) : cn ((gramsQ l N).take k) q ≤ l.length + 1 := by
  have h8 := cn_le ((gramsQ l N).take k) q
  simp only [List.length_take, gramsQ_length] at h8
  omega
theorem cnt_next {l : List ByteArray} {N k : Nat} (h : k < l.length + 1 - N) : (fun x => if x = gq l N k then cn ((gramsQ l N).take k) (gq l N k) + 1 else cn ((gramsQ l N).take k) x) = cn ((gramsQ l N).take (k + 1)) := by
  funext x
  rw [gramsQ_take h, cn_snoc]
  by_cases e : x = gq l N k
  · subst e; simp
  · rw [if_neg e, if_neg (fun h => e h.symm)]; rfl
/-- what Matches returns -/
def matchV (a b : List ByteArray) (n : Int) : Value :=
  if 512 < a.length ∨ 512 < b.length then .tuple #[.int .i64 0, .int .i64 0, .int .i64 0, .int .u8 3]
  else if n < 1 ∨ 4 < n then .tuple #[.int .i64 0, .int .i64 0, .int .i64 0, .int .u8 1]
  else .tuple #[.int .i64 (mtQ a b n.toNat), .int .i64 (gramsN a.length n), .int .i64 (gramsN b.length n), .int .u8 0]
set_option maxHeartbeats 16000000 in
theorem Matches_main (a b : List ByteArray) (va vb : Value) (N : Nat) (w : World) (ha : WdsAt w va a) (hb : WdsAt w vb b) (h1 : 1 ≤ N) (h4 : N ≤ 4) (hal : a.length ≤ 512) (hbl : b.length ≤ 512) :
    Calls Tryz.prog 12 #[va, vb, .int .i64 N] w fun e w' => e = .returned (matchV a b N) ∧ Below w.heap.size w w' := by
  have HA := Lib.hid ha
  have HB := Lib.hid hb
  have HM : Hid (matchV a b N = .tuple #[.int .i64 (mtQ a b N), .int .i64 (gramsN a.length N), .int .i64 (gramsN b.length N), .int .u8 0]) := by
    show matchV a b N = _
    unfold matchV
    rw [if_neg (by omega), if_neg (by omega), Int.toNat_natCast]
  obtain ⟨A1, hA1⟩ : ∃ A1, A1 = a.length + 1 - N := ⟨_, rfl⟩
  obtain ⟨B1, hB1⟩ : ∃ B1, B1 = b.length + 1 - N := ⟨_, rfl⟩
  have cA : ∀ w', WdsAt w' va a → Calls Tryz.prog 35 #[va, .int .i64 N] w' fun e w'' => e = .returned (.int .i64 A1) ∧ w'' = w' := fun w' h => by
    have := gramsIn_any a va N w' h (by omega) (by omega)
    rwa [gramsN_nat, ← hA1] at this
  have cB : ∀ w', WdsAt w' vb b → Calls Tryz.prog 35 #[vb, .int .i64 N] w' fun e w'' => e = .returned (.int .i64 B1) ∧ w'' = w' := fun w' h => by
    have := gramsIn_any b vb N w' h (by omega) (by omega)
    rwa [gramsN_nat, ← hB1] at this
  have gA : ∀ (k : Nat) w', WdsAt w' va a → k < A1 → Calls Tryz.prog 36 #[va, .int .i64 k, .int .i64 N] w' fun e w'' => e = .returned (κQ (gq a N k)) ∧ Below w'.heap.size w' w'' := fun k w' h hk => gramAt_any a va k N w' h h1 h4 (by omega) hal
  have gB : ∀ (k : Nat) w', WdsAt w' vb b → k < B1 → Calls Tryz.prog 36 #[vb, .int .i64 k, .int .i64 N] w' fun e w'' => e = .returned (κQ (gq b N k)) ∧ Below w'.heap.size w' w'' := fun k w' h hk => gramAt_any b vb k N w' h h1 h4 (by omega) hbl
  rw [gramsN_nat, gramsN_nat, ← hA1, ← hB1] at HM
  obtain ⟨⟨p, cap, rfl, hl, hc, hrA⟩, hza⟩ := ha
  obtain ⟨⟨p2, cap2, rfl, hl2, hc2, hrB⟩, hzb⟩ := hb
  have HQA := Lib.hid (gq_ok hza)
  have HQB := Lib.hid (gq_ok hzb)
  unfold maxLen at hc hc2
  have hmm := @run_makeMap Tryz.prog
  have i1 : ¬ (512 : Int) < (a.length : Int) := by omega
  have i2 : ¬ (512 : Int) < (b.length : Int) := by omega
  have i3 : ¬ (N : Int) < 1 := by omega
  have i4 : ¬ (4 : Int) < (N : Int) := by omega
  have HA1 := Lib.hid hA1
  have HB1 := Lib.hid hB1
  have agG := Tryz.isAgg74
  have zgG := Tryz.sizeOf74
  clear hza hzb hrA hrB hA1 hB1
  go_enter Tryz.func12, Tryz.ntmps12
  go_wp2_with (go_at_call 35; (with_reducible refine (cA _ (HA.out.step (below_box _))).mono ?_); rintro e w1 ⟨rfl, rfl⟩)
  have HB0 := Lib.hid (below_box (w := w) (.map #[] 0))
  have HC0 := Lib.hid (CntIs.made w)
  have hM0 : w.heap.size < (w.alloc (.map #[] 0)).heap.size := by simp
  generalize w.alloc (.map #[] 0) = W0 at *
  go_loopw [11, 32] (fun _ i wr => ∃ k : Nat, k ≤ A1 ∧ i = .int .i64 k ∧ Hid (Below w.heap.size w wr) ∧ Hid (CntIs wr w.heap.size k (cn ((gramsQ a N).take k)))) (fun _ i _ => A1 - (RowKit.intOf i).toNat)
  case atStart => exact ⟨0, Nat.zero_le _, rfl, HB0.out, HC0.out⟩
  case round =>
    obtain ⟨k, hk, rfl, HBW, HC⟩ := hrel
    by_cases hlt : k < A1
    · have hcn := cnt_next (l := a) (N := N) (k := k) (by have := HA1.out; omega)
      have hq := HQA.out N k
      have hcl := Nat.le_trans (cn_take_le a N k (gq a N k)) (Nat.succ_le_succ hal)
      have gk := fun w' h => gA k w' h hlt
      have HCN := Lib.hid hcn
      have HQ := Lib.hid hq
      clear hcn hq
      generalize gq a N k = q at gk HCN HQ hcl
      generalize cn ((gramsQ a N).take k) = c at HC HCN hcl
      have hwr : IntKind.i64.wrap ((c q : Int) + 1) = (c q : Int) + 1 := by rw [IntKind.wrap_i64] <;> omega
      have hk2 : k < 1000000 := by have := HA1.out; omega
      go_wp2
      go_region_with (go_at_call 36; (with_reducible refine (gk _ (HA.out.step HBW.out.drew)).mono ?_); rintro e w2 ⟨rfl, hb2⟩; obtain ⟨v0, sv, w3, w4, e0, e1, e2, e3, hc4, hg4⟩ := ((HC.out.step (Below.refl _ _).drew).step hb2).entryI HQ.out hk2 ((c q : Int) + 1) (c q + 1) rfl)
      all_goals
        have HB2 := Lib.hid (below_next HBW.out.drew hb2)
        have HBF := Lib.hid (below_grown HB2.out hg4.out (Nat.le_refl _) HB2.out.size)
        have HCF := Lib.hid (hc4.out.congr HCN.out)
        clear e0 e1 e2 e3 hb2
        go_wp2
        go_roundw
        case rel => exact ⟨k + 1, by omega, by go_num, HBF.out, HCF.out⟩
        case measure => simp [RowKit.intOf]; omega
    · obtain rfl : A1 = k := by omega
      have HCA := Lib.hid (HC.out.congr (show cn ((gramsQ a N).take A1) = cn (gramsQ a N) by rw [List.take_of_length_le (by rw [gramsQ_length]; have := HA1.out; omega)]))
      clear HC
      go_wp2_with (go_at_call 35; (with_reducible refine (cB _ (HB.out.step HBW.out)).mono ?_); rintro e w1 ⟨rfl, rfl⟩)
      go_loopw [6, 12, 13, 48] (fun m _ _ i wr => ∃ (k mN : Nat) (c : Q4 → Nat), k ≤ B1 ∧ i = .int .i64 k ∧ m = .int .i64 mN ∧ mN ≤ k ∧ Hid (mtQ a b N = mN + mt c ((gramsQ b N).drop k)) ∧ Hid (∀ q, c q ≤ 513) ∧ Hid (Below w.heap.size w wr) ∧ Hid (CntIs wr w.heap.size (A1 + k) c)) (fun _ _ _ i _ => B1 - (RowKit.intOf i).toNat)
      case atStart => exact ⟨0, 0, _, Nat.zero_le _, rfl, rfl, Nat.le_refl _, by rw [Nat.zero_add, List.drop_zero]; rfl, fun q => by have h8 := cn_le (gramsQ a N) q; rw [gramsQ_length] at h8; omega, HBW.out, HCA.out⟩
      case round =>
        clear HBW HCA hM0 HC0 HB0
        obtain ⟨k, mN, c, hk, rfl, rfl, hmk, HMT, HCL, HBW, HC⟩ := hrel
        by_cases hlt : k < B1
        · have hdr := gramsQ_drop (l := b) (N := N) (k := k) (by have := HB1.out; omega)
          have HQ := Lib.hid (HQB.out N k)
          have gk := fun w' h => gB k w' h hlt
          have hmt := HMT.out
          rw [hdr, mt_cons] at hmt
          have hcl := HCL.out (gq b N k)
          have hk2 : A1 + k < 1000000 := by have := HA1.out; have := HB1.out; omega
          have hk3 : k < 1000000 := by have := HB1.out; omega
          clear hdr HMT
          generalize gq b N k = q at gk HQ hmt hcl
          by_cases h0 : 0 < c q
          · rw [if_pos h0] at hmt
            have HMT2 := Lib.hid (show mtQ a b N = (mN + 1) + mt (lessOne c q) ((gramsQ b N).drop (k + 1)) by omega)
            have HLE : Hid (∀ x, lessOne c q x ≤ 513) := fun x => by have := HCL.out x; unfold lessOne; split <;> omega
            have hfun := Lib.hid (show (fun x => if x = q then c q - 1 else c x) = lessOne c q by funext x; unfold lessOne; by_cases e : x = q <;> simp [e])
            clear hmt
            obtain ⟨s0, s1, s2, s3⟩ := q
            unfold κQ at gk
            simp only at gk
            generalize hcq : c ⟨s0, s1, s2, s3⟩ = n at h0 hcl hfun
            have HCQ := Lib.hid hcq
            clear hcq
            have hgt : (0 : Int) < (n : Int) := by omega
            have hws : IntKind.i64.wrap ((n : Int) - 1) = (n : Int) - 1 := by rw [IntKind.wrap_i64] <;> omega
            have hwm : IntKind.i64.wrap ((mN : Int) + 1) = (mN : Int) + 1 := by rw [IntKind.wrap_i64] <;> omega
            go_wp2_with (go_at_call 36; (with_reducible refine (gk _ (HB.out.step HBW.out)).mono ?_); rintro e w2 ⟨rfl, hb2⟩; have e0 := ((HC.out.step hb2).step (below_box (.cells #[.string s0, .string s1, .string s2, .string s3] 74))).look HQ.out; rw [HCQ.out] at e0; unfold κQ at e0; simp only at e0)
            have HB2 := Lib.hid (below_next (below_next HBW.out hb2) (below_box (.cells #[.string s0, .string s1, .string s2, .string s3] 74)))
            have HC2 := Lib.hid ((HC.out.step hb2).step (below_box (.cells #[.string s0, .string s1, .string s2, .string s3] 74)))
            have x0 : (w2.alloc (.cells #[.string s0, .string s1, .string s2, .string s3] 74)).cell? ⟨w2.heap.size, 0, none⟩ = some (.string s0) := by simp
            have x1 : (w2.alloc (.cells #[.string s0, .string s1, .string s2, .string s3] 74)).cell? ⟨w2.heap.size, 1, none⟩ = some (.string s1) := by simp
            have x2 : (w2.alloc (.cells #[.string s0, .string s1, .string s2, .string s3] 74)).cell? ⟨w2.heap.size, 2, none⟩ = some (.string s2) := by simp
            have x3 : (w2.alloc (.cells #[.string s0, .string s1, .string s2, .string s3] 74)).cell? ⟨w2.heap.size, 3, none⟩ = some (.string s3) := by simp
            clear e0 hb2
            generalize w2.alloc (.cells #[.string s0, .string s1, .string s2, .string s3] 74) = X at *
            obtain ⟨v0, sv, w3, w4, e0, e1, e2, e3, hc4, hg4⟩ := (HC2.out.step (Below.refl _ _).drew).entryI HQ.out hk2 ((n : Int) - 1) (n - 1) (by omega)
            rw [HCQ.out] at e0 e2
            unfold κQ at e0 e1 e2
            simp only at e0 e1 e2
            go_region_with (fail)
            all_goals
              have HBF := Lib.hid (below_grown HB2.out.drew hg4.out (Nat.le_refl _) HB2.out.drew.size)
              have HCF := Lib.hid ((hc4.out.congr hfun.out).more (N' := A1 + (k + 1)) (by omega))
              clear e0 e1 e2 e3
              go_wp2
              go_roundw
              case rel => exact ⟨k + 1, mN + 1, _, by omega, by go_num, by go_num, by omega, HMT2.out, HLE.out, HBF.out, HCF.out⟩
              case measure => simp [RowKit.intOf]; omega
          · rw [if_neg h0] at hmt
            have h00 : c q = 0 := by omega
            have HMT2 := Lib.hid hmt
            clear hmt
            obtain ⟨s0, s1, s2, s3⟩ := q
            unfold κQ at gk
            simp only at gk
            have HCQ := Lib.hid h00
            clear h00 h0 hcl
            go_wp2_with (go_at_call 36; (with_reducible refine (gk _ (HB.out.step HBW.out)).mono ?_); rintro e w2 ⟨rfl, hb2⟩; have e0 := ((HC.out.step hb2).step (below_box (.cells #[.string s0, .string s1, .string s2, .string s3] 74))).look HQ.out; rw [HCQ.out] at e0; unfold κQ at e0; simp only at e0)
            have HB2 := Lib.hid (below_next (below_next HBW.out hb2) (below_box (.cells #[.string s0, .string s1, .string s2, .string s3] 74)))
            have HC2 := Lib.hid ((HC.out.step hb2).step (below_box (.cells #[.string s0, .string s1, .string s2, .string s3] 74)))
            clear e0 hb2
            go_roundw
            case rel => exact ⟨k + 1, mN, c, by omega, by go_num, rfl, by omega, HMT2.out, HCL.out, HB2.out, HC2.out.more (by omega)⟩
            case measure => simp [RowKit.intOf]; omega
        · obtain rfl : B1 = k := by omega
          have hmt := HMT.out
          rw [List.drop_eq_nil_of_le (by rw [gramsQ_length]; have := HB1.out; omega)] at hmt
          have HMT2 := Lib.hid (show mtQ a b N = mN by simpa [mt] using hmt)
          go_wp2_with (first
            | (go_at_call 35; (with_reducible refine (cA _ (HA.out.step HBW.out)).mono ?_); rintro e w1 ⟨rfl, rfl⟩)
            | (go_at_call 35; (with_reducible refine (cB _ (HB.out.step HBW.out)).mono ?_); rintro e w1 ⟨rfl, rfl⟩))
          refine bodyPost_ret (v := .tuple #[.int .i64 mN, .int .i64 A1, .int .i64 B1, .int .u8 0]) (by simp [results, Tryz.f12]) rfl ?_
          exact ⟨by rw [HM.out, HMT2.out], HBW.out⟩
end Go.Proofs.YthgllfbigcoaiaaGreatDoor
