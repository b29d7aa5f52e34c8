/- The score of two texts by their units, by the program, where there is no error. The score of two texts by their units, by the specification. The score of two texts by their units, by the specification, where there is no error. The law ChecksUnits, over any two texts and any numbers. -/
import Derived.Test.YthgllfbigcoaiaaGreatDoorUnA
namespace Go.Proofs.YthgllfbigcoaiaaGreatDoor
open Go Go.RowKit Go.Lib
set_option maxRecDepth 100000
theorem cast_le9 {M : Nat} (h : M ≤ 9) : (M : Int) ≤ 9 := by omega
theorem cast_le4 {M : Nat} (h : M ≤ 5184000000000000) : (M : Int) ≤ 5184000000000000 := by omega
theorem cast_le5 {M : Nat} (h : M ≤ 576000000000000) : (M : Int) ≤ 576000000000000 := by omega
set_option maxHeartbeats 64000000 in
theorem unitF_main (a b : ByteArray) (n beta : Nat) (w : World) (ha : a.size ≤ 900) (hb : b.size ≤ 900) (hT : D.Tabs w) (h : unE a b n beta = 0) :
    Calls Tryz.prog 20 #[.string a, .string b, .int .i64 n, .int .i64 beta] w fun e w' => e = .returned (unR a b n beta) ∧ Below w.heap.size w w' := by
  have agF := Tryz.isAgg35
  have zgF := Tryz.sizeOf35
  have HF : Hid (FrAt w.heap.size 0 0 (w.alloc (.cells #[.int .i64 0, .int .i64 0] 35))) := FrAt.new w 0 0
  have HBW : Hid (Below w.heap.size w (w.alloc (.cells #[.int .i64 0, .int .i64 0] 35))) := below_box _
  have HT := Lib.hid hT
  have HR := Lib.hid (unR_yes h)
  have hok := UnOk.of h
  have cA : ∀ w', D.Tabs w' → Calls Tryz.prog 46 #[.string a] w' fun e w'' => e = .returned (.bool true) ∧ Below w'.heap.size w' w'' := fun w' h => by
    have := isText_any a w' ha h
    rwa [hok.ta] at this
  have cB : ∀ w', D.Tabs w' → Calls Tryz.prog 46 #[.string b] w' fun e w'' => e = .returned (.bool true) ∧ Below w'.heap.size w' w'' := fun w' h => by
    have := isText_any b w' hb h
    rwa [hok.tb] at this
  have rA := fun w' => runeCount_any a w' ha
  have rB := fun w' => runeCount_any b w' hb
  have cUA := fun w' => unitsOf_any a w' ha
  have cUB := fun w' => unitsOf_any b w' hb
  have cQ0 : ∀ w', Calls Tryz.prog 44 #[.int .i64 0, .int .i64 1] w' fun e w'' => e = .returned (.agg #[.int .i64 0, .int .i64 1]) ∧ Below w'.heap.size w' w'' := fun w' => quotient_any 0 1 w' (by omega) (by omega)
  unfold UnEnd at cUA cUB
  have i1 : ¬ (200 : Int) < ((unitsB a).length : Int) := by have := hok.la; omega
  have i2 : ¬ (200 : Int) < ((unitsB b).length : Int) := by have := hok.lb; omega
  have i3 : ¬ (n : Int) < 1 := by have := hok.n1; omega
  have i4 : ¬ (3 : Int) < (n : Int) := by have := hok.n3; omega
  have i5 : ¬ (beta : Int) < 1 := by have := hok.b1; omega
  have i6 : ¬ (3 : Int) < (beta : Int) := by have := hok.b3; omega
  have hla := hok.la
  have hlb := hok.lb
  have hn3 := hok.n3
  have hb3 := hok.b3
  clear hT h hok
  unfold unitN at HR
  generalize unitsB a = A at *
  generalize unitsB b = B at *
  have hfA : ∀ k, Fr 200 200 (partQ A B A.length k) := fun k => partQ_le hla hla k
  have hfB : ∀ k, Fr 200 200 (partQ A B B.length k) := fun k => partQ_le hla hlb k
  go_enter Tryz.func20, Tryz.ntmps20
  go_wp2_with (first
    | (go_at_call 46; (with_reducible refine (cA _ (HT.out.step HBW.out)).mono ?_); rintro e w1 ⟨rfl, hb1⟩; have HF1 := Lib.hid (HF.out.step hb1); have HB1 := Lib.hid (below_next HBW.out hb1); clear HF HBW; have HF := HF1; have HBW := HB1; clear HF1 HB1; clear hb1)
    | (go_at_call 46; (with_reducible refine (cB _ (HT.out.step HBW.out)).mono ?_); rintro e w1 ⟨rfl, hb1⟩; have HF1 := Lib.hid (HF.out.step hb1); have HB1 := Lib.hid (below_next HBW.out hb1); clear HF HBW; have HF := HF1; have HBW := HB1; clear HF1 HB1; clear hb1)
    | (go_at_call 47; (with_reducible refine (rA _).mono ?_); rintro e w1 ⟨rfl, hb1⟩; have HF1 := Lib.hid (HF.out.step hb1); have HB1 := Lib.hid (below_next HBW.out hb1); clear HF HBW; have HF := HF1; have HBW := HB1; clear HF1 HB1; clear hb1)
    | (go_at_call 47; (with_reducible refine (rB _).mono ?_); rintro e w1 ⟨rfl, hb1⟩; have HF1 := Lib.hid (HF.out.step hb1); have HB1 := Lib.hid (below_next HBW.out hb1); clear HF HBW; have HF := HF1; have HBW := HB1; clear HF1 HB1; clear hb1)
    | (go_at_call 48; (with_reducible refine (cUA _).mono ?_); rintro e w1 ⟨⟨ao, ca, rfl, hWA⟩, hb1⟩; have HF1 := Lib.hid (HF.out.step hb1); have HB1 := Lib.hid (below_next HBW.out hb1); clear HF HBW; have HF := HF1; have HBW := HB1; clear HF1 HB1; have HWA := Lib.hid hWA; clear hb1 hWA)
    | (go_at_call 48; (with_reducible refine (cUB _).mono ?_); rintro e w1 ⟨⟨bo, cb, rfl, hWB⟩, hb1⟩; have HF1 := Lib.hid (HF.out.step hb1); have HB1 := Lib.hid (below_next HBW.out hb1); clear HF HBW; have HF := HF1; have HBW := HB1; clear HF1 HB1; have HWA1 := Lib.hid (HWA.out.step hb1); clear HWA; have HWA := HWA1; clear HWA1; have HWB := Lib.hid hWB; clear hb1 hWB)
    | (go_at_call 44; (with_reducible refine (cQ0 _).mono ?_); rintro e w1 ⟨rfl, hb1⟩; have HF1 := Lib.hid (HF.out.step hb1); have HB1 := Lib.hid (below_next HBW.out hb1); clear HF HBW; have HF := HF1; have HBW := HB1; clear HF1 HB1; have HWA1 := Lib.hid (HWA.out.step hb1); have HWB1 := Lib.hid (HWB.out.step hb1); clear HWA HWB; have HWA := HWA1; have HWB := HWB1; clear HWA1 HWB1 hb1))
  have HP : Hid (FrAt w1.heap.size 0 1 ((w1.alloc (.cells #[.int .i64 0, .int .i64 1] 35)).alloc (.cells #[.int .i64 0, .int .i64 1] 35))) := (FrAt.new w1 0 1).step (below_box _)
  have HQ : Hid (FrAt (w1.heap.size + 1) 0 1 ((w1.alloc (.cells #[.int .i64 0, .int .i64 1] 35)).alloc (.cells #[.int .i64 0, .int .i64 1] 35))) := by
    have h1 := FrAt.new (w1.alloc (.cells #[.int .i64 0, .int .i64 1] 35)) 0 1
    show FrAt _ _ _ _
    simpa using h1
  have HX : Hid (Below w1.heap.size w1 ((w1.alloc (.cells #[.int .i64 0, .int .i64 1] 35)).alloc (.cells #[.int .i64 0, .int .i64 1] 35))) := below_next (below_box _) (below_box _)
  have hwP : w.heap.size < w1.heap.size := HF.out.lt
  generalize (w1.alloc (.cells #[.int .i64 0, .int .i64 1] 35)).alloc (.cells #[.int .i64 0, .int .i64 1] 35) = X at *
  go_loopw [14, 15, 16, 17, 18, 60] (fun _ _ _ _ _ i wr => ∃ k : Nat, k ≤ n ∧ i = .int .i64 k ∧ Hid (FrAt w1.heap.size ((sumQ (partQ A B A.length) k).1 : Int) ((sumQ (partQ A B A.length) k).2 : Int) wr) ∧ Hid (FrAt (w1.heap.size + 1) ((sumQ (partQ A B B.length) k).1 : Int) ((sumQ (partQ A B B.length) k).2 : Int) wr) ∧ Hid (Below w1.heap.size w1 wr)) (fun _ _ _ _ _ i _ => n - (RowKit.intOf i).toNat)
  case atStart => exact ⟨0, Nat.zero_le _, rfl, HP.out, HQ.out, HX.out⟩
  case round =>
    clear HP HQ HX
    obtain ⟨k, hk, rfl, HP, HQ, HX⟩ := hrel
    by_cases hlt : k < n
    · have hk3 : k < 3 := by omega
      have hM : matchV A B ((k + 1 : Nat) : Int) = .tuple #[.int .i64 ((mtQ A B (k + 1) : Nat) : Int), .int .i64 ((A.length + 1 - (k + 1) : Nat) : Int), .int .i64 ((B.length + 1 - (k + 1) : Nat) : Int), .int .u8 0] := by
        unfold matchV
        rw [if_neg (by omega), if_neg (by omega), Int.toNat_natCast, gramsN_nat, gramsN_nat]
      have cM : ∀ w', WdsAt w' (.slice ao A.length ca) A → WdsAt w' (.slice bo B.length cb) B → Calls Tryz.prog 12 #[.slice ao A.length ca, .slice bo B.length cb, .int .i64 ((k : Int) + 1)] w' fun e w'' => e = .returned (.tuple #[.int .i64 ((mtQ A B (k + 1) : Nat) : Int), .int .i64 ((A.length + 1 - (k + 1) : Nat) : Int), .int .i64 ((B.length + 1 - (k + 1) : Nat) : Int), .int .u8 0]) ∧ Below w'.heap.size w' w'' := fun w' h1 h2 => by
        have h3 := Matches_main A B _ _ (k + 1) w' h1 h2 (by omega) (by omega) (by omega) (by omega)
        rw [hM] at h3
        rw [show ((k + 1 : Nat) : Int) = (k : Int) + 1 by push_cast; rfl] at h3
        exact h3
      have hm := mtQ_left A B (k + 1)
      have bA := sumQ_le hfA (k := k) (by omega)
      have bB := sumQ_le hfB (k := k) (by omega)
      have cQA : ∀ w', Calls Tryz.prog 44 #[.int .i64 ((mtQ A B (k + 1) : Nat) : Int), .int .i64 ((A.length + 1 - (k + 1) : Nat) : Int)] w' fun e w'' => e = .returned (.agg #[.int .i64 ((partQ A B A.length k).1 : Int), .int .i64 ((partQ A B A.length k).2 : Int)]) ∧ Below w'.heap.size w' w'' := fun w' => quotient_fr _ _ w' (by omega) (by omega)
      have cQB : ∀ w', Calls Tryz.prog 44 #[.int .i64 ((mtQ A B (k + 1) : Nat) : Int), .int .i64 ((B.length + 1 - (k + 1) : Nat) : Int)] w' fun e w'' => e = .returned (.agg #[.int .i64 ((partQ A B B.length k).1 : Int), .int .i64 ((partQ A B B.length k).2 : Int)]) ∧ Below w'.heap.size w' w'' := fun w' => quotient_fr _ _ w' (by omega) (by omega)
      have cPA : ∀ w', Calls Tryz.prog 49 #[.agg #[.int .i64 ((sumQ (partQ A B A.length) k).1 : Int), .int .i64 ((sumQ (partQ A B A.length) k).2 : Int)], .agg #[.int .i64 ((partQ A B A.length k).1 : Int), .int .i64 ((partQ A B A.length k).2 : Int)]] w' fun e w'' => e = .returned (.agg #[.int .i64 ((sumQ (partQ A B A.length) (k + 1)).1 : Int), .int .i64 ((sumQ (partQ A B A.length) (k + 1)).2 : Int)]) ∧ Below w'.heap.size w' w'' := fun w' => plus_any _ _ _ _ w' bA.1 bA.2 (hfA k).1 (hfA k).2
      have cPB : ∀ w', Calls Tryz.prog 49 #[.agg #[.int .i64 ((sumQ (partQ A B B.length) k).1 : Int), .int .i64 ((sumQ (partQ A B B.length) k).2 : Int)], .agg #[.int .i64 ((partQ A B B.length k).1 : Int), .int .i64 ((partQ A B B.length k).2 : Int)]] w' fun e w'' => e = .returned (.agg #[.int .i64 ((sumQ (partQ A B B.length) (k + 1)).1 : Int), .int .i64 ((sumQ (partQ A B B.length) (k + 1)).2 : Int)]) ∧ Below w'.heap.size w' w'' := fun w' => plus_any _ _ _ _ w' bB.1 bB.2 (hfB k).1 (hfB k).2
      obtain ⟨p3, hp3⟩ : ∃ z, z = (sumQ (partQ A B A.length) (k + 1)).1 := ⟨_, rfl⟩
      obtain ⟨p4, hp4⟩ : ∃ z, z = (sumQ (partQ A B A.length) (k + 1)).2 := ⟨_, rfl⟩
      obtain ⟨s3, hs3⟩ : ∃ z, z = (sumQ (partQ A B B.length) (k + 1)).1 := ⟨_, rfl⟩
      obtain ⟨s4, hs4⟩ : ∃ z, z = (sumQ (partQ A B B.length) (k + 1)).2 := ⟨_, rfl⟩
      rw [← hp3, ← hp4] at cPA
      rw [← hs3, ← hs4] at cPB
      have HE := Lib.hid (And.intro hp3 (And.intro hp4 (And.intro hs3 hs4)))
      clear hp3 hp4 hs3 hs4 hM hm bA bB hfA hfB
      generalize (sumQ (partQ A B A.length) k).1 = p1 at *
      generalize (sumQ (partQ A B A.length) k).2 = p2 at *
      generalize (sumQ (partQ A B B.length) k).1 = s1 at *
      generalize (sumQ (partQ A B B.length) k).2 = s2 at *
      generalize (partQ A B A.length k).1 = q1 at *
      generalize (partQ A B A.length k).2 = q2 at *
      generalize (partQ A B B.length k).1 = r1 at *
      generalize (partQ A B B.length k).2 = r2 at *
      generalize mtQ A B (k + 1) = m at *
      generalize A.length + 1 - (k + 1) = gA at *
      generalize B.length + 1 - (k + 1) = gB at *
      go_wp2_with (go_at_call 12; (with_reducible refine (cM _ (HWA.out.step HX.out) (HWB.out.step HX.out)).mono ?_); rintro e w2 ⟨rfl, hb2⟩; have HP2 := Lib.hid (HP.out.step hb2); have HQ2 := Lib.hid (HQ.out.step hb2); have HX2 := Lib.hid (below_next HX.out hb2); clear HP HQ HX hb2)
      have x0 := HP2.out.c0
      have x1 := HP2.out.c1
      refine wp_region_till (fun w' => w'.cell? ⟨w1.heap.size, 0, none⟩ = some (.int .i64 (p1 : Int)) ∧ w'.cell? ⟨w1.heap.size, 1, none⟩ = some (.int .i64 (p2 : Int))) [0, 1, 2, 3, 4] (by kernel_rfl) ⟨x0, x1⟩ (fun hHeld => ?_)
      refine wpTill_take (i := 0) 4 (v := ?va1x0) rfl (by kernel_rfl) (by kernel_rfl) (by kernel_rfl) (by kernel_rfl) (fun _ _ _ h => h) (Or.inl ⟨by rfl, ?hy1x0⟩) hHeld ?re1x0
      case hy1x0 => (intro w9 hSw; (try dsimp only at hSw); go_simp; try with_reducible rfl)
      refine wpTill_take (i := 1) 3 (v := ?va2x1) rfl (by kernel_rfl) (by kernel_rfl) (by kernel_rfl) (by kernel_rfl) (fun _ _ _ h => h) (Or.inl ⟨by rfl, ?hy2x1⟩) hHeld ?re2x1
      case hy2x1 => (intro w9 hSw; (try dsimp only at hSw); go_simp; try with_reducible rfl)
      refine wpTill_take (i := 2) 3 (v := ?va3x2) rfl (by kernel_rfl) (by kernel_rfl) (by kernel_rfl) (by kernel_rfl) (fun _ _ _ h => h) (Or.inl ⟨by rfl, ?hy3x2⟩) hHeld ?re3x2
      case hy3x2 => (intro w9 hSw; (try dsimp only at hSw); go_simp; try with_reducible rfl)
      refine wpTill_next (rs := [3]) (by kernel_rfl) (by simp) ?_
      refine NextTill.cons rfl (fun K hK => ?_) NextTill.nil
      go_simp
      (go_at_call 44; (with_reducible refine (cQA _).mono ?_); rintro e w3 ⟨rfl, hb3⟩; have HP3 := Lib.hid ((HP2.out.step (Below.refl _ _).drew).step hb3); have HQ3 := Lib.hid ((HQ2.out.step (Below.refl _ _).drew).step hb3); have HX3 := Lib.hid (below_next HX2.out.drew hb3); clear HP2 HQ2 HX2 hb3 x0 x1; have x0 := HP3.out.c0; have x1 := HP3.out.c1)
      refine hK.out _ _ (fun _ => ⟨x0, x1⟩) ?_
      clear hK K hHeld
      refine wpTill_next (rs := [4]) (by kernel_rfl) (by simp) ?_
      refine NextTill.cons rfl (fun K hK => ?_) NextTill.nil
      go_simp
      (go_at_call 49; (with_reducible refine (cPA _).mono ?_); rintro e w4 ⟨rfl, hb4⟩; have HP4 := Lib.hid (HP3.out.step hb4); have HQ4 := Lib.hid (HQ3.out.step hb4); have HX4 := Lib.hid (below_next HX3.out hb4); clear HP3 HQ3 HX3 hb4 x0 x1; have x0 := HP4.out.c0; have x1 := HP4.out.c1; have f0 := HP4.out.f 0; have f1 := HP4.out.f 1)
      refine hK.out _ _ (fun h => Bool.noConfusion (h.symm.trans (by kernel_rfl : _ = false))) ?_
      clear hK K
      refine wpTill_next (rs := [5]) (by kernel_rfl) (by simp) ?_
      refine NextTill.cons rfl (fun K hK => ?_) NextTill.nil
      go_simp
      refine hK.out _ _ (fun h => Bool.noConfusion (h.symm.trans (by kernel_rfl : _ = false))) ?_
      clear hK K x0 x1 f0 f1
      refine wpTill_done (by kernel_rfl) ?_ _
      have HP5 := Lib.hid (HP4.out.put (p3 : Int) (p4 : Int))
      have HQ5 := Lib.hid (HQ4.out.far (G := w1.heap.size) (by omega) (.int .i64 (p3 : Int)) (.int .i64 (p4 : Int)))
      have HX5 := Lib.hid (below_set (below_set HX4.out (a := ⟨w1.heap.size, 0, none⟩) (by show _ ≤ w1.heap.size; omega) (.int .i64 (p3 : Int))) (a := ⟨w1.heap.size, 1, none⟩) (by show _ ≤ w1.heap.size; omega) (.int .i64 (p4 : Int)))
      clear HP4 HQ4 HX4
      obtain ⟨w5, hw5⟩ : ∃ x, x = (w4.setCell ⟨w1.heap.size, 0, none⟩ (.int .i64 (p3 : Int))).setCell ⟨w1.heap.size, 1, none⟩ (.int .i64 (p4 : Int)) := ⟨_, rfl⟩
      rw [← hw5] at HP5 HQ5 HX5 ⊢
      clear hw5
      go_wp2
      have x0 := HQ5.out.c0
      have x1 := HQ5.out.c1
      refine wp_region_till (fun w' => w'.cell? ⟨w1.heap.size + 1, 0, none⟩ = some (.int .i64 (s1 : Int)) ∧ w'.cell? ⟨w1.heap.size + 1, 1, none⟩ = some (.int .i64 (s2 : Int))) [0, 1, 2, 3, 4] (by kernel_rfl) ⟨x0, x1⟩ (fun hHeld => ?_)
      refine wpTill_take (i := 0) 4 (v := ?va4x0) rfl (by kernel_rfl) (by kernel_rfl) (by kernel_rfl) (by kernel_rfl) (fun _ _ _ h => h) (Or.inl ⟨by rfl, ?hy4x0⟩) hHeld ?re4x0
      case hy4x0 => (intro w9 hSw; (try dsimp only at hSw); go_simp; try with_reducible rfl)
      refine wpTill_take (i := 1) 3 (v := ?va5x1) rfl (by kernel_rfl) (by kernel_rfl) (by kernel_rfl) (by kernel_rfl) (fun _ _ _ h => h) (Or.inl ⟨by rfl, ?hy5x1⟩) hHeld ?re5x1
      case hy5x1 => (intro w9 hSw; (try dsimp only at hSw); go_simp; try with_reducible rfl)
      refine wpTill_take (i := 2) 3 (v := ?va6x2) rfl (by kernel_rfl) (by kernel_rfl) (by kernel_rfl) (by kernel_rfl) (fun _ _ _ h => h) (Or.inl ⟨by rfl, ?hy6x2⟩) hHeld ?re6x2
      case hy6x2 => (intro w9 hSw; (try dsimp only at hSw); go_simp; try with_reducible rfl)
      refine wpTill_next (rs := [3]) (by kernel_rfl) (by simp) ?_
      refine NextTill.cons rfl (fun K hK => ?_) NextTill.nil
      go_simp
      (go_at_call 44; (with_reducible refine (cQB _).mono ?_); rintro e w3 ⟨rfl, hb3⟩; have HP3 := Lib.hid ((HP5.out.step (Below.refl _ _).drew).step hb3); have HQ3 := Lib.hid ((HQ5.out.step (Below.refl _ _).drew).step hb3); have HX3 := Lib.hid (below_next HX5.out.drew hb3); clear HP5 HQ5 HX5 hb3 x0 x1; have x0 := HQ3.out.c0; have x1 := HQ3.out.c1)
      refine hK.out _ _ (fun _ => ⟨x0, x1⟩) ?_
      clear hK K hHeld
      refine wpTill_next (rs := [4]) (by kernel_rfl) (by simp) ?_
      refine NextTill.cons rfl (fun K hK => ?_) NextTill.nil
      go_simp
      (go_at_call 49; (with_reducible refine (cPB _).mono ?_); rintro e w4 ⟨rfl, hb4⟩; have HP4 := Lib.hid (HP3.out.step hb4); have HQ4 := Lib.hid (HQ3.out.step hb4); have HX4 := Lib.hid (below_next HX3.out hb4); clear HP3 HQ3 HX3 hb4 x0 x1; have x0 := HQ4.out.c0; have x1 := HQ4.out.c1; have f0 := HQ4.out.f 0; have f1 := HQ4.out.f 1)
      refine hK.out _ _ (fun h => Bool.noConfusion (h.symm.trans (by kernel_rfl : _ = false))) ?_
      clear hK K
      refine wpTill_next (rs := [5]) (by kernel_rfl) (by simp) ?_
      refine NextTill.cons rfl (fun K hK => ?_) NextTill.nil
      go_simp
      refine hK.out _ _ (fun h => Bool.noConfusion (h.symm.trans (by kernel_rfl : _ = false))) ?_
      clear hK K x0 x1 f0 f1
      refine wpTill_done (by kernel_rfl) ?_ _
      have HQ6 := Lib.hid (HQ4.out.put (s3 : Int) (s4 : Int))
      have HP6 := Lib.hid (HP4.out.far (G := w1.heap.size + 1) (by omega) (.int .i64 (s3 : Int)) (.int .i64 (s4 : Int)))
      have HX6 := Lib.hid (below_set (below_set HX4.out (a := ⟨w1.heap.size + 1, 0, none⟩) (by show _ ≤ w1.heap.size + 1; omega) (.int .i64 (s3 : Int))) (a := ⟨w1.heap.size + 1, 1, none⟩) (by show _ ≤ w1.heap.size + 1; omega) (.int .i64 (s4 : Int)))
      clear HP4 HQ4 HX4
      obtain ⟨w6, hw6⟩ : ∃ x, x = (w4.setCell ⟨w1.heap.size + 1, 0, none⟩ (.int .i64 (s3 : Int))).setCell ⟨w1.heap.size + 1, 1, none⟩ (.int .i64 (s4 : Int)) := ⟨_, rfl⟩
      rw [← hw6] at HP6 HQ6 HX6 ⊢
      clear hw6
      go_wp2
      go_roundw
      case rel => exact ⟨k + 1, hlt, by go_num, by rw [← HE.out.1, ← HE.out.2.1]; exact HP6.out, by rw [← HE.out.2.2.1, ← HE.out.2.2.2]; exact HQ6.out, HX6.out⟩
      case measure => simp [RowKit.intOf] <;> omega
    · obtain rfl : k = n := by omega
      have bA := sumQ_le hfA (k := k) hn3
      have bB := sumQ_le hfB (k := k) hn3
      have bU := overN_le (n := k) bA hn3
      have bV := overN_le (n := k) bB hn3
      have eU : overN (sumQ (partQ A B A.length) k) k = quN (sumQ (partQ A B A.length) k).1 ((sumQ (partQ A B A.length) k).2 * k) := rfl
      have eV : overN (sumQ (partQ A B B.length) k) k = quN (sumQ (partQ A B B.length) k).1 ((sumQ (partQ A B B.length) k).2 * k) := rfl
      generalize overN (sumQ (partQ A B A.length) k) k = U at *
      generalize overN (sumQ (partQ A B B.length) k) k = V at *
      generalize sumQ (partQ A B A.length) k = p at *
      generalize sumQ (partQ A B B.length) k = s at *
      obtain ⟨p1, p2⟩ := p
      obtain ⟨s1, s2⟩ := s
      obtain ⟨u1, u2⟩ := U
      obtain ⟨v1, v2⟩ := V
      obtain ⟨bp1, bp2⟩ := bA
      obtain ⟨bs1, bs2⟩ := bB
      obtain ⟨bu1, bu2⟩ := bU
      obtain ⟨bv1, bv2⟩ := bV
      simp only at bp1 bp2 bs1 bs2 bu1 bu2 bv1 bv2 eU eV HP HQ
      have a1 : p2 * k ≤ 24000000 := Nat.le_trans (Nat.mul_le_mul bp2 hn3) (by decide)
      have a2 : s2 * k ≤ 24000000 := Nat.le_trans (Nat.mul_le_mul bs2 hn3) (by decide)
      have a3 : beta * beta ≤ 9 := Nat.le_trans (Nat.mul_le_mul hb3 hb3) (by decide)
      obtain ⟨N1, e1⟩ : ∃ z, p2 * k = z := ⟨_, rfl⟩
      obtain ⟨N2, e2⟩ : ∃ z, s2 * k = z := ⟨_, rfl⟩
      obtain ⟨c, e3⟩ : ∃ z, beta * beta = z := ⟨_, rfl⟩
      rw [e1] at a1 eU
      rw [e2] at a2 eV
      rw [e3] at a3 HR
      have cQA : ∀ w', Calls Tryz.prog 44 #[.int .i64 (p1 : Int), .int .i64 (N1 : Int)] w' fun e w'' => e = .returned (.agg #[.int .i64 (u1 : Int), .int .i64 (u2 : Int)]) ∧ Below w'.heap.size w' w'' := fun w' => by
        have h1 := quotient_fr p1 N1 w' (Nat.le_trans bp1 (by decide)) (Nat.le_trans a1 (by decide))
        rw [← eU] at h1
        exact h1
      have cQB : ∀ w', Calls Tryz.prog 44 #[.int .i64 (s1 : Int), .int .i64 (N2 : Int)] w' fun e w'' => e = .returned (.agg #[.int .i64 (v1 : Int), .int .i64 (v2 : Int)]) ∧ Below w'.heap.size w' w'' := fun w' => by
        have h1 := quotient_fr s1 N2 w' (Nat.le_trans bs1 (by decide)) (Nat.le_trans a2 (by decide))
        rw [← eV] at h1
        exact h1
      have m1 := wrap_prodI e1 (Nat.le_trans a1 (by decide))
      have m2 := wrap_prodI e2 (Nat.le_trans a2 (by decide))
      have m3 := wrap_prod e3 (Nat.le_trans a3 (by decide))
      have hJ : frP (joinN (u1, u2) (v1, v2) c) = frP (quN ((1 + c) * u1 * v1) (c * u1 * v2 + v1 * u2)) := rfl
      have a4 : (1 + c) * u1 ≤ 240000000 := Nat.le_trans (Nat.mul_le_mul (Nat.add_le_add_left a3 1) bu1) (by decide)
      have a5 : c * u1 ≤ 216000000 := Nat.le_trans (Nat.mul_le_mul a3 bu1) (by decide)
      have a6 : v1 * u2 ≤ 576000000000000 := Nat.le_trans (Nat.mul_le_mul bv1 bu2) (by decide)
      obtain ⟨M1, e4⟩ : ∃ z, (1 + c) * u1 = z := ⟨_, rfl⟩
      obtain ⟨M3, e5⟩ : ∃ z, c * u1 = z := ⟨_, rfl⟩
      obtain ⟨M5, e6⟩ : ∃ z, v1 * u2 = z := ⟨_, rfl⟩
      rw [e4] at a4 hJ
      rw [e5] at a5 hJ
      rw [e6] at a6 hJ
      have a7 : M1 * v1 ≤ 5760000000000000 := Nat.le_trans (Nat.mul_le_mul a4 bv1) (by decide)
      have a8 : M3 * v2 ≤ 5184000000000000 := Nat.le_trans (Nat.mul_le_mul a5 bv2) (by decide)
      obtain ⟨M2, e7⟩ : ∃ z, M1 * v1 = z := ⟨_, rfl⟩
      obtain ⟨M4, e8⟩ : ∃ z, M3 * v2 = z := ⟨_, rfl⟩
      rw [e7] at a7 hJ
      rw [e8] at a8 hJ
      have m4 := wrap_prod e4 (Nat.le_trans a4 (by decide))
      have m5 := wrap_prod e5 (Nat.le_trans a5 (by decide))
      have m6 := wrap_prod e6 (Nat.le_trans a6 (by decide))
      have m7 := wrap_prod e7 (Nat.le_trans a7 (by decide))
      have m8 := wrap_prod e8 (Nat.le_trans a8 (by decide))
      rw [show ((1 + c : Nat) : Int) = 1 + (c : Int) by push_cast; rfl] at m4
      obtain ⟨z1, z2, hz⟩ : ∃ z1 z2 : Nat, quN M2 (M4 + M5) = (z1, z2) := ⟨_, _, rfl⟩
      have cQF : ∀ w', Calls Tryz.prog 44 #[.int .i64 (M2 : Int), .int .i64 ((M4 : Int) + (M5 : Int))] w' fun e w'' => e = .returned (.agg #[.int .i64 (z1 : Int), .int .i64 (z2 : Int)]) ∧ Below w'.heap.size w' w'' := fun w' => by
        have h1 := quotient_fr M2 (M4 + M5) w' (Nat.le_trans a7 (by decide)) (Nat.le_trans (Nat.add_le_add a8 a6) (by decide))
        rw [hz, show ((M4 + M5 : Nat) : Int) = (M4 : Int) + (M5 : Int) by push_cast; rfl] at h1
        exact h1
      have HZ : Hid (unR a b k beta = .tuple #[.agg #[.int .i64 (z1 : Int), .int .i64 (z2 : Int)], .int .u8 0]) := by
        show _ = _
        rw [HR.out, hJ, hz]
        rfl
      clear e1 e2 e3 e4 e5 e6 e7 e8 hJ hz eU eV HR hfA hfB
      go_wp2
      have x0 := HP.out.c0
      have x1 := HP.out.c1
      have y0 := HQ.out.c0
      have y1 := HQ.out.c1
      refine wp_region_till (fun w' => w'.cell? ⟨w1.heap.size, 0, none⟩ = some (.int .i64 (p1 : Int)) ∧ w'.cell? ⟨w1.heap.size, 1, none⟩ = some (.int .i64 (p2 : Int)) ∧ w'.cell? ⟨w1.heap.size + 1, 0, none⟩ = some (.int .i64 (s1 : Int)) ∧ w'.cell? ⟨w1.heap.size + 1, 1, none⟩ = some (.int .i64 (s2 : Int))) [0, 1, 2, 3, 4, 5, 6, 7, 8, 9, 10, 11, 12, 13] (by kernel_rfl) ⟨x0, x1, y0, y1⟩ (fun hHeld => ?_)
      refine wpTill_take (i := 0) 1 (v := ?va7x0) rfl (by kernel_rfl) (by kernel_rfl) (by kernel_rfl) (by kernel_rfl) (fun _ _ _ h => h) (Or.inl ⟨by rfl, ?hy7x0⟩) hHeld ?re7x0
      case hy7x0 => (intro w9 hSw; (try dsimp only at hSw); go_simp; try with_reducible rfl)
      refine wpTill_take (i := 1) 6 (v := ?va8x1) rfl (by kernel_rfl) (by kernel_rfl) (by kernel_rfl) (by kernel_rfl) (fun _ _ _ h => h) (Or.inl ⟨by rfl, ?hy8x1⟩) hHeld ?re8x1
      case hy8x1 => (intro w9 hSw; (try dsimp only at hSw); go_simp; try with_reducible rfl)
      refine wpTill_take (i := 2) 3 (v := ?va9x2) rfl (by kernel_rfl) (by kernel_rfl) (by kernel_rfl) (by kernel_rfl) (fun _ _ _ h => h) (Or.inl ⟨by rfl, ?hy9x2⟩) hHeld ?re9x2
      case hy9x2 => (intro w9 hSw; (try dsimp only at hSw); go_simp; try with_reducible rfl)
      refine wpTill_take (i := 3) 5 (v := ?va10x3) rfl (by kernel_rfl) (by kernel_rfl) (by kernel_rfl) (by kernel_rfl) (fun _ _ _ h => h) (Or.inl ⟨by rfl, ?hy10x3⟩) hHeld ?re10x3
      case hy10x3 => (intro w9 hSw; (try dsimp only at hSw); go_simp; try with_reducible rfl)
      refine wpTill_take (i := 4) 5 (v := ?va11x4) rfl (by kernel_rfl) (by kernel_rfl) (by kernel_rfl) (by kernel_rfl) (fun _ _ _ h => h) (Or.inl ⟨by rfl, ?hy11x4⟩) hHeld ?re11x4
      case hy11x4 => (intro w9 hSw; (try dsimp only at hSw); go_simp; try with_reducible rfl)
      refine wpTill_take (i := 5) 6 (v := ?va12x5) rfl (by kernel_rfl) (by kernel_rfl) (by kernel_rfl) (by kernel_rfl) (fun _ _ _ h => h) (Or.inl ⟨by rfl, ?hy12x5⟩) hHeld ?re12x5
      case hy12x5 => (intro w9 hSw; (try dsimp only at hSw); go_simp; try with_reducible rfl)
      refine wpTill_take (i := 7) 8 (v := ?va13x7) rfl (by kernel_rfl) (by kernel_rfl) (by kernel_rfl) (by kernel_rfl) (fun _ _ _ h => h) (Or.inl ⟨by rfl, ?hy13x7⟩) hHeld ?re13x7
      case hy13x7 => (intro w9 hSw; (try dsimp only at hSw); go_simp; try with_reducible rfl)
      refine wpTill_take (i := 8) 13 (v := ?va14x8) rfl (by kernel_rfl) (by kernel_rfl) (by kernel_rfl) (by kernel_rfl) (fun _ _ _ h => h) (Or.inl ⟨by rfl, ?hy14x8⟩) hHeld ?re14x8
      case hy14x8 => (intro w9 hSw; (try dsimp only at hSw); go_simp; try with_reducible rfl)
      refine wpTill_take (i := 9) 10 (v := ?va15x9) rfl (by kernel_rfl) (by kernel_rfl) (by kernel_rfl) (by kernel_rfl) (fun _ _ _ h => h) (Or.inl ⟨by rfl, ?hy15x9⟩) hHeld ?re15x9
      case hy15x9 => (intro w9 hSw; (try dsimp only at hSw); go_simp; try with_reducible rfl)
      refine wpTill_take (i := 10) 12 (v := ?va16x10) rfl (by kernel_rfl) (by kernel_rfl) (by kernel_rfl) (by kernel_rfl) (fun _ _ _ h => h) (Or.inl ⟨by rfl, ?hy16x10⟩) hHeld ?re16x10
      case hy16x10 => (intro w9 hSw; (try dsimp only at hSw); go_simp; try with_reducible rfl)
      refine wpTill_take (i := 11) 12 (v := ?va17x11) rfl (by kernel_rfl) (by kernel_rfl) (by kernel_rfl) (by kernel_rfl) (fun _ _ _ h => h) (Or.inl ⟨by rfl, ?hy17x11⟩) hHeld ?re17x11
      case hy17x11 => (intro w9 hSw; (try dsimp only at hSw); go_simp; try with_reducible rfl)
      refine wpTill_take (i := 12) 13 (v := ?va18x12) rfl (by kernel_rfl) (by kernel_rfl) (by kernel_rfl) (by kernel_rfl) (fun _ _ _ h => h) (Or.inl ⟨by rfl, ?hy18x12⟩) hHeld ?re18x12
      case hy18x12 => (intro w9 hSw; (try dsimp only at hSw); go_simp; try with_reducible rfl)
      refine wpTill_next (rs := [6]) (by kernel_rfl) (by simp) ?_
      refine NextTill.cons rfl (fun K hK => ?_) NextTill.nil
      go_simp
      (go_at_call 44; (with_reducible refine (cQA _).mono ?_); rintro e w3 ⟨rfl, hb3⟩; have HP3 := Lib.hid ((HP.out.step (Below.refl _ _).drew).step hb3); have HQ3 := Lib.hid ((HQ.out.step (Below.refl _ _).drew).step hb3); have HX3 := Lib.hid (below_next HX.out.drew hb3); clear HP HQ HX hb3 x0 x1 y0 y1; have x0 := HP3.out.c0; have x1 := HP3.out.c1; have y0 := HQ3.out.c0; have y1 := HQ3.out.c1)
      refine hK.out _ _ (fun _ => ⟨x0, x1, y0, y1⟩) ?_
      clear hK K hHeld
      refine wpTill_next (rs := [13]) (by kernel_rfl) (by simp) ?_
      refine NextTill.cons rfl (fun K hK => ?_) NextTill.nil
      go_simp
      (go_at_call 44; (with_reducible refine (cQB _).mono ?_); rintro e w4 ⟨rfl, hb4⟩; have HP4 := Lib.hid (HP3.out.step hb4); have HQ4 := Lib.hid (HQ3.out.step hb4); have HX4 := Lib.hid (below_next HX3.out hb4); clear HP3 HQ3 HX3 hb4 x0 x1 y0 y1; have x0 := HP4.out.c0; have x1 := HP4.out.c1; have f0 := HP4.out.f 0; have f1 := HP4.out.f 1)
      refine hK.out _ _ (fun h => Bool.noConfusion (h.symm.trans (by kernel_rfl : _ = false))) ?_
      clear hK K
      refine wpTill_next (rs := [14]) (by kernel_rfl) (by simp) ?_
      refine NextTill.cons rfl (fun K hK => ?_) NextTill.nil
      go_simp
      refine hK.out _ _ (fun h => Bool.noConfusion (h.symm.trans (by kernel_rfl : _ = false))) ?_
      clear hK K x0 x1 f0 f1
      have HP5 := Lib.hid (HP4.out.put (u1 : Int) (u2 : Int))
      have HQ5 := Lib.hid (HQ4.out.far (G := w1.heap.size) (by omega) (.int .i64 (u1 : Int)) (.int .i64 (u2 : Int)))
      have HX5 := Lib.hid (below_set (below_set HX4.out (a := ⟨w1.heap.size, 0, none⟩) (by show _ ≤ w1.heap.size; omega) (.int .i64 (u1 : Int))) (a := ⟨w1.heap.size, 1, none⟩) (by show _ ≤ w1.heap.size; omega) (.int .i64 (u2 : Int)))
      clear HP4 HQ4 HX4
      obtain ⟨w5, hw5⟩ : ∃ x, x = (w4.setCell ⟨w1.heap.size, 0, none⟩ (.int .i64 (u1 : Int))).setCell ⟨w1.heap.size, 1, none⟩ (.int .i64 (u2 : Int)) := ⟨_, rfl⟩
      rw [← hw5] at HP5 HQ5 HX5 ⊢
      clear hw5
      have y0 := HQ5.out.c0
      have y1 := HQ5.out.c1
      have f0 := HQ5.out.f 0
      have f1 := HQ5.out.f 1
      refine wpTill_next (rs := [15]) (by kernel_rfl) (by simp) ?_
      refine NextTill.cons rfl (fun K hK => ?_) NextTill.nil
      go_simp
      refine hK.out _ _ (fun h => Bool.noConfusion (h.symm.trans (by kernel_rfl : _ = false))) ?_
      clear hK K y0 y1 f0 f1
      refine wpTill_done (by kernel_rfl) ?_ _
      have HQ6 := Lib.hid (HQ5.out.put (v1 : Int) (v2 : Int))
      have HP6 := Lib.hid (HP5.out.far (G := w1.heap.size + 1) (by omega) (.int .i64 (v1 : Int)) (.int .i64 (v2 : Int)))
      have HX6 := Lib.hid (below_set (below_set HX5.out (a := ⟨w1.heap.size + 1, 0, none⟩) (by show _ ≤ w1.heap.size + 1; omega) (.int .i64 (v1 : Int))) (a := ⟨w1.heap.size + 1, 1, none⟩) (by show _ ≤ w1.heap.size + 1; omega) (.int .i64 (v2 : Int)))
      clear HP5 HQ5 HX5
      obtain ⟨w6, hw6⟩ : ∃ x, x = (w5.setCell ⟨w1.heap.size + 1, 0, none⟩ (.int .i64 (v1 : Int))).setCell ⟨w1.heap.size + 1, 1, none⟩ (.int .i64 (v2 : Int)) := ⟨_, rfl⟩
      rw [← hw6] at HP6 HQ6 HX6 ⊢
      clear hw6 m1 m2 a1 a2 bp1 bp2 bs1 bs2
      have c1 : (0 : Int) ≤ (c : Int) := Int.natCast_nonneg _
      have c2 : (c : Int) ≤ 9 := cast_le9 a3
      have c3 : (0 : Int) ≤ (M4 : Int) := Int.natCast_nonneg _
      have c4 : (M4 : Int) ≤ 5184000000000000 := cast_le4 a8
      have c5 : (0 : Int) ≤ (M5 : Int) := Int.natCast_nonneg _
      have c6 : (M5 : Int) ≤ 576000000000000 := cast_le5 a6
      clear a3 a4 a5 a6 a7 a8 bu1 bu2 bv1 bv2 hb3 i5 i6 cQA cQB
      generalize (c : Int) = cz at *
      generalize (u1 : Int) = u1z at *
      generalize (u2 : Int) = u2z at *
      generalize (v1 : Int) = v1z at *
      generalize (v2 : Int) = v2z at *
      generalize (M1 : Int) = M1z at *
      generalize (M2 : Int) = M2z at *
      generalize (M3 : Int) = M3z at *
      generalize (M4 : Int) = M4z at *
      generalize (M5 : Int) = M5z at *
      generalize hbz : (beta : Int) = bz at *
      have HBZ := Lib.hid hbz
      clear hbz
      have x0 := HP6.out.c0
      have x1 := HP6.out.c1
      have y0 := HQ6.out.c0
      have y1 := HQ6.out.c1
      go_wp2_with (go_at_call 44; (with_reducible refine (cQF _).mono ?_); rintro e w7 ⟨rfl, hb7⟩
                   have HX7 := Lib.hid (below_next HX6.out hb7)
                   have HF7 := Lib.hid (HF.out.step HX7.out)
                   have HB7 := Lib.hid (below_next HBW.out HX7.out)
                   clear hb7 x0 x1 y0 y1
                   have x0 := HF7.out.c0
                   have x1 := HF7.out.c1
                   have f0 := HF7.out.f 0
                   have f1 := HF7.out.f 1)
      have hfin := HF7.out.put (z1 : Int) (z2 : Int)
      refine bodyPost_ret (results_ct (xs := [.int .i64 (z1 : Int), .int .i64 (z2 : Int)]) rfl rfl rfl agF zgF (two_cells ((Lib.cell_of_heap hfin _).trans rfl) ((Lib.cell_of_heap hfin _).trans rfl))) rfl ?_
      exact ⟨by rw [HBZ.out, HZ.out]; rfl, below_set (below_set HB7.out (Nat.le_refl _) _) (Nat.le_refl _) _⟩
end Go.Proofs.YthgllfbigcoaiaaGreatDoor
namespace Go.Proofs.YthgllfbigcoaiaaGreatDoor
open Go Go.RowKit Go.Lib
set_option maxRecDepth 100000
theorem refQuotient_fr (h g : Nat) (w : World) (hh : h ≤ 4611686018427387904) (hg : g ≤ 4611686018427387904) :
    Calls Tryz.prog 45 #[.int .i64 h, .int .i64 g] w fun e w' => e = .returned (.agg #[.int .i64 ((quN h g).1 : Int), .int .i64 ((quN h g).2 : Int)]) ∧ Below w.heap.size w w' := by
  have := refQuotient_any h g w hh hg
  rw [quoV_fr] at this
  exact this
set_option maxHeartbeats 16000000 in
theorem refUnitF_early (a b : ByteArray) (n beta : Int) (w : World) (ha : a.size ≤ 900) (hb : b.size ≤ 900) (h : unE a b n beta ≠ 0) :
    Calls Tryz.prog 21 #[.string a, .string b, .int .i64 n, .int .i64 beta] w fun e w' => e = .returned (unR a b n beta) ∧ Below w.heap.size w w' := by
  have agF := Tryz.isAgg35
  have zgF := Tryz.sizeOf35
  have HF : Hid (FrAt w.heap.size 0 0 (w.alloc (.cells #[.int .i64 0, .int .i64 0] 35))) := FrAt.new w 0 0
  have HBW : Hid (Below w.heap.size w (w.alloc (.cells #[.int .i64 0, .int .i64 0] 35))) := below_box _
  have cA := fun w' => D.refText_any a w' (Nat.le_trans ha (by decide))
  have cB := fun w' => D.refText_any b w' (Nat.le_trans hb (by decide))
  have cUA := fun w' => single_any a w' ha
  have cUB := fun w' => single_any b w' hb
  unfold UnEnd at cUA cUB
  have x0 := HF.out.c0
  have x1 := HF.out.c1
  have f0 := HF.out.f 0
  have f1 := HF.out.f 1
  have HE : Hid (unE a b n beta = if D.textB a = false ∨ D.textB b = false then 4 else if 200 < (unitsB a).length ∨ 200 < (unitsB b).length then 3 else if n < 1 ∨ 3 < n ∨ beta < 1 ∨ 3 < beta then 1 else 0) := rfl
  have HR := Lib.hid (fun z h0 => unR_no (a := a) (b := b) (n := n) (beta := beta) (z := z) h0)
  generalize unE a b n beta = E at *
  generalize unR a b n beta = R at *
  generalize D.textB a = ta at *
  generalize D.textB b = tb at *
  generalize unitsB a = A at *
  generalize unitsB b = B at *
  have key : (ta = false) ∨ (ta = true ∧ tb = false) ∨ (ta = true ∧ tb = true ∧ (200 : Int) < (A.length : Int)) ∨ (ta = true ∧ tb = true ∧ ¬ (200 : Int) < (A.length : Int) ∧ (200 : Int) < (B.length : Int)) ∨ (ta = true ∧ tb = true ∧ ¬ (200 : Int) < (A.length : Int) ∧ ¬ (200 : Int) < (B.length : Int) ∧ (n < 1 ∨ (¬ n < 1 ∧ 3 < n) ∨ (¬ n < 1 ∧ ¬ 3 < n ∧ beta < 1) ∨ (¬ n < 1 ∧ ¬ 3 < n ∧ ¬ beta < 1 ∧ 3 < beta))) := by
    have he := HE.out
    cases ta <;> cases tb <;> simp at he ⊢
    by_cases h1 : 200 < A.length <;> by_cases h2 : 200 < B.length <;> simp [h1, h2] at he ⊢ <;> try omega
  have key2 : ∃ z : Int, E = z ∧ z ≠ 0 := ⟨E, rfl, h⟩
  have HZ : Hid (R = .tuple #[.agg #[.int .i64 0, .int .i64 0], .int .u8 E]) := HR.out E rfl h
  clear HR key2
  rcases key with rfl | ⟨rfl, rfl⟩ | ⟨rfl, rfl, i1⟩ | ⟨rfl, rfl, i1, i2⟩ | ⟨rfl, rfl, i1, i2, i3 | ⟨i3, i4⟩ | ⟨i3, i4, i5⟩ | ⟨i3, i4, i5, i6⟩⟩
  · have hE : E = 4 := by
      have he := HE.out
      rw [he]
      rw [if_pos (by simp)]
    rw [hE] at HZ
    clear HE hE h
    go_enter Tryz.func21, Tryz.ntmps21
    go_wp2_with (first
      | (go_at_call 50; (with_reducible refine (cA _).mono ?_); rintro e w1 ⟨rfl, hb1⟩; have HF1 := Lib.hid (HF.out.step hb1); have HB1 := Lib.hid (below_next HBW.out hb1); clear HF HBW x0 x1 f0 f1; have HF := HF1; have HBW := HB1; clear HF1 HB1; have x0 := HF.out.c0; have x1 := HF.out.c1; have f0 := HF.out.f 0; have f1 := HF.out.f 1; clear hb1)
      | (go_at_call 50; (with_reducible refine (cB _).mono ?_); rintro e w1 ⟨rfl, hb1⟩; have HF1 := Lib.hid (HF.out.step hb1); have HB1 := Lib.hid (below_next HBW.out hb1); clear HF HBW x0 x1 f0 f1; have HF := HF1; have HBW := HB1; clear HF1 HB1; have x0 := HF.out.c0; have x1 := HF.out.c1; have f0 := HF.out.f 0; have f1 := HF.out.f 1; clear hb1)
      | (go_at_call 51; (with_reducible refine (cUA _).mono ?_); rintro e w1 ⟨⟨ao, ca, rfl, hWA⟩, hb1⟩; have HF1 := Lib.hid (HF.out.step hb1); have HB1 := Lib.hid (below_next HBW.out hb1); clear HF HBW x0 x1 f0 f1; have HF := HF1; have HBW := HB1; clear HF1 HB1; have x0 := HF.out.c0; have x1 := HF.out.c1; have f0 := HF.out.f 0; have f1 := HF.out.f 1; clear hb1 hWA)
      | (go_at_call 51; (with_reducible refine (cUB _).mono ?_); rintro e w1 ⟨⟨bo, cb, rfl, hWB⟩, hb1⟩; have HF1 := Lib.hid (HF.out.step hb1); have HB1 := Lib.hid (below_next HBW.out hb1); clear HF HBW x0 x1 f0 f1; have HF := HF1; have HBW := HB1; clear HF1 HB1; have x0 := HF.out.c0; have x1 := HF.out.c1; have f0 := HF.out.f 0; have f1 := HF.out.f 1; clear hb1 hWB))
    have hfin := HF.out.put 0 0
    refine bodyPost_ret (results_ct (xs := [.int .i64 0, .int .i64 0]) rfl rfl rfl agF zgF (two_cells ((Lib.cell_of_heap hfin _).trans rfl) ((Lib.cell_of_heap hfin _).trans rfl))) rfl ?_
    exact ⟨by rw [HZ.out]; rfl, below_set (below_set HBW.out (Nat.le_refl _) _) (Nat.le_refl _) _⟩
  · have hE : E = 4 := by
      have he := HE.out
      rw [he]
      rw [if_pos (by simp)]
    rw [hE] at HZ
    clear HE hE h
    go_enter Tryz.func21, Tryz.ntmps21
    go_wp2_with (first
      | (go_at_call 50; (with_reducible refine (cA _).mono ?_); rintro e w1 ⟨rfl, hb1⟩; have HF1 := Lib.hid (HF.out.step hb1); have HB1 := Lib.hid (below_next HBW.out hb1); clear HF HBW x0 x1 f0 f1; have HF := HF1; have HBW := HB1; clear HF1 HB1; have x0 := HF.out.c0; have x1 := HF.out.c1; have f0 := HF.out.f 0; have f1 := HF.out.f 1; clear hb1)
      | (go_at_call 50; (with_reducible refine (cB _).mono ?_); rintro e w1 ⟨rfl, hb1⟩; have HF1 := Lib.hid (HF.out.step hb1); have HB1 := Lib.hid (below_next HBW.out hb1); clear HF HBW x0 x1 f0 f1; have HF := HF1; have HBW := HB1; clear HF1 HB1; have x0 := HF.out.c0; have x1 := HF.out.c1; have f0 := HF.out.f 0; have f1 := HF.out.f 1; clear hb1)
      | (go_at_call 51; (with_reducible refine (cUA _).mono ?_); rintro e w1 ⟨⟨ao, ca, rfl, hWA⟩, hb1⟩; have HF1 := Lib.hid (HF.out.step hb1); have HB1 := Lib.hid (below_next HBW.out hb1); clear HF HBW x0 x1 f0 f1; have HF := HF1; have HBW := HB1; clear HF1 HB1; have x0 := HF.out.c0; have x1 := HF.out.c1; have f0 := HF.out.f 0; have f1 := HF.out.f 1; clear hb1 hWA)
      | (go_at_call 51; (with_reducible refine (cUB _).mono ?_); rintro e w1 ⟨⟨bo, cb, rfl, hWB⟩, hb1⟩; have HF1 := Lib.hid (HF.out.step hb1); have HB1 := Lib.hid (below_next HBW.out hb1); clear HF HBW x0 x1 f0 f1; have HF := HF1; have HBW := HB1; clear HF1 HB1; have x0 := HF.out.c0; have x1 := HF.out.c1; have f0 := HF.out.f 0; have f1 := HF.out.f 1; clear hb1 hWB))
    have hfin := HF.out.put 0 0
    refine bodyPost_ret (results_ct (xs := [.int .i64 0, .int .i64 0]) rfl rfl rfl agF zgF (two_cells ((Lib.cell_of_heap hfin _).trans rfl) ((Lib.cell_of_heap hfin _).trans rfl))) rfl ?_
    exact ⟨by rw [HZ.out]; rfl, below_set (below_set HBW.out (Nat.le_refl _) _) (Nat.le_refl _) _⟩
  · have hE : E = 3 := by
      have he := HE.out
      rw [he]
      rw [if_neg (by simp), if_pos (by omega)]
    rw [hE] at HZ
    clear HE hE h
    go_enter Tryz.func21, Tryz.ntmps21
    go_wp2_with (first
      | (go_at_call 50; (with_reducible refine (cA _).mono ?_); rintro e w1 ⟨rfl, hb1⟩; have HF1 := Lib.hid (HF.out.step hb1); have HB1 := Lib.hid (below_next HBW.out hb1); clear HF HBW x0 x1 f0 f1; have HF := HF1; have HBW := HB1; clear HF1 HB1; have x0 := HF.out.c0; have x1 := HF.out.c1; have f0 := HF.out.f 0; have f1 := HF.out.f 1; clear hb1)
      | (go_at_call 50; (with_reducible refine (cB _).mono ?_); rintro e w1 ⟨rfl, hb1⟩; have HF1 := Lib.hid (HF.out.step hb1); have HB1 := Lib.hid (below_next HBW.out hb1); clear HF HBW x0 x1 f0 f1; have HF := HF1; have HBW := HB1; clear HF1 HB1; have x0 := HF.out.c0; have x1 := HF.out.c1; have f0 := HF.out.f 0; have f1 := HF.out.f 1; clear hb1)
      | (go_at_call 51; (with_reducible refine (cUA _).mono ?_); rintro e w1 ⟨⟨ao, ca, rfl, hWA⟩, hb1⟩; have HF1 := Lib.hid (HF.out.step hb1); have HB1 := Lib.hid (below_next HBW.out hb1); clear HF HBW x0 x1 f0 f1; have HF := HF1; have HBW := HB1; clear HF1 HB1; have x0 := HF.out.c0; have x1 := HF.out.c1; have f0 := HF.out.f 0; have f1 := HF.out.f 1; clear hb1 hWA)
      | (go_at_call 51; (with_reducible refine (cUB _).mono ?_); rintro e w1 ⟨⟨bo, cb, rfl, hWB⟩, hb1⟩; have HF1 := Lib.hid (HF.out.step hb1); have HB1 := Lib.hid (below_next HBW.out hb1); clear HF HBW x0 x1 f0 f1; have HF := HF1; have HBW := HB1; clear HF1 HB1; have x0 := HF.out.c0; have x1 := HF.out.c1; have f0 := HF.out.f 0; have f1 := HF.out.f 1; clear hb1 hWB))
    have hfin := HF.out.put 0 0
    refine bodyPost_ret (results_ct (xs := [.int .i64 0, .int .i64 0]) rfl rfl rfl agF zgF (two_cells ((Lib.cell_of_heap hfin _).trans rfl) ((Lib.cell_of_heap hfin _).trans rfl))) rfl ?_
    exact ⟨by rw [HZ.out]; rfl, below_set (below_set HBW.out (Nat.le_refl _) _) (Nat.le_refl _) _⟩
  · have hE : E = 3 := by
      have he := HE.out
      rw [he]
      rw [if_neg (by simp), if_pos (by omega)]
    rw [hE] at HZ
    clear HE hE h
    go_enter Tryz.func21, Tryz.ntmps21
    go_wp2_with (first
      | (go_at_call 50; (with_reducible refine (cA _).mono ?_); rintro e w1 ⟨rfl, hb1⟩; have HF1 := Lib.hid (HF.out.step hb1); have HB1 := Lib.hid (below_next HBW.out hb1); clear HF HBW x0 x1 f0 f1; have HF := HF1; have HBW := HB1; clear HF1 HB1; have x0 := HF.out.c0; have x1 := HF.out.c1; have f0 := HF.out.f 0; have f1 := HF.out.f 1; clear hb1)
      | (go_at_call 50; (with_reducible refine (cB _).mono ?_); rintro e w1 ⟨rfl, hb1⟩; have HF1 := Lib.hid (HF.out.step hb1); have HB1 := Lib.hid (below_next HBW.out hb1); clear HF HBW x0 x1 f0 f1; have HF := HF1; have HBW := HB1; clear HF1 HB1; have x0 := HF.out.c0; have x1 := HF.out.c1; have f0 := HF.out.f 0; have f1 := HF.out.f 1; clear hb1)
      | (go_at_call 51; (with_reducible refine (cUA _).mono ?_); rintro e w1 ⟨⟨ao, ca, rfl, hWA⟩, hb1⟩; have HF1 := Lib.hid (HF.out.step hb1); have HB1 := Lib.hid (below_next HBW.out hb1); clear HF HBW x0 x1 f0 f1; have HF := HF1; have HBW := HB1; clear HF1 HB1; have x0 := HF.out.c0; have x1 := HF.out.c1; have f0 := HF.out.f 0; have f1 := HF.out.f 1; clear hb1 hWA)
      | (go_at_call 51; (with_reducible refine (cUB _).mono ?_); rintro e w1 ⟨⟨bo, cb, rfl, hWB⟩, hb1⟩; have HF1 := Lib.hid (HF.out.step hb1); have HB1 := Lib.hid (below_next HBW.out hb1); clear HF HBW x0 x1 f0 f1; have HF := HF1; have HBW := HB1; clear HF1 HB1; have x0 := HF.out.c0; have x1 := HF.out.c1; have f0 := HF.out.f 0; have f1 := HF.out.f 1; clear hb1 hWB))
    have hfin := HF.out.put 0 0
    refine bodyPost_ret (results_ct (xs := [.int .i64 0, .int .i64 0]) rfl rfl rfl agF zgF (two_cells ((Lib.cell_of_heap hfin _).trans rfl) ((Lib.cell_of_heap hfin _).trans rfl))) rfl ?_
    exact ⟨by rw [HZ.out]; rfl, below_set (below_set HBW.out (Nat.le_refl _) _) (Nat.le_refl _) _⟩
  · have hE : E = 1 := by
      have he := HE.out
      rw [he]
      rw [if_neg (by simp), if_neg (by omega), if_pos (by omega)]
    rw [hE] at HZ
    clear HE hE h
    go_enter Tryz.func21, Tryz.ntmps21
    go_wp2_with (first
      | (go_at_call 50; (with_reducible refine (cA _).mono ?_); rintro e w1 ⟨rfl, hb1⟩; have HF1 := Lib.hid (HF.out.step hb1); have HB1 := Lib.hid (below_next HBW.out hb1); clear HF HBW x0 x1 f0 f1; have HF := HF1; have HBW := HB1; clear HF1 HB1; have x0 := HF.out.c0; have x1 := HF.out.c1; have f0 := HF.out.f 0; have f1 := HF.out.f 1; clear hb1)
      | (go_at_call 50; (with_reducible refine (cB _).mono ?_); rintro e w1 ⟨rfl, hb1⟩; have HF1 := Lib.hid (HF.out.step hb1); have HB1 := Lib.hid (below_next HBW.out hb1); clear HF HBW x0 x1 f0 f1; have HF := HF1; have HBW := HB1; clear HF1 HB1; have x0 := HF.out.c0; have x1 := HF.out.c1; have f0 := HF.out.f 0; have f1 := HF.out.f 1; clear hb1)
      | (go_at_call 51; (with_reducible refine (cUA _).mono ?_); rintro e w1 ⟨⟨ao, ca, rfl, hWA⟩, hb1⟩; have HF1 := Lib.hid (HF.out.step hb1); have HB1 := Lib.hid (below_next HBW.out hb1); clear HF HBW x0 x1 f0 f1; have HF := HF1; have HBW := HB1; clear HF1 HB1; have x0 := HF.out.c0; have x1 := HF.out.c1; have f0 := HF.out.f 0; have f1 := HF.out.f 1; clear hb1 hWA)
      | (go_at_call 51; (with_reducible refine (cUB _).mono ?_); rintro e w1 ⟨⟨bo, cb, rfl, hWB⟩, hb1⟩; have HF1 := Lib.hid (HF.out.step hb1); have HB1 := Lib.hid (below_next HBW.out hb1); clear HF HBW x0 x1 f0 f1; have HF := HF1; have HBW := HB1; clear HF1 HB1; have x0 := HF.out.c0; have x1 := HF.out.c1; have f0 := HF.out.f 0; have f1 := HF.out.f 1; clear hb1 hWB))
    have hfin := HF.out.put 0 0
    refine bodyPost_ret (results_ct (xs := [.int .i64 0, .int .i64 0]) rfl rfl rfl agF zgF (two_cells ((Lib.cell_of_heap hfin _).trans rfl) ((Lib.cell_of_heap hfin _).trans rfl))) rfl ?_
    exact ⟨by rw [HZ.out]; rfl, below_set (below_set HBW.out (Nat.le_refl _) _) (Nat.le_refl _) _⟩
  · have hE : E = 1 := by
      have he := HE.out
      rw [he]
      rw [if_neg (by simp), if_neg (by omega), if_pos (by omega)]
    rw [hE] at HZ
    clear HE hE h
    go_enter Tryz.func21, Tryz.ntmps21
    go_wp2_with (first
      | (go_at_call 50; (with_reducible refine (cA _).mono ?_); rintro e w1 ⟨rfl, hb1⟩; have HF1 := Lib.hid (HF.out.step hb1); have HB1 := Lib.hid (below_next HBW.out hb1); clear HF HBW x0 x1 f0 f1; have HF := HF1; have HBW := HB1; clear HF1 HB1; have x0 := HF.out.c0; have x1 := HF.out.c1; have f0 := HF.out.f 0; have f1 := HF.out.f 1; clear hb1)
      | (go_at_call 50; (with_reducible refine (cB _).mono ?_); rintro e w1 ⟨rfl, hb1⟩; have HF1 := Lib.hid (HF.out.step hb1); have HB1 := Lib.hid (below_next HBW.out hb1); clear HF HBW x0 x1 f0 f1; have HF := HF1; have HBW := HB1; clear HF1 HB1; have x0 := HF.out.c0; have x1 := HF.out.c1; have f0 := HF.out.f 0; have f1 := HF.out.f 1; clear hb1)
      | (go_at_call 51; (with_reducible refine (cUA _).mono ?_); rintro e w1 ⟨⟨ao, ca, rfl, hWA⟩, hb1⟩; have HF1 := Lib.hid (HF.out.step hb1); have HB1 := Lib.hid (below_next HBW.out hb1); clear HF HBW x0 x1 f0 f1; have HF := HF1; have HBW := HB1; clear HF1 HB1; have x0 := HF.out.c0; have x1 := HF.out.c1; have f0 := HF.out.f 0; have f1 := HF.out.f 1; clear hb1 hWA)
      | (go_at_call 51; (with_reducible refine (cUB _).mono ?_); rintro e w1 ⟨⟨bo, cb, rfl, hWB⟩, hb1⟩; have HF1 := Lib.hid (HF.out.step hb1); have HB1 := Lib.hid (below_next HBW.out hb1); clear HF HBW x0 x1 f0 f1; have HF := HF1; have HBW := HB1; clear HF1 HB1; have x0 := HF.out.c0; have x1 := HF.out.c1; have f0 := HF.out.f 0; have f1 := HF.out.f 1; clear hb1 hWB))
    have hfin := HF.out.put 0 0
    refine bodyPost_ret (results_ct (xs := [.int .i64 0, .int .i64 0]) rfl rfl rfl agF zgF (two_cells ((Lib.cell_of_heap hfin _).trans rfl) ((Lib.cell_of_heap hfin _).trans rfl))) rfl ?_
    exact ⟨by rw [HZ.out]; rfl, below_set (below_set HBW.out (Nat.le_refl _) _) (Nat.le_refl _) _⟩
  · have hE : E = 1 := by
      have he := HE.out
      rw [he]
      rw [if_neg (by simp), if_neg (by omega), if_pos (by omega)]
    rw [hE] at HZ
    clear HE hE h
    go_enter Tryz.func21, Tryz.ntmps21
    go_wp2_with (first
      | (go_at_call 50; (with_reducible refine (cA _).mono ?_); rintro e w1 ⟨rfl, hb1⟩; have HF1 := Lib.hid (HF.out.step hb1); have HB1 := Lib.hid (below_next HBW.out hb1); clear HF HBW x0 x1 f0 f1; have HF := HF1; have HBW := HB1; clear HF1 HB1; have x0 := HF.out.c0; have x1 := HF.out.c1; have f0 := HF.out.f 0; have f1 := HF.out.f 1; clear hb1)
      | (go_at_call 50; (with_reducible refine (cB _).mono ?_); rintro e w1 ⟨rfl, hb1⟩; have HF1 := Lib.hid (HF.out.step hb1); have HB1 := Lib.hid (below_next HBW.out hb1); clear HF HBW x0 x1 f0 f1; have HF := HF1; have HBW := HB1; clear HF1 HB1; have x0 := HF.out.c0; have x1 := HF.out.c1; have f0 := HF.out.f 0; have f1 := HF.out.f 1; clear hb1)
      | (go_at_call 51; (with_reducible refine (cUA _).mono ?_); rintro e w1 ⟨⟨ao, ca, rfl, hWA⟩, hb1⟩; have HF1 := Lib.hid (HF.out.step hb1); have HB1 := Lib.hid (below_next HBW.out hb1); clear HF HBW x0 x1 f0 f1; have HF := HF1; have HBW := HB1; clear HF1 HB1; have x0 := HF.out.c0; have x1 := HF.out.c1; have f0 := HF.out.f 0; have f1 := HF.out.f 1; clear hb1 hWA)
      | (go_at_call 51; (with_reducible refine (cUB _).mono ?_); rintro e w1 ⟨⟨bo, cb, rfl, hWB⟩, hb1⟩; have HF1 := Lib.hid (HF.out.step hb1); have HB1 := Lib.hid (below_next HBW.out hb1); clear HF HBW x0 x1 f0 f1; have HF := HF1; have HBW := HB1; clear HF1 HB1; have x0 := HF.out.c0; have x1 := HF.out.c1; have f0 := HF.out.f 0; have f1 := HF.out.f 1; clear hb1 hWB))
    have hfin := HF.out.put 0 0
    refine bodyPost_ret (results_ct (xs := [.int .i64 0, .int .i64 0]) rfl rfl rfl agF zgF (two_cells ((Lib.cell_of_heap hfin _).trans rfl) ((Lib.cell_of_heap hfin _).trans rfl))) rfl ?_
    exact ⟨by rw [HZ.out]; rfl, below_set (below_set HBW.out (Nat.le_refl _) _) (Nat.le_refl _) _⟩
  · have hE : E = 1 := by
      have he := HE.out
      rw [he]
      rw [if_neg (by simp), if_neg (by omega), if_pos (by omega)]
    rw [hE] at HZ
    clear HE hE h
    go_enter Tryz.func21, Tryz.ntmps21
    go_wp2_with (first
      | (go_at_call 50; (with_reducible refine (cA _).mono ?_); rintro e w1 ⟨rfl, hb1⟩; have HF1 := Lib.hid (HF.out.step hb1); have HB1 := Lib.hid (below_next HBW.out hb1); clear HF HBW x0 x1 f0 f1; have HF := HF1; have HBW := HB1; clear HF1 HB1; have x0 := HF.out.c0; have x1 := HF.out.c1; have f0 := HF.out.f 0; have f1 := HF.out.f 1; clear hb1)
      | (go_at_call 50; (with_reducible refine (cB _).mono ?_); rintro e w1 ⟨rfl, hb1⟩; have HF1 := Lib.hid (HF.out.step hb1); have HB1 := Lib.hid (below_next HBW.out hb1); clear HF HBW x0 x1 f0 f1; have HF := HF1; have HBW := HB1; clear HF1 HB1; have x0 := HF.out.c0; have x1 := HF.out.c1; have f0 := HF.out.f 0; have f1 := HF.out.f 1; clear hb1)
      | (go_at_call 51; (with_reducible refine (cUA _).mono ?_); rintro e w1 ⟨⟨ao, ca, rfl, hWA⟩, hb1⟩; have HF1 := Lib.hid (HF.out.step hb1); have HB1 := Lib.hid (below_next HBW.out hb1); clear HF HBW x0 x1 f0 f1; have HF := HF1; have HBW := HB1; clear HF1 HB1; have x0 := HF.out.c0; have x1 := HF.out.c1; have f0 := HF.out.f 0; have f1 := HF.out.f 1; clear hb1 hWA)
      | (go_at_call 51; (with_reducible refine (cUB _).mono ?_); rintro e w1 ⟨⟨bo, cb, rfl, hWB⟩, hb1⟩; have HF1 := Lib.hid (HF.out.step hb1); have HB1 := Lib.hid (below_next HBW.out hb1); clear HF HBW x0 x1 f0 f1; have HF := HF1; have HBW := HB1; clear HF1 HB1; have x0 := HF.out.c0; have x1 := HF.out.c1; have f0 := HF.out.f 0; have f1 := HF.out.f 1; clear hb1 hWB))
    have hfin := HF.out.put 0 0
    refine bodyPost_ret (results_ct (xs := [.int .i64 0, .int .i64 0]) rfl rfl rfl agF zgF (two_cells ((Lib.cell_of_heap hfin _).trans rfl) ((Lib.cell_of_heap hfin _).trans rfl))) rfl ?_
    exact ⟨by rw [HZ.out]; rfl, below_set (below_set HBW.out (Nat.le_refl _) _) (Nat.le_refl _) _⟩
end Go.Proofs.YthgllfbigcoaiaaGreatDoor
namespace Go.Proofs.YthgllfbigcoaiaaGreatDoor
open Go Go.RowKit Go.Lib
set_option maxRecDepth 100000
set_option maxHeartbeats 64000000 in
theorem refUnitF_main (a b : ByteArray) (n beta : Nat) (w : World) (ha : a.size ≤ 900) (hb : b.size ≤ 900) (h : unE a b n beta = 0) :
    Calls Tryz.prog 21 #[.string a, .string b, .int .i64 n, .int .i64 beta] w fun e w' => e = .returned (unR a b n beta) ∧ Below w.heap.size w w' := by
  have agF := Tryz.isAgg35
  have zgF := Tryz.sizeOf35
  have HF : Hid (FrAt w.heap.size 0 0 (w.alloc (.cells #[.int .i64 0, .int .i64 0] 35))) := FrAt.new w 0 0
  have HBW : Hid (Below w.heap.size w (w.alloc (.cells #[.int .i64 0, .int .i64 0] 35))) := below_box _
  have HR := Lib.hid (unR_yes h)
  have hok := UnOk.of h
  have cA : ∀ w', Calls Tryz.prog 50 #[.string a] w' fun e w'' => e = .returned (.bool true) ∧ Below w'.heap.size w' w'' := fun w' => by
    have := D.refText_any a w' (Nat.le_trans ha (by decide))
    rwa [hok.ta] at this
  have cB : ∀ w', Calls Tryz.prog 50 #[.string b] w' fun e w'' => e = .returned (.bool true) ∧ Below w'.heap.size w' w'' := fun w' => by
    have := D.refText_any b w' (Nat.le_trans hb (by decide))
    rwa [hok.tb] at this
  have cUA := fun w' => single_any a w' ha
  have cUB := fun w' => single_any b w' hb
  unfold UnEnd at cUA cUB
  have i1 : ¬ (200 : Int) < ((unitsB a).length : Int) := by have := hok.la; omega
  have i2 : ¬ (200 : Int) < ((unitsB b).length : Int) := by have := hok.lb; omega
  have i3 : ¬ (n : Int) < 1 := by have := hok.n1; omega
  have i4 : ¬ (3 : Int) < (n : Int) := by have := hok.n3; omega
  have i5 : ¬ (beta : Int) < 1 := by have := hok.b1; omega
  have i6 : ¬ (3 : Int) < (beta : Int) := by have := hok.b3; omega
  have hla := hok.la
  have hlb := hok.lb
  have hn3 := hok.n3
  have hb3 := hok.b3
  clear h hok
  unfold unitN at HR
  generalize unitsB a = A at *
  generalize unitsB b = B at *
  have hfA : ∀ k, Fr 200 200 (partQ A B A.length k) := fun k => partQ_le hla hla k
  have hfB : ∀ k, Fr 200 200 (partQ A B B.length k) := fun k => partQ_le hla hlb k
  go_enter Tryz.func21, Tryz.ntmps21
  go_wp2_with (first
    | (go_at_call 50; (with_reducible refine (cA _).mono ?_); rintro e w1 ⟨rfl, hb1⟩; have HF1 := Lib.hid (HF.out.step hb1); have HB1 := Lib.hid (below_next HBW.out hb1); clear HF HBW; have HF := HF1; have HBW := HB1; clear HF1 HB1; clear hb1)
    | (go_at_call 50; (with_reducible refine (cB _).mono ?_); rintro e w1 ⟨rfl, hb1⟩; have HF1 := Lib.hid (HF.out.step hb1); have HB1 := Lib.hid (below_next HBW.out hb1); clear HF HBW; have HF := HF1; have HBW := HB1; clear HF1 HB1; clear hb1)
    | (go_at_call 51; (with_reducible refine (cUA _).mono ?_); rintro e w1 ⟨⟨ao, ca, rfl, hWA⟩, hb1⟩; have HF1 := Lib.hid (HF.out.step hb1); have HB1 := Lib.hid (below_next HBW.out hb1); clear HF HBW; have HF := HF1; have HBW := HB1; clear HF1 HB1; have HWA := Lib.hid hWA; clear hb1 hWA)
    | (go_at_call 51; (with_reducible refine (cUB _).mono ?_); rintro e w1 ⟨⟨bo, cb, rfl, hWB⟩, hb1⟩; have HF1 := Lib.hid (HF.out.step hb1); have HB1 := Lib.hid (below_next HBW.out hb1); clear HF HBW; have HF := HF1; have HBW := HB1; clear HF1 HB1; have HWA1 := Lib.hid (HWA.out.step hb1); clear HWA; have HWA := HWA1; clear HWA1; have HWB := Lib.hid hWB; clear hb1 hWB))
  have HP : Hid (FrAt w1.heap.size 0 1 ((w1.alloc (.cells #[.int .i64 0, .int .i64 1] 35)).alloc (.cells #[.int .i64 0, .int .i64 1] 35))) := (FrAt.new w1 0 1).step (below_box _)
  have HQ : Hid (FrAt (w1.heap.size + 1) 0 1 ((w1.alloc (.cells #[.int .i64 0, .int .i64 1] 35)).alloc (.cells #[.int .i64 0, .int .i64 1] 35))) := by
    have h1 := FrAt.new (w1.alloc (.cells #[.int .i64 0, .int .i64 1] 35)) 0 1
    show FrAt _ _ _ _
    simpa using h1
  have HX : Hid (Below w1.heap.size w1 ((w1.alloc (.cells #[.int .i64 0, .int .i64 1] 35)).alloc (.cells #[.int .i64 0, .int .i64 1] 35))) := below_next (below_box _) (below_box _)
  have hwP : w.heap.size < w1.heap.size := HF.out.lt
  generalize (w1.alloc (.cells #[.int .i64 0, .int .i64 1] 35)).alloc (.cells #[.int .i64 0, .int .i64 1] 35) = X at *
  go_loopw [14, 15] (fun i _ wr => ∃ k : Nat, k ≤ n ∧ i = .int .i64 ((k : Int) + 1) ∧ Hid (FrAt w1.heap.size ((sumQ (partQ A B A.length) k).1 : Int) ((sumQ (partQ A B A.length) k).2 : Int) wr) ∧ Hid (FrAt (w1.heap.size + 1) ((sumQ (partQ A B B.length) k).1 : Int) ((sumQ (partQ A B B.length) k).2 : Int) wr) ∧ Hid (Below w1.heap.size w1 wr)) (fun i _ _ => n + 1 - (RowKit.intOf i).toNat)
  case atStart => exact ⟨0, Nat.zero_le _, rfl, HP.out, HQ.out, HX.out⟩
  case round =>
    clear HP HQ HX
    obtain ⟨k, hk, rfl, HP, HQ, HX⟩ := hrel
    by_cases hlt : k < n
    · have hk3 : k < 3 := by omega
      have hle : (k : Int) + 1 ≤ (n : Int) := by omega
      have cM : ∀ w', WdsAt w' (.slice ao A.length ca) A → WdsAt w' (.slice bo B.length cb) B → Calls Tryz.prog 37 #[.slice ao A.length ca, .slice bo B.length cb, .int .i64 ((k : Int) + 1)] w' fun e w'' => e = .returned (.int .i64 ((mtQ A B (k + 1) : Nat) : Int)) ∧ Below w'.heap.size w' w'' := fun w' h1 h2 => by
        have h3 := refMatches0_any A B _ _ (k + 1) w' h1 h2 (by omega) (by omega) (by omega) (by omega)
        rw [show ((k + 1 : Nat) : Int) = (k : Int) + 1 by push_cast; rfl] at h3
        exact h3
      have cGA : ∀ w', WdsAt w' (.slice ao A.length ca) A → Calls Tryz.prog 38 #[.slice ao A.length ca, .int .i64 ((k : Int) + 1)] w' fun e w'' => e = .returned (.int .i64 ((A.length + 1 - (k + 1) : Nat) : Int)) ∧ w'' = w' := fun w' h1 => by
        have h3 := refGrams_any A _ (k + 1) w' h1 (by omega) (by omega) (by omega)
        rw [gramsN_nat, show ((k + 1 : Nat) : Int) = (k : Int) + 1 by push_cast; rfl] at h3
        exact h3
      have cGB : ∀ w', WdsAt w' (.slice bo B.length cb) B → Calls Tryz.prog 38 #[.slice bo B.length cb, .int .i64 ((k : Int) + 1)] w' fun e w'' => e = .returned (.int .i64 ((B.length + 1 - (k + 1) : Nat) : Int)) ∧ w'' = w' := fun w' h1 => by
        have h3 := refGrams_any B _ (k + 1) w' h1 (by omega) (by omega) (by omega)
        rw [gramsN_nat, show ((k + 1 : Nat) : Int) = (k : Int) + 1 by push_cast; rfl] at h3
        exact h3
      have hm := mtQ_left A B (k + 1)
      have bA := sumQ_le hfA (k := k) (by omega)
      have bB := sumQ_le hfB (k := k) (by omega)
      have cQA : ∀ w', Calls Tryz.prog 45 #[.int .i64 ((mtQ A B (k + 1) : Nat) : Int), .int .i64 ((A.length + 1 - (k + 1) : Nat) : Int)] w' fun e w'' => e = .returned (.agg #[.int .i64 ((partQ A B A.length k).1 : Int), .int .i64 ((partQ A B A.length k).2 : Int)]) ∧ Below w'.heap.size w' w'' := fun w' => refQuotient_fr _ _ w' (by omega) (by omega)
      have cQB : ∀ w', Calls Tryz.prog 45 #[.int .i64 ((mtQ A B (k + 1) : Nat) : Int), .int .i64 ((B.length + 1 - (k + 1) : Nat) : Int)] w' fun e w'' => e = .returned (.agg #[.int .i64 ((partQ A B B.length k).1 : Int), .int .i64 ((partQ A B B.length k).2 : Int)]) ∧ Below w'.heap.size w' w'' := fun w' => refQuotient_fr _ _ w' (by omega) (by omega)
      have cPA : ∀ w', Calls Tryz.prog 52 #[.agg #[.int .i64 ((sumQ (partQ A B A.length) k).1 : Int), .int .i64 ((sumQ (partQ A B A.length) k).2 : Int)], .agg #[.int .i64 ((partQ A B A.length k).1 : Int), .int .i64 ((partQ A B A.length k).2 : Int)]] w' fun e w'' => e = .returned (.agg #[.int .i64 ((sumQ (partQ A B A.length) (k + 1)).1 : Int), .int .i64 ((sumQ (partQ A B A.length) (k + 1)).2 : Int)]) ∧ Below w'.heap.size w' w'' := fun w' => refPlus_any _ _ _ _ w' bA.1 bA.2 (hfA k).1 (hfA k).2
      have cPB : ∀ w', Calls Tryz.prog 52 #[.agg #[.int .i64 ((sumQ (partQ A B B.length) k).1 : Int), .int .i64 ((sumQ (partQ A B B.length) k).2 : Int)], .agg #[.int .i64 ((partQ A B B.length k).1 : Int), .int .i64 ((partQ A B B.length k).2 : Int)]] w' fun e w'' => e = .returned (.agg #[.int .i64 ((sumQ (partQ A B B.length) (k + 1)).1 : Int), .int .i64 ((sumQ (partQ A B B.length) (k + 1)).2 : Int)]) ∧ Below w'.heap.size w' w'' := fun w' => refPlus_any _ _ _ _ w' bB.1 bB.2 (hfB k).1 (hfB k).2
      obtain ⟨p3, hp3⟩ : ∃ z, z = (sumQ (partQ A B A.length) (k + 1)).1 := ⟨_, rfl⟩
      obtain ⟨p4, hp4⟩ : ∃ z, z = (sumQ (partQ A B A.length) (k + 1)).2 := ⟨_, rfl⟩
      obtain ⟨s3, hs3⟩ : ∃ z, z = (sumQ (partQ A B B.length) (k + 1)).1 := ⟨_, rfl⟩
      obtain ⟨s4, hs4⟩ : ∃ z, z = (sumQ (partQ A B B.length) (k + 1)).2 := ⟨_, rfl⟩
      rw [← hp3, ← hp4] at cPA
      rw [← hs3, ← hs4] at cPB
      have HE := Lib.hid (And.intro hp3 (And.intro hp4 (And.intro hs3 hs4)))
      clear hp3 hp4 hs3 hs4 hm bA bB hfA hfB
      generalize (sumQ (partQ A B A.length) k).1 = p1 at *
      generalize (sumQ (partQ A B A.length) k).2 = p2 at *
      generalize (sumQ (partQ A B B.length) k).1 = s1 at *
      generalize (sumQ (partQ A B B.length) k).2 = s2 at *
      generalize (partQ A B A.length k).1 = q1 at *
      generalize (partQ A B A.length k).2 = q2 at *
      generalize (partQ A B B.length k).1 = r1 at *
      generalize (partQ A B B.length k).2 = r2 at *
      generalize mtQ A B (k + 1) = m at *
      generalize A.length + 1 - (k + 1) = gA at *
      generalize B.length + 1 - (k + 1) = gB at *
      go_wp2_with (go_at_call 37; (with_reducible refine (cM _ (HWA.out.step HX.out) (HWB.out.step HX.out)).mono ?_); rintro e w2 ⟨rfl, hb2⟩; have HP2 := Lib.hid (HP.out.step hb2); have HQ2 := Lib.hid (HQ.out.step hb2); have HX2 := Lib.hid (below_next HX.out hb2); clear HP HQ HX hb2)
      have x0 := HP2.out.c0
      have x1 := HP2.out.c1
      refine wp_region_till (fun w' => w'.cell? ⟨w1.heap.size, 0, none⟩ = some (.int .i64 (p1 : Int)) ∧ w'.cell? ⟨w1.heap.size, 1, none⟩ = some (.int .i64 (p2 : Int))) [0, 1, 2, 3, 4, 5, 6] (by kernel_rfl) ⟨x0, x1⟩ (fun hHeld => ?_)
      refine wpTill_take (i := 0) 6 (v := ?va1x0) rfl (by kernel_rfl) (by kernel_rfl) (by kernel_rfl) (by kernel_rfl) (fun _ _ _ h => h) (Or.inl ⟨by rfl, ?hy1x0⟩) hHeld ?re1x0
      case hy1x0 => (intro w9 hSw; (try dsimp only at hSw); go_simp; try with_reducible rfl)
      refine wpTill_take (i := 1) 5 (v := ?va2x1) rfl (by kernel_rfl) (by kernel_rfl) (by kernel_rfl) (by kernel_rfl) (fun _ _ _ h => h) (Or.inl ⟨by rfl, ?hy2x1⟩) hHeld ?re2x1
      case hy2x1 => (intro w9 hSw; (try dsimp only at hSw); go_simp; try with_reducible rfl)
      refine wpTill_take (i := 2) 4 (v := ?va3x2) rfl (by kernel_rfl) (by kernel_rfl) (by kernel_rfl) (by kernel_rfl) (fun _ _ _ h => h) (Or.inl ⟨by rfl, ?hy3x2⟩) hHeld ?re3x2
      case hy3x2 => (intro w9 hSw; (try dsimp only at hSw); go_simp; try with_reducible rfl)
      refine wpTill_take (i := 3) 4 (v := ?va4x3) rfl (by kernel_rfl) (by kernel_rfl) (by kernel_rfl) (by kernel_rfl) (fun _ _ _ h => h) (Or.inl ⟨by rfl, ?hy4x3⟩) hHeld ?re4x3
      case hy4x3 => (intro w9 hSw; (try dsimp only at hSw); go_simp; try with_reducible rfl)
      refine wpTill_next (rs := [4]) (by kernel_rfl) (by simp) ?_
      refine NextTill.cons rfl (fun K hK => ?_) NextTill.nil
      go_simp
      (go_at_call 38; (with_reducible refine (cGA _ (HWA.out.step HX2.out.drew)).mono ?_); rintro e w3 ⟨rfl, rfl⟩)
      refine hK.out _ _ (fun _ => ⟨x0, x1⟩) ?_
      clear hK K
      refine wpTill_next (rs := [5]) (by kernel_rfl) (by simp) ?_
      refine NextTill.cons rfl (fun K hK => ?_) NextTill.nil
      go_simp
      (go_at_call 45; (with_reducible refine (cQA _).mono ?_); rintro e w3 ⟨rfl, hb3⟩; have HP3 := Lib.hid ((HP2.out.step (Below.refl _ _).drew).step hb3); have HQ3 := Lib.hid ((HQ2.out.step (Below.refl _ _).drew).step hb3); have HX3 := Lib.hid (below_next HX2.out.drew hb3); clear HP2 HQ2 HX2 hb3 x0 x1; have x0 := HP3.out.c0; have x1 := HP3.out.c1)
      refine hK.out _ _ (fun _ => ⟨x0, x1⟩) ?_
      clear hK K hHeld
      refine wpTill_next (rs := [6]) (by kernel_rfl) (by simp) ?_
      refine NextTill.cons rfl (fun K hK => ?_) NextTill.nil
      go_simp
      (go_at_call 52; (with_reducible refine (cPA _).mono ?_); rintro e w4 ⟨rfl, hb4⟩; have HP4 := Lib.hid (HP3.out.step hb4); have HQ4 := Lib.hid (HQ3.out.step hb4); have HX4 := Lib.hid (below_next HX3.out hb4); clear HP3 HQ3 HX3 hb4 x0 x1; have x0 := HP4.out.c0; have x1 := HP4.out.c1; have f0 := HP4.out.f 0; have f1 := HP4.out.f 1)
      refine hK.out _ _ (fun h => Bool.noConfusion (h.symm.trans (by kernel_rfl : _ = false))) ?_
      clear hK K
      refine wpTill_next (rs := [7]) (by kernel_rfl) (by simp) ?_
      refine NextTill.cons rfl (fun K hK => ?_) NextTill.nil
      go_simp
      refine hK.out _ _ (fun h => Bool.noConfusion (h.symm.trans (by kernel_rfl : _ = false))) ?_
      clear hK K x0 x1 f0 f1
      refine wpTill_done (by kernel_rfl) ?_ _
      have HP5 := Lib.hid (HP4.out.put (p3 : Int) (p4 : Int))
      have HQ5 := Lib.hid (HQ4.out.far (G := w1.heap.size) (by omega) (.int .i64 (p3 : Int)) (.int .i64 (p4 : Int)))
      have HX5 := Lib.hid (below_set (below_set HX4.out (a := ⟨w1.heap.size, 0, none⟩) (by show _ ≤ w1.heap.size; omega) (.int .i64 (p3 : Int))) (a := ⟨w1.heap.size, 1, none⟩) (by show _ ≤ w1.heap.size; omega) (.int .i64 (p4 : Int)))
      clear HP4 HQ4 HX4
      obtain ⟨w5, hw5⟩ : ∃ x, x = (w4.setCell ⟨w1.heap.size, 0, none⟩ (.int .i64 (p3 : Int))).setCell ⟨w1.heap.size, 1, none⟩ (.int .i64 (p4 : Int)) := ⟨_, rfl⟩
      rw [← hw5] at HP5 HQ5 HX5 ⊢
      clear hw5
      go_wp2
      have x0 := HQ5.out.c0
      have x1 := HQ5.out.c1
      refine wp_region_till (fun w' => w'.cell? ⟨w1.heap.size + 1, 0, none⟩ = some (.int .i64 (s1 : Int)) ∧ w'.cell? ⟨w1.heap.size + 1, 1, none⟩ = some (.int .i64 (s2 : Int))) [0, 1, 2, 3, 4, 5, 6] (by kernel_rfl) ⟨x0, x1⟩ (fun hHeld => ?_)
      refine wpTill_take (i := 0) 6 (v := ?va5x0) rfl (by kernel_rfl) (by kernel_rfl) (by kernel_rfl) (by kernel_rfl) (fun _ _ _ h => h) (Or.inl ⟨by rfl, ?hy5x0⟩) hHeld ?re5x0
      case hy5x0 => (intro w9 hSw; (try dsimp only at hSw); go_simp; try with_reducible rfl)
      refine wpTill_take (i := 1) 5 (v := ?va6x1) rfl (by kernel_rfl) (by kernel_rfl) (by kernel_rfl) (by kernel_rfl) (fun _ _ _ h => h) (Or.inl ⟨by rfl, ?hy6x1⟩) hHeld ?re6x1
      case hy6x1 => (intro w9 hSw; (try dsimp only at hSw); go_simp; try with_reducible rfl)
      refine wpTill_take (i := 2) 4 (v := ?va7x2) rfl (by kernel_rfl) (by kernel_rfl) (by kernel_rfl) (by kernel_rfl) (fun _ _ _ h => h) (Or.inl ⟨by rfl, ?hy7x2⟩) hHeld ?re7x2
      case hy7x2 => (intro w9 hSw; (try dsimp only at hSw); go_simp; try with_reducible rfl)
      refine wpTill_take (i := 3) 4 (v := ?va8x3) rfl (by kernel_rfl) (by kernel_rfl) (by kernel_rfl) (by kernel_rfl) (fun _ _ _ h => h) (Or.inl ⟨by rfl, ?hy8x3⟩) hHeld ?re8x3
      case hy8x3 => (intro w9 hSw; (try dsimp only at hSw); go_simp; try with_reducible rfl)
      refine wpTill_next (rs := [4]) (by kernel_rfl) (by simp) ?_
      refine NextTill.cons rfl (fun K hK => ?_) NextTill.nil
      go_simp
      (go_at_call 38; (with_reducible refine (cGB _ (HWB.out.step HX5.out.drew)).mono ?_); rintro e w3 ⟨rfl, rfl⟩)
      refine hK.out _ _ (fun _ => ⟨x0, x1⟩) ?_
      clear hK K
      refine wpTill_next (rs := [5]) (by kernel_rfl) (by simp) ?_
      refine NextTill.cons rfl (fun K hK => ?_) NextTill.nil
      go_simp
      (go_at_call 45; (with_reducible refine (cQB _).mono ?_); rintro e w3 ⟨rfl, hb3⟩; have HP3 := Lib.hid ((HP5.out.step (Below.refl _ _).drew).step hb3); have HQ3 := Lib.hid ((HQ5.out.step (Below.refl _ _).drew).step hb3); have HX3 := Lib.hid (below_next HX5.out.drew hb3); clear HP5 HQ5 HX5 hb3 x0 x1; have x0 := HQ3.out.c0; have x1 := HQ3.out.c1)
      refine hK.out _ _ (fun _ => ⟨x0, x1⟩) ?_
      clear hK K hHeld
      refine wpTill_next (rs := [6]) (by kernel_rfl) (by simp) ?_
      refine NextTill.cons rfl (fun K hK => ?_) NextTill.nil
      go_simp
      (go_at_call 52; (with_reducible refine (cPB _).mono ?_); rintro e w4 ⟨rfl, hb4⟩; have HP4 := Lib.hid (HP3.out.step hb4); have HQ4 := Lib.hid (HQ3.out.step hb4); have HX4 := Lib.hid (below_next HX3.out hb4); clear HP3 HQ3 HX3 hb4 x0 x1; have x0 := HQ4.out.c0; have x1 := HQ4.out.c1; have f0 := HQ4.out.f 0; have f1 := HQ4.out.f 1)
      refine hK.out _ _ (fun h => Bool.noConfusion (h.symm.trans (by kernel_rfl : _ = false))) ?_
      clear hK K
      refine wpTill_next (rs := [7]) (by kernel_rfl) (by simp) ?_
      refine NextTill.cons rfl (fun K hK => ?_) NextTill.nil
      go_simp
      refine hK.out _ _ (fun h => Bool.noConfusion (h.symm.trans (by kernel_rfl : _ = false))) ?_
      clear hK K x0 x1 f0 f1
      refine wpTill_done (by kernel_rfl) ?_ _
      have HQ6 := Lib.hid (HQ4.out.put (s3 : Int) (s4 : Int))
      have HP6 := Lib.hid (HP4.out.far (G := w1.heap.size + 1) (by omega) (.int .i64 (s3 : Int)) (.int .i64 (s4 : Int)))
      have HX6 := Lib.hid (below_set (below_set HX4.out (a := ⟨w1.heap.size + 1, 0, none⟩) (by show _ ≤ w1.heap.size + 1; omega) (.int .i64 (s3 : Int))) (a := ⟨w1.heap.size + 1, 1, none⟩) (by show _ ≤ w1.heap.size + 1; omega) (.int .i64 (s4 : Int)))
      clear HP4 HQ4 HX4
      obtain ⟨w6, hw6⟩ : ∃ x, x = (w4.setCell ⟨w1.heap.size + 1, 0, none⟩ (.int .i64 (s3 : Int))).setCell ⟨w1.heap.size + 1, 1, none⟩ (.int .i64 (s4 : Int)) := ⟨_, rfl⟩
      rw [← hw6] at HP6 HQ6 HX6 ⊢
      clear hw6
      go_wp2
      go_roundw
      case rel => exact ⟨k + 1, hlt, by go_num, by rw [← HE.out.1, ← HE.out.2.1]; exact HP6.out, by rw [← HE.out.2.2.1, ← HE.out.2.2.2]; exact HQ6.out, HX6.out⟩
      case measure => simp [RowKit.intOf] <;> omega
    · obtain rfl : k = n := by omega
      have hle : ¬ (k : Int) + 1 ≤ (k : Int) := by omega
      have bA := sumQ_le hfA (k := k) hn3
      have bB := sumQ_le hfB (k := k) hn3
      have bU := overN_le (n := k) bA hn3
      have bV := overN_le (n := k) bB hn3
      have eU : overN (sumQ (partQ A B A.length) k) k = quN (sumQ (partQ A B A.length) k).1 ((sumQ (partQ A B A.length) k).2 * k) := rfl
      have eV : overN (sumQ (partQ A B B.length) k) k = quN (sumQ (partQ A B B.length) k).1 ((sumQ (partQ A B B.length) k).2 * k) := rfl
      generalize overN (sumQ (partQ A B A.length) k) k = U at *
      generalize overN (sumQ (partQ A B B.length) k) k = V at *
      generalize sumQ (partQ A B A.length) k = p at *
      generalize sumQ (partQ A B B.length) k = s at *
      obtain ⟨p1, p2⟩ := p
      obtain ⟨s1, s2⟩ := s
      obtain ⟨u1, u2⟩ := U
      obtain ⟨v1, v2⟩ := V
      obtain ⟨bp1, bp2⟩ := bA
      obtain ⟨bs1, bs2⟩ := bB
      obtain ⟨bu1, bu2⟩ := bU
      obtain ⟨bv1, bv2⟩ := bV
      simp only at bp1 bp2 bs1 bs2 bu1 bu2 bv1 bv2 eU eV HP HQ
      have a1 : p2 * k ≤ 24000000 := Nat.le_trans (Nat.mul_le_mul bp2 hn3) (by decide)
      have a2 : s2 * k ≤ 24000000 := Nat.le_trans (Nat.mul_le_mul bs2 hn3) (by decide)
      have a3 : beta * beta ≤ 9 := Nat.le_trans (Nat.mul_le_mul hb3 hb3) (by decide)
      obtain ⟨N1, e1⟩ : ∃ z, p2 * k = z := ⟨_, rfl⟩
      obtain ⟨N2, e2⟩ : ∃ z, s2 * k = z := ⟨_, rfl⟩
      obtain ⟨c, e3⟩ : ∃ z, beta * beta = z := ⟨_, rfl⟩
      rw [e1] at a1 eU
      rw [e2] at a2 eV
      rw [e3] at a3 HR
      have cQA : ∀ w', Calls Tryz.prog 45 #[.int .i64 (p1 : Int), .int .i64 (N1 : Int)] w' fun e w'' => e = .returned (.agg #[.int .i64 (u1 : Int), .int .i64 (u2 : Int)]) ∧ Below w'.heap.size w' w'' := fun w' => by
        have h1 := refQuotient_fr p1 N1 w' (Nat.le_trans bp1 (by decide)) (Nat.le_trans a1 (by decide))
        rw [← eU] at h1
        exact h1
      have cQB : ∀ w', Calls Tryz.prog 45 #[.int .i64 (s1 : Int), .int .i64 (N2 : Int)] w' fun e w'' => e = .returned (.agg #[.int .i64 (v1 : Int), .int .i64 (v2 : Int)]) ∧ Below w'.heap.size w' w'' := fun w' => by
        have h1 := refQuotient_fr s1 N2 w' (Nat.le_trans bs1 (by decide)) (Nat.le_trans a2 (by decide))
        rw [← eV] at h1
        exact h1
      have m1 := wrap_prod e1 (Nat.le_trans a1 (by decide))
      have m2 := wrap_prod e2 (Nat.le_trans a2 (by decide))
      have m3 := wrap_prod e3 (Nat.le_trans a3 (by decide))
      have hJ : frP (joinN (u1, u2) (v1, v2) c) = frP (quN ((1 + c) * u1 * v1) (c * u1 * v2 + v1 * u2)) := rfl
      have a4 : (1 + c) * u1 ≤ 240000000 := Nat.le_trans (Nat.mul_le_mul (Nat.add_le_add_left a3 1) bu1) (by decide)
      have a5 : c * u1 ≤ 216000000 := Nat.le_trans (Nat.mul_le_mul a3 bu1) (by decide)
      have a6 : v1 * u2 ≤ 576000000000000 := Nat.le_trans (Nat.mul_le_mul bv1 bu2) (by decide)
      obtain ⟨M1, e4⟩ : ∃ z, (1 + c) * u1 = z := ⟨_, rfl⟩
      obtain ⟨M3, e5⟩ : ∃ z, c * u1 = z := ⟨_, rfl⟩
      obtain ⟨M5, e6⟩ : ∃ z, v1 * u2 = z := ⟨_, rfl⟩
      rw [e4] at a4 hJ
      rw [e5] at a5 hJ
      rw [e6] at a6 hJ
      have a7 : M1 * v1 ≤ 5760000000000000 := Nat.le_trans (Nat.mul_le_mul a4 bv1) (by decide)
      have a8 : M3 * v2 ≤ 5184000000000000 := Nat.le_trans (Nat.mul_le_mul a5 bv2) (by decide)
      obtain ⟨M2, e7⟩ : ∃ z, M1 * v1 = z := ⟨_, rfl⟩
      obtain ⟨M4, e8⟩ : ∃ z, M3 * v2 = z := ⟨_, rfl⟩
      rw [e7] at a7 hJ
      rw [e8] at a8 hJ
      have m4 := wrap_prod e4 (Nat.le_trans a4 (by decide))
      have m5 := wrap_prod e5 (Nat.le_trans a5 (by decide))
      have m6 := wrap_prod e6 (Nat.le_trans a6 (by decide))
      have m7 := wrap_prod e7 (Nat.le_trans a7 (by decide))
      have m8 := wrap_prod e8 (Nat.le_trans a8 (by decide))
      rw [show ((1 + c : Nat) : Int) = 1 + (c : Int) by push_cast; rfl] at m4
      obtain ⟨z1, z2, hz⟩ : ∃ z1 z2 : Nat, quN M2 (M4 + M5) = (z1, z2) := ⟨_, _, rfl⟩
      have cQF : ∀ w', Calls Tryz.prog 45 #[.int .i64 (M2 : Int), .int .i64 ((M4 : Int) + (M5 : Int))] w' fun e w'' => e = .returned (.agg #[.int .i64 (z1 : Int), .int .i64 (z2 : Int)]) ∧ Below w'.heap.size w' w'' := fun w' => by
        have h1 := refQuotient_fr M2 (M4 + M5) w' (Nat.le_trans a7 (by decide)) (Nat.le_trans (Nat.add_le_add a8 a6) (by decide))
        rw [hz, show ((M4 + M5 : Nat) : Int) = (M4 : Int) + (M5 : Int) by push_cast; rfl] at h1
        exact h1
      have HZ : Hid (unR a b k beta = .tuple #[.agg #[.int .i64 (z1 : Int), .int .i64 (z2 : Int)], .int .u8 0]) := by
        show _ = _
        rw [HR.out, hJ, hz]
        rfl
      clear e1 e2 e3 e4 e5 e6 e7 e8 hJ hz eU eV HR hfA hfB
      have c1 : (0 : Int) ≤ (c : Int) := Int.natCast_nonneg _
      have c2 : (c : Int) ≤ 9 := cast_le9 a3
      have c3 : (0 : Int) ≤ (M4 : Int) := Int.natCast_nonneg _
      have c4 : (M4 : Int) ≤ 5184000000000000 := cast_le4 a8
      have c5 : (0 : Int) ≤ (M5 : Int) := Int.natCast_nonneg _
      have c6 : (M5 : Int) ≤ 576000000000000 := cast_le5 a6
      clear a1 a2 a3 a4 a5 a6 a7 a8 bp1 bp2 bs1 bs2 bu1 bu2 bv1 bv2 hb3 i5 i6
      generalize (c : Int) = cz at *
      generalize (u1 : Int) = u1z at *
      generalize (u2 : Int) = u2z at *
      generalize (v1 : Int) = v1z at *
      generalize (v2 : Int) = v2z at *
      generalize (M1 : Int) = M1z at *
      generalize (M2 : Int) = M2z at *
      generalize (M3 : Int) = M3z at *
      generalize (M4 : Int) = M4z at *
      generalize (M5 : Int) = M5z at *
      generalize (N1 : Int) = N1z at *
      generalize (N2 : Int) = N2z at *
      generalize (p1 : Int) = p1z at *
      generalize (p2 : Int) = p2z at *
      generalize (s1 : Int) = s1z at *
      generalize (s2 : Int) = s2z at *
      generalize hbz : (beta : Int) = bz at *
      have HBZ := Lib.hid hbz
      clear hbz
      generalize hkz : (k : Int) = kz at m1 m2 ⊢
      have x0 := HP.out.c0
      have x1 := HP.out.c1
      go_wp2_with (first
        | (go_at_call 45; (with_reducible refine (cQA _).mono ?_); rintro e w3 ⟨rfl, hb3⟩
           have HP3 := Lib.hid (HP.out.step hb3)
           have HQ3 := Lib.hid (HQ.out.step hb3)
           have HX3 := Lib.hid (below_next HX.out hb3)
           have HP4 := Lib.hid (HP3.out.put u1z u2z)
           have HQ4 := Lib.hid (HQ3.out.far (G := w1.heap.size) (by omega) (.int .i64 u1z) (.int .i64 u2z))
           have HX4 := Lib.hid (below_set (below_set HX3.out (a := ⟨w1.heap.size, 0, none⟩) (by show _ ≤ w1.heap.size; omega) (.int .i64 u1z)) (a := ⟨w1.heap.size, 1, none⟩) (by show _ ≤ w1.heap.size; omega) (.int .i64 u2z))
           clear x0 x1 hb3 HP HQ HX cQA
           have x0 := HP3.out.c0
           have x1 := HP3.out.c1
           have f0 := HP3.out.f 0
           have f1 := HP3.out.f 1
           have y0 := HQ4.out.c0
           have y1 := HQ4.out.c1)
        | (go_at_call 45; (with_reducible refine (cQB _).mono ?_); rintro e w5 ⟨rfl, hb5⟩
           have HP5 := Lib.hid (HP4.out.step hb5)
           have HQ5 := Lib.hid (HQ4.out.step hb5)
           have HX5 := Lib.hid (below_next HX4.out hb5)
           have HQ6 := Lib.hid (HQ5.out.put v1z v2z)
           have HP6 := Lib.hid (HP5.out.far (G := w1.heap.size + 1) (by omega) (.int .i64 v1z) (.int .i64 v2z))
           have HX6 := Lib.hid (below_set (below_set HX5.out (a := ⟨w1.heap.size + 1, 0, none⟩) (by show _ ≤ w1.heap.size + 1; omega) (.int .i64 v1z)) (a := ⟨w1.heap.size + 1, 1, none⟩) (by show _ ≤ w1.heap.size + 1; omega) (.int .i64 v2z))
           clear x0 x1 f0 f1 y0 y1 hb5 HP3 HQ3 HX3 HP4 HQ4 HX4 cQB
           have g0 := HQ5.out.c0
           have g1 := HQ5.out.c1
           have f0 := HQ5.out.f 0
           have f1 := HQ5.out.f 1
           have x0 := HP6.out.c0
           have x1 := HP6.out.c1
           have y0 := HQ6.out.c0
           have y1 := HQ6.out.c1)
        | (go_at_call 45; (with_reducible refine (cQF _).mono ?_); rintro e w7 ⟨rfl, hb7⟩
           have HX7 := Lib.hid (below_next HX6.out hb7)
           have HF7 := Lib.hid (HF.out.step HX7.out)
           have HB7 := Lib.hid (below_next HBW.out HX7.out)
           clear hb7 x0 x1 y0 y1 g0 g1 f0 f1
           have x0 := HF7.out.c0
           have x1 := HF7.out.c1
           have f0 := HF7.out.f 0
           have f1 := HF7.out.f 1))
      have hfin := HF7.out.put (z1 : Int) (z2 : Int)
      refine bodyPost_ret (results_ct (xs := [.int .i64 (z1 : Int), .int .i64 (z2 : Int)]) rfl rfl rfl agF zgF (two_cells ((Lib.cell_of_heap hfin _).trans rfl) ((Lib.cell_of_heap hfin _).trans rfl))) rfl ?_
      exact ⟨by rw [HBZ.out, HZ.out]; rfl, below_set (below_set HB7.out (Nat.le_refl _) _) (Nat.le_refl _) _⟩
end Go.Proofs.YthgllfbigcoaiaaGreatDoor
namespace Go.Proofs.YthgllfbigcoaiaaGreatDoor
open Go Go.RowKit Go.Lib
set_option maxRecDepth 100000
theorem unE_nat {a b : ByteArray} {n beta : Int} (h : unE a b n beta = 0) : ∃ N B : Nat, n = N ∧ beta = B := by
  unfold unE at h
  split at h
  · cases h
  · split at h
    · cases h
    · split at h
      · cases h
      · exact ⟨n.toNat, beta.toNat, by omega, by omega⟩
theorem unitF_any (a b : ByteArray) (n beta : Int) (w : World) (ha : a.size ≤ 900) (hb : b.size ≤ 900) (hT : D.Tabs w) :
    Calls Tryz.prog 20 #[.string a, .string b, .int .i64 n, .int .i64 beta] w fun e w' => e = .returned (unR a b n beta) ∧ Below w.heap.size w w' := by
  by_cases h : unE a b n beta = 0
  · obtain ⟨N, B, rfl, rfl⟩ := unE_nat h
    exact unitF_main a b N B w ha hb hT h
  · exact unitF_early a b n beta w ha hb hT h
theorem refUnitF_any (a b : ByteArray) (n beta : Int) (w : World) (ha : a.size ≤ 900) (hb : b.size ≤ 900) :
    Calls Tryz.prog 21 #[.string a, .string b, .int .i64 n, .int .i64 beta] w fun e w' => e = .returned (unR a b n beta) ∧ Below w.heap.size w w' := by
  by_cases h : unE a b n beta = 0
  · obtain ⟨N, B, rfl, rfl⟩ := unE_nat h
    exact refUnitF_main a b N B w ha hb h
  · exact refUnitF_early a b n beta w ha hb h
theorem drK_le (n m : Int) : drK n m ≤ 1000 ∧ (drK n m = 0 ∨ n.toNat ≤ 256) := by
  unfold drK
  split
  · exact ⟨by omega, .inl rfl⟩
  · rename_i h
    unfold BadD at h
    exact ⟨by omega, .inr (by omega)⟩
/-- a row of draws, read -/
theorem Drawn.row {B : Nat} {w : World} {out : Value} {k n : Nat} {D : Nat → Nat → Int} (h : Drawn B w out k n D) {i : Nat} (hi : i < k) :
    ∃ go cap, out = .slice (some ⟨go, 0, none⟩) k cap ∧ ∃ g c, w.cell? ⟨go, i, none⟩ = some (.slice (some ⟨g, 0, none⟩) n c) ∧ ∀ j, j < n → w.cell? ⟨g, j, none⟩ = some (.int .i64 (D i j)) := by
  obtain ⟨Vs, h1, h2, h3⟩ := h
  obtain ⟨g, c, hv, hr, _⟩ := h3 i hi
  have h2c := h2
  rcases h2.2 with ⟨_, h0⟩ | ⟨go, cap, cur, rfl, _⟩
  · omega
  · refine ⟨go, cap, rfl, g, c, ?_, fun j hj => hr.cell hj⟩
    have hc := World.ownsRow.cells h2c (g := go) rfl i _ hv
    have hadd : (⟨go, 0, none⟩ : Addr).add i = ⟨go, i, none⟩ := by unfold Addr.add; split <;> simp_all
    rwa [hadd] at hc
set_option maxHeartbeats 16000000 in
theorem units_early (a b : ByteArray) (n beta s size many : Int) (w : World) (ha : a.size ≤ 140737488355328) (hb : b.size ≤ 140737488355328)
    (hbig : 900 < a.size ∨ 900 < b.size ∨ (40 < size ∧ size ≤ 256) ∨ (20 < many ∧ many ≤ 1000))
    (hS : ∀ w', Below w.heap.size w w' → Calls Tryz.prog 11 #[] w' fun e w'' => e = .returned (.bool true) ∧ Below w'.heap.size w' w'') :
    Calls Tryz.prog 7 #[.string a, .string b, .int .i64 n, .int .i64 beta, .int .u64 s, .int .i64 size, .int .i64 many] w fun e w' => e = .returned (.bool true) ∧ Below w.heap.size w w' := by
  have HS := Lib.hid hS
  have key : (900 : Int) < (a.size : Int) ∨ (¬ (900 : Int) < (a.size : Int) ∧ (900 : Int) < (b.size : Int)) ∨ (¬ (900 : Int) < (a.size : Int) ∧ ¬ (900 : Int) < (b.size : Int) ∧ 40 < size ∧ size ≤ 256) ∨
      (¬ (900 : Int) < (a.size : Int) ∧ ¬ (900 : Int) < (b.size : Int) ∧ ¬ 40 < size ∧ 20 < many ∧ many ≤ 1000) ∨ (¬ (900 : Int) < (a.size : Int) ∧ ¬ (900 : Int) < (b.size : Int) ∧ 40 < size ∧ ¬ size ≤ 256 ∧ 20 < many ∧ many ≤ 1000) := by omega
  clear hbig hS
  rcases key with i1 | ⟨i1, i2⟩ | ⟨i1, i2, i3, i4⟩ | ⟨i1, i2, i3, i5, i6⟩ | ⟨i1, i2, i3, i4, i5, i6⟩
  all_goals
    go_enter Tryz.func7, Tryz.ntmps7
    go_wp2_with (go_at_call 11; (with_reducible refine (HS.out _ (Below.refl _ _)).mono ?_); rintro e w2 ⟨rfl, hb2⟩)
    go_ret
    exact ⟨rfl, hb2⟩
set_option maxHeartbeats 64000000 in
theorem units_law (a b : ByteArray) (n beta s size many : Int) (w : World) (ha : a.size ≤ 140737488355328) (hb : b.size ≤ 140737488355328) (hT : D.Tabs w)
    (hS : ∀ w', Below w.heap.size w w' → Calls Tryz.prog 11 #[] w' fun e w'' => e = .returned (.bool true) ∧ Below w'.heap.size w' w'') :
    Calls Tryz.prog 7 #[.string a, .string b, .int .i64 n, .int .i64 beta, .int .u64 s, .int .i64 size, .int .i64 many] w fun e w' => e = .returned (.bool true) ∧ Below w.heap.size w w' := by
  by_cases hbig : 900 < a.size ∨ 900 < b.size ∨ (40 < size ∧ size ≤ 256) ∨ (20 < many ∧ many ≤ 1000)
  · exact units_early a b n beta s size many w ha hb hbig hS
  have HS := Lib.hid hS
  have HT := Lib.hid hT
  have cP := fun w' h => unitF_any a b n beta w' (by omega) (by omega) h
  have cR := fun w' => refUnitF_any a b n beta w' (by omega) (by omega)
  have cD := fun w' => draws_any s size many w'
  have cE := fun w' => refDraws_any s size many w'
  have hU : unR a b n beta = .tuple #[frP (unV a b n beta), .int .u8 (unE a b n beta)] := rfl
  generalize unE a b n beta = E at *
  generalize unV a b n beta = V at *
  obtain ⟨x, y⟩ := V
  have hU2 : unR a b n beta = .tuple #[.agg #[.int .i64 (x : Int), .int .i64 (y : Int)], .int .u8 E] := hU
  rw [hU2] at cP cR
  clear hU hU2 hS hT
  generalize (x : Int) = xz at *
  generalize (y : Int) = yz at *
  obtain ⟨hK, hN⟩ := drK_le size many
  generalize drE size many = DE at *
  generalize drK size many = K at *
  generalize drawD s size.toNat = DD at *
  generalize size.toNat = N at *
  have i1 : ¬ (900 : Int) < (a.size : Int) := by omega
  have i2 : ¬ (900 : Int) < (b.size : Int) := by omega
  have key : (¬ 40 < size ∧ ¬ 20 < many) ∨ (¬ 40 < size ∧ 20 < many ∧ ¬ many ≤ 1000) ∨ (40 < size ∧ ¬ size ≤ 256 ∧ ¬ 20 < many) ∨ (40 < size ∧ ¬ size ≤ 256 ∧ 20 < many ∧ ¬ many ≤ 1000) := by omega
  clear hbig ha hb
  have agF := Tryz.isAgg35
  have zgF := Tryz.sizeOf35
  rcases key with ⟨i3, i5⟩ | ⟨i3, i5, i6⟩ | ⟨i3, i4, i5⟩ | ⟨i3, i4, i5, i6⟩
  all_goals
    go_enter Tryz.func7, Tryz.ntmps7
    go_wp2_with (first
      | (go_at_call 20; (with_reducible refine (cP _ HT.out).mono ?_); rintro e w1 ⟨rfl, hb1⟩; have HB1 := Lib.hid (below_next hb1 (below_box (.cells #[.int .i64 xz, .int .i64 yz] 35))); have HG1 := Lib.hid (FrAt.new w1 xz yz); clear hb1)
      | (go_at_call 21; (with_reducible refine (cR _).mono ?_); rintro e w2 ⟨rfl, hb2⟩
         have HG2 := Lib.hid (HG1.out.step hb2)
         have HB2 := Lib.hid (below_next (below_next HB1.out hb2) (below_box (.cells #[.int .i64 xz, .int .i64 yz] 35)))
         have HG3 := Lib.hid (HG2.out.step (below_box (.cells #[.int .i64 xz, .int .i64 yz] 35)))
         have g0 := HG3.out.c0
         have g1 := HG3.out.c1
         clear hb2 HG1 HG2)
      | (go_at_call 22; (with_reducible refine (cD _).mono ?_); rintro e w3 ⟨⟨out, rfl, hd⟩, hb3⟩
         have HB3 := Lib.hid (below_next HB2.out hb3)
         have HD3 := Lib.hid hd
         obtain ⟨ao, ca, rfl⟩ := hd.form
         clear hb3 g0 g1 hd)
      | (go_at_call 23; (with_reducible refine (cE _).mono ?_); rintro e w4 ⟨⟨out, rfl, hd⟩, hb4⟩
         have HB4 := Lib.hid (below_next HB3.out hb4)
         have HD4 := Lib.hid (HD3.out.step hb4)
         have HE4 := Lib.hid hd
         obtain ⟨bo, cb, rfl⟩ := hd.form
         clear hb4 hd))
    go_loopw [21] (fun i wr => ∃ k : Nat, k ≤ K ∧ i = .int .i64 k ∧ Hid (Below w4.heap.size w4 wr)) (fun i _ => K - (RowKit.intOf i).toNat)
    case atStart => exact ⟨0, Nat.zero_le _, rfl, Below.refl _ _⟩
    case round =>
      obtain ⟨k, hk, rfl, HX⟩ := hrel
      by_cases hlt : k < K
      · obtain ⟨go, cap, e1, g, c, hc0, hr0⟩ := HD4.out.row hlt
        obtain ⟨go2, cap2, e2, g2, c2, hd0, hs0⟩ := HE4.out.row hlt
        obtain ⟨rfl, rfl⟩ : ao = some ⟨go, 0, none⟩ ∧ ca = cap := by simpa using e1
        obtain ⟨rfl, rfl⟩ : bo = some ⟨go2, 0, none⟩ ∧ cb = cap2 := by simpa using e2
        have HR0 := Lib.hid hr0
        have HS0 := Lib.hid hs0
        have HC0 := Lib.hid hc0
        have HC1 := Lib.hid hd0
        have x0 := (HX.out.cell (World.block_lt_of_cell? w4 _ hc0)).trans hc0
        have y0 := (HX.out.cell (World.block_lt_of_cell? w4 _ hd0)).trans hd0
        have hki : (k : Int) < (K : Int) := by omega
        have hk0 : (0 : Int) ≤ (k : Int) := by omega
        clear hr0 hs0 hc0 hd0 e1 e2
        go_wp2
        go_quiet (fail)
        go_wp2
        obtain ⟨wo, hwo⟩ : ∃ wo, wo = wr := ⟨_, rfl⟩
        subst hwo
        go_loopw [22] (fun i wr => ∃ q : Nat, q ≤ N ∧ i = .int .i64 q ∧ Hid (Below w4.heap.size w4 wr)) (fun i _ => N - (RowKit.intOf i).toNat)
        case atStart => exact ⟨0, Nat.zero_le _, rfl, below_next HX.out (bdN _ _)⟩
        case round =>
          obtain ⟨q, hq, rfl, HX2⟩ := hrel
          have x1 := (HX2.out.cell (World.block_lt_of_cell? w4 _ HC0.out)).trans HC0.out
          have y1 := (HX2.out.cell (World.block_lt_of_cell? w4 _ HC1.out)).trans HC1.out
          clear x0 y0
          by_cases hlq : q < N
          · have hqi : (q : Int) < (N : Int) := by omega
            have hq0 : (0 : Int) ≤ (q : Int) := by omega
            have x2 := (HX2.out.cell (World.block_lt_of_cell? w4 _ (HR0.out q hlq))).trans (HR0.out q hlq)
            have y2 := (HX2.out.cell (World.block_lt_of_cell? w4 _ (HS0.out q hlq))).trans (HS0.out q hlq)
            go_wp2
            go_quiet (fail)
            go_wp2
            go_roundw
            case rel => exact ⟨q + 1, hlq, by go_num, below_next HX2.out (bdN _ _)⟩
            case measure => simp [RowKit.intOf] <;> omega
          · have hqi : ¬ (q : Int) < (N : Int) := by omega
            go_wp2
            go_roundw
            case rel => exact ⟨k + 1, hlt, by go_num, HX2.out⟩
            case measure => simp [RowKit.intOf] <;> omega
      · have hki : ¬ (k : Int) < (K : Int) := by omega
        go_wp2_with (go_at_call 11; (with_reducible refine (HS.out _ (below_next HB4.out HX.out)).mono ?_); rintro e w5 ⟨rfl, hb5⟩)
        go_ret
        exact ⟨rfl, below_next (below_next HB4.out HX.out) hb5⟩
end Go.Proofs.YthgllfbigcoaiaaGreatDoor
