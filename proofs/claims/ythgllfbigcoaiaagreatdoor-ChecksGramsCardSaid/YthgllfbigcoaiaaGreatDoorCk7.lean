/- The law ChecksGrams, over any words and any number. -/
import Derived.Test.YthgllfbigcoaiaaGreatDoorCk6
namespace Go.Proofs.YthgllfbigcoaiaaGreatDoor
open Go Go.RowKit Go.Lib
set_option maxRecDepth 100000
theorem lists_new (w : World) (ls : List (Value × List ByteArray)) (t : TypeId) (h : ∀ x ∈ ls, WdsAt w x.1 x.2) (hn : ls.length ≤ 1000) :
    ListsAt (w.alloc (.cells (ls.map (·.1)).toArray t)) (.slice (some ⟨w.heap.size, 0, none⟩) ls.length ls.length) ls := by
  refine ⟨⟨_, _, rfl, Nat.le_refl _, by unfold maxLen; omega, fun _ => ⟨_, rfl, by simp, fun i j hi hj => ?_⟩⟩, fun x hx => (h x hx).step (below_box _)⟩
  obtain rfl : j = 0 := by omega
  have ha : (⟨w.heap.size, 0, none⟩ : Addr).add (i * 1 + 0) = ⟨w.heap.size, i, none⟩ := by
    unfold Addr.add
    split
    · rename_i h0
      obtain rfl : i = 0 := by omega
      rfl
    · simp
  rw [ha]
  have : (w.alloc (.cells (ls.map (·.1)).toArray t)).cell? ⟨w.heap.size, i, none⟩ = (ls.map (·.1)).toArray[i]? := by simp
  rw [this]
  simp [hi]
set_option maxHeartbeats 8000000 in
theorem grams_law (a b : List ByteArray) (va vb : Value) (n : Int) (w : World) (ha : WdsAt w va a) (hb : WdsAt w vb b)
    (hS : ∀ w', Below w.heap.size w w' → Calls Tryz.prog 11 #[] w' fun e w'' => e = .returned (.bool true) ∧ Below w'.heap.size w' w'') :
    Calls Tryz.prog 5 #[va, vb, .int .i64 n] w fun e w' => e = .returned (.bool true) ∧ Below w.heap.size w w' := by
  have HA := Lib.hid ha
  have HB := Lib.hid hb
  have HS := Lib.hid hS
  have HL := Lib.hid (lists_new w [(va, a), (vb, b)] 22 (by simp [ha, hb]) (by simp))
  simp only [List.map_cons, List.map_nil, List.length_cons, List.length_nil, Nat.zero_add, Nat.reduceAdd] at HL
  have cM := fun w v h => many_any [(va, a), (vb, b)] v w h
  have hlenA := ha.len
  have hlenB := hb.len
  unfold maxLen at hlenA hlenB
  clear hS
  by_cases hbig : 40 < a.length ∨ 40 < b.length ∨ n < 1 ∨ 4 < n
  · obtain ⟨⟨p, cap, rfl, hl, hc, hrA⟩, hza⟩ := ha
    obtain ⟨⟨p2, cap2, rfl, hl2, hc2, hrB⟩, hzb⟩ := hb
    unfold maxLen at hc hc2
    clear hrA hrB hza hzb
    by_cases i1 : (40 : Int) < (a.length : Int) <;> by_cases i2 : (40 : Int) < (b.length : Int) <;> by_cases i3 : n < 1 <;> by_cases i4 : 4 < n
    all_goals first
      | (exfalso; omega)
      | (go_enter Tryz.func5, Tryz.ntmps5
         go_wp2_with (first
           | (go_at_call 10; (with_reducible refine (cM _ _ HL.out).mono ?_); rintro e w1 ⟨⟨B, rfl⟩, rfl⟩; cases B)
           | (go_at_call 11; (with_reducible refine (HS.out _ (below_box _)).mono ?_); rintro e w2 ⟨rfl, hb2⟩))
         all_goals
           go_ret
           exact ⟨rfl, below_next (below_box _) hb2⟩)
  · obtain ⟨N, rfl⟩ : ∃ N : Nat, n = N := ⟨n.toNat, by omega⟩
    have h1 : 1 ≤ N := by omega
    have h4 : N ≤ 4 := by omega
    have hal : a.length ≤ 40 := by omega
    have hbl : b.length ≤ 40 := by omega
    obtain ⟨X, hX⟩ : ∃ X, X = mtQ a b N := ⟨_, rfl⟩
    obtain ⟨Y, hY⟩ : ∃ Y, Y = a.length + 1 - N := ⟨_, rfl⟩
    obtain ⟨Z, hZ⟩ : ∃ Z, Z = b.length + 1 - N := ⟨_, rfl⟩
    have val : ∀ (l m : List ByteArray), l.length ≤ 40 → m.length ≤ 40 → ∀ K : Nat, 1 ≤ K → K ≤ 4 → matchV l m K = .tuple #[.int .i64 (mtQ l m K : Nat), .int .i64 ((l.length + 1 - K : Nat) : Int), .int .i64 ((m.length + 1 - K : Nat) : Int), .int .u8 0] := by
      intro l m hl hm K hK hK4
      unfold matchV
      rw [if_neg (by omega), if_neg (by omega), Int.toNat_natCast, gramsN_nat, gramsN_nat]
    have cAB : ∀ w', WdsAt w' va a → WdsAt w' vb b → Calls Tryz.prog 12 #[va, vb, .int .i64 N] w' fun e w'' => e = .returned (.tuple #[.int .i64 X, .int .i64 Y, .int .i64 Z, .int .u8 0]) ∧ Below w'.heap.size w' w'' := fun w' h h2 => by
      have := Matches_main a b va vb N w' h h2 h1 h4 (by omega) (by omega)
      rwa [val a b hal hbl N h1 h4, ← hX, ← hY, ← hZ] at this
    have cBA : ∀ w', WdsAt w' va a → WdsAt w' vb b → Calls Tryz.prog 12 #[vb, va, .int .i64 N] w' fun e w'' => e = .returned (.tuple #[.int .i64 X, .int .i64 Z, .int .i64 Y, .int .u8 0]) ∧ Below w'.heap.size w' w'' := fun w' h h2 => by
      have := Matches_main b a vb va N w' h2 h h1 h4 (by omega) (by omega)
      rwa [val b a hbl hal N h1 h4, mtQ_comm b a, ← hX, ← hY, ← hZ] at this
    have cAA : ∀ w', WdsAt w' va a → Calls Tryz.prog 12 #[va, va, .int .i64 N] w' fun e w'' => e = .returned (.tuple #[.int .i64 Y, .int .i64 Y, .int .i64 Y, .int .u8 0]) ∧ Below w'.heap.size w' w'' := fun w' h => by
      have := Matches_main a a va va N w' h h h1 h4 (by omega) (by omega)
      rwa [val a a hal hal N h1 h4, mtQ_self, ← hY] at this
    obtain ⟨X2, hX2⟩ : ∃ X2, X2 = mtQ a b (N + 1) := ⟨_, rfl⟩
    have cMo : (N : Int) < 4 → ∀ w', WdsAt w' va a → WdsAt w' vb b → Calls Tryz.prog 12 #[va, vb, .int .i64 ((N : Int) + 1)] w' fun e w'' => (∃ y z : Int, e = .returned (.tuple #[.int .i64 X2, .int .i64 y, .int .i64 z, .int .u8 0])) ∧ Below w'.heap.size w' w'' := fun hN w' h h2 => by
      have := Matches_main a b va vb (N + 1) w' h h2 (by omega) (by omega) (by omega) (by omega)
      rw [val a b hal hbl (N + 1) (by omega) (by omega), ← hX2] at this
      exact this.mono fun e w'' hh => ⟨⟨_, _, hh.1⟩, hh.2⟩
    have hXX : (N : Int) < 4 → (X2 : Int) ≤ (X : Int) := fun hN => by rw [hX, hX2]; exact_mod_cast mtQ_more a b h1 (by omega)
    have hXY : (X : Int) ≤ (Y : Int) := by rw [hX, hY]; exact_mod_cast mtQ_left a b N
    have hXZ : (X : Int) ≤ (Z : Int) := by rw [hX, hZ]; exact_mod_cast mtQ_right a b N
    have hmx : (Y : Int) = max ((a.length : Int) - (N : Int) + 1) 0 := by omega
    have HX := Lib.hid hX
    obtain ⟨⟨p, cap, rfl, hl, hc, hrA⟩, hza⟩ := ha
    obtain ⟨⟨p2, cap2, rfl, hl2, hc2, hrB⟩, hzb⟩ := hb
    unfold maxLen at hc hc2
    clear hrA hrB hza hzb val hX hY hZ hX2
    have i1 : ¬ (40 : Int) < (a.length : Int) := by omega
    have i2 : ¬ (40 : Int) < (b.length : Int) := by omega
    have i3 : ¬ (N : Int) < 1 := by omega
    have i4 : ¬ (4 : Int) < (N : Int) := by omega
    have j1 : ¬ (Y : Int) < (X : Int) := by omega
    have j2 : ¬ (Z : Int) < (X : Int) := by omega
    by_cases h44 : (N : Int) < 4
    · have j3 : ¬ (X : Int) < (X2 : Int) := by have := hXX h44; omega
      have cMo := cMo h44
      go_enter Tryz.func5, Tryz.ntmps5
      go_wp2_with (first
        | (go_at_call 10; (with_reducible refine (cM _ _ HL.out).mono ?_); rintro e w1 ⟨⟨B, rfl⟩, rfl⟩; cases B)
        | (go_at_call 11; (with_reducible refine (HS.out _ HW5.out).mono ?_); rintro e w6 ⟨rfl, hb6⟩; have HW6 := Lib.hid (below_next HW5.out hb6); clear hb6)
        | (go_at_call 11; (with_reducible refine (HS.out _ (below_box _)).mono ?_); rintro e w6 ⟨rfl, hb6⟩; have HW6 := Lib.hid (below_next (below_box _) hb6); clear hb6)
        | (go_at_call 12; (with_reducible refine (cAB _ (HA.out.step (below_box _)) (HB.out.step (below_box _))).mono ?_); rintro e w2 ⟨rfl, hb2⟩; have HW2 := Lib.hid (below_next (below_box _) hb2); clear hb2)
        | (go_at_call 12; (with_reducible refine (cBA _ (HA.out.step HW2.out) (HB.out.step HW2.out)).mono ?_); rintro e w3 ⟨rfl, hb3⟩; have HW3 := Lib.hid (below_next HW2.out hb3); clear hb3)
        | (go_at_call 12; (with_reducible refine (cAA _ (HA.out.step HW3.out)).mono ?_); rintro e w4 ⟨rfl, hb4⟩; have HW4 := Lib.hid (below_next HW3.out hb4); clear hb4)
        | (go_at_call 12; (with_reducible refine (cMo _ (HA.out.step HW4.out) (HB.out.step HW4.out)).mono ?_); rintro e w5 ⟨⟨y5, z5, rfl⟩, hb5⟩; have HW5 := Lib.hid (below_next HW4.out hb5); clear hb5))
      all_goals
        go_ret
        exact ⟨rfl, HW6.out⟩
    · go_enter Tryz.func5, Tryz.ntmps5
      go_wp2_with (first
        | (go_at_call 10; (with_reducible refine (cM _ _ HL.out).mono ?_); rintro e w1 ⟨⟨B, rfl⟩, rfl⟩; cases B)
        | (go_at_call 11; (with_reducible refine (HS.out _ HW4.out).mono ?_); rintro e w6 ⟨rfl, hb6⟩; have HW6 := Lib.hid (below_next HW4.out hb6); clear hb6)
        | (go_at_call 11; (with_reducible refine (HS.out _ (below_box _)).mono ?_); rintro e w6 ⟨rfl, hb6⟩; have HW6 := Lib.hid (below_next (below_box _) hb6); clear hb6)
        | (go_at_call 12; (with_reducible refine (cAB _ (HA.out.step (below_box _)) (HB.out.step (below_box _))).mono ?_); rintro e w2 ⟨rfl, hb2⟩; have HW2 := Lib.hid (below_next (below_box _) hb2); clear hb2)
        | (go_at_call 12; (with_reducible refine (cBA _ (HA.out.step HW2.out) (HB.out.step HW2.out)).mono ?_); rintro e w3 ⟨rfl, hb3⟩; have HW3 := Lib.hid (below_next HW2.out hb3); clear hb3)
        | (go_at_call 12; (with_reducible refine (cAA _ (HA.out.step HW3.out)).mono ?_); rintro e w4 ⟨rfl, hb4⟩; have HW4 := Lib.hid (below_next HW3.out hb4); clear hb4))
      all_goals
        go_ret
        exact ⟨rfl, HW6.out⟩
end Go.Proofs.YthgllfbigcoaiaaGreatDoor
