/- The tag or the hole that a text is, as the specification tells it: where the name is none. -/
import Derived.Test.YtnbeomclmggbiaaGreatDoorRfA
import Derived.Deep.CutBlock
import Derived.Deep.DeepCutAuto
namespace Go.Proofs.YtnbeomclmggbiaaGreatDoor
open Go Go.RowKit Go.Lib
set_option maxRecDepth 1000000
set_option maxHeartbeats 64000000 in
theorem marked_no (s : ByteArray) (w : World) (hs : s.size ≤ 140737488355328) (h3 : ¬ s.size < 3) (hP : ∀ a z b y k txt x, ends s a z b y → core s a z b y k txt → fullx k txt x → nameB x.s = false) :
    Calls Tryz.prog 101 #[.string s] w fun e w' => MarkEnd s e ∧ Below w.heap.size w w' := by
  have ag := Tryz.isAgg56
  have zg := Tryz.sizeOf56
  have h3I : ¬ (s.size : Int) < 3 := by omega
  have hwr1 : IntKind.i64.wrap ((s.size : Int) - 1) = ((s.size - 1 : Nat) : Int) := by rw [IntKind.wrap_i64]; omega
  have hwr2 : IntKind.i64.wrap ((s.size : Int) - 2) = ((s.size - 2 : Nat) : Int) := by rw [IntKind.wrap_i64]; omega
  have q1 : s.size - 1 < s.size := by omega
  have q2 : s.size - 2 < s.size := by omega
  have q3 : 1 < s.size := by omega
  have q4 : 0 < s.size := by omega
  obtain ⟨a, ha⟩ : ∃ a, s[0]'q4 = a := ⟨_, rfl⟩
  obtain ⟨z, hz⟩ : ∃ z, s[s.size - 1]'q1 = z := ⟨_, rfl⟩
  obtain ⟨b, hb⟩ : ∃ b, s[1]'q3 = b := ⟨_, rfl⟩
  obtain ⟨y, hy⟩ : ∃ y, s[s.size - 2]'q2 = y := ⟨_, rfl⟩
  have HE : Hid (ends s a z b y) := by
    refine ⟨?_, ?_, ?_, ?_⟩
    · rw [← ha]; exact Lib.data_getElem? s 0 q4
    · rw [← hz]; exact Lib.data_getElem? s (s.size - 1) q1
    · rw [← hb]; exact Lib.data_getElem? s 1 q3
    · rw [← hy]; exact Lib.data_getElem? s (s.size - 2) q2
  have hn0 : (0 : Int) < (s.size : Int) := by omega
  have hn1 : (1 : Int) < (s.size : Int) := by omega
  have hn2 : (1 : Int) ≤ ((s.size - 1 : Nat) : Int) := by omega
  have hn3 : ((s.size - 1 : Nat) : Int) ≤ (s.size : Int) := by omega
  have hn4 : ((s.size - 1 : Nat) : Int) < (s.size : Int) := by omega
  have hn5 : (2 : Int) ≤ ((s.size - 1 : Nat) : Int) := by omega
  have hn6 : ((s.size - 2 : Nat) : Int) < (s.size : Int) := by omega
  have hn7 : (1 : Int) ≤ ((s.size - 2 : Nat) : Int) := by omega
  have hn8 : ((s.size - 2 : Nat) : Int) ≤ (s.size : Int) := by omega
  have hn9 : (0 : Int) ≤ ((s.size - 1 : Nat) : Int) := by omega
  have hn10 : (0 : Int) ≤ ((s.size - 2 : Nat) : Int) := by omega
  have HPP := Lib.hid hP
  clear hP
  generalize hN1 : s.size - 1 = n1 at *
  generalize hN2 : s.size - 2 = n2 at *
  have HN1 := Lib.hid hN1
  have HN2 := Lib.hid hN2
  clear hN1 hN2 h3
  go_enter Tryz.func101, Tryz.ntmps101
  go_upto_block 0 with fail
  go_cut [] (fun wx => ∃ k txt, Hid (core s a z b y k txt) ∧ wx = (w.alloc (.cells #[.int .u8 0, .string ⟨#[]⟩, .bool false] 56)).alloc (.cells #[.int .u8 k, .string txt, .bool false] 56))
  case first =>
    have u8 : ∀ (c : UInt8) (n : Nat), n < 256 → (c.toNat : Int) = (n : Int) → c = UInt8.ofNat n := fun c n hn h => by rw [← UInt8.toNat_inj, UInt8.toNat_ofNat_of_lt' (by omega)]; omega
    have U8 := Lib.hid u8
    clear u8
    by_cases A1 : (a.toNat : Int) = 123
    · have hA : a = 123 := U8.out a 123 (by decide) A1
      by_cases Z1 : (z.toNat : Int) = 125
      · have HC : Hid (core s a z b y 5 (s.extract 1 n1)) := .inl ⟨hA, U8.out z 125 (by decide) Z1, rfl, by rw [HN1.out]⟩
        go_wp2_with fail
        go_meet
        exact ⟨_, _, HC.out, rfl⟩
      · have HX := Lib.hid (show ∀ x, ¬ Mk x s.data.toList by
          intro x hx
          rcases core_ends hx HE.out with ⟨e1, e2⟩ | ⟨e1, e2⟩
          · subst e1 e2; simp at *
          · subst e1 e2; simp at *)
        go_wp2_with fail
        refine bodyPost_ret (results_ct (xs := [.int .u8 2, .string (s.extract 1 n1), .bool false]) rfl rfl ag zg (three_cells (by simp) (by simp) (by simp))) rfl ?_
        exact ⟨⟨⟨2, s.extract 1 n1, false⟩, false, rfl, fun h => Bool.noConfusion h, fun _ => HX.out⟩, ((Below.refl _ _).alloc (Nat.le_refl _) _).alloc (by simp) _⟩
    · have bA1 : ((a.toNat : Int) == 123) = false := beq_eq_false_iff_ne.2 A1
      by_cases A2 : (a.toNat : Int) = 60
      · have hA : a = 60 := U8.out a 60 (by decide) A2
        by_cases Z2 : (z.toNat : Int) = 62
        · have hZ : z = 62 := U8.out z 62 (by decide) Z2
          by_cases B : (b.toNat : Int) = 47
          · have HC : Hid (core s a z b y 3 (s.extract 2 n1)) := .inr (.inl ⟨hA, hZ, U8.out b 47 (by decide) B, rfl, by rw [HN1.out]⟩)
            go_wp2_with fail
            go_meet
            exact ⟨_, _, HC.out, rfl⟩
          · have bB : ((b.toNat : Int) == 47) = false := beq_eq_false_iff_ne.2 B
            have hB : b ≠ 47 := by rintro rfl; exact B rfl
            by_cases Y : (y.toNat : Int) = 47
            · have HC : Hid (core s a z b y 4 (s.extract 1 n2)) := .inr (.inr (.inl ⟨hA, hZ, hB, U8.out y 47 (by decide) Y, rfl, by rw [HN2.out]⟩))
              go_wp2_with fail
              go_meet
              exact ⟨_, _, HC.out, rfl⟩
            · have bY : ((y.toNat : Int) == 47) = false := beq_eq_false_iff_ne.2 Y
              have hY : y ≠ 47 := by rintro rfl; exact Y rfl
              have HC : Hid (core s a z b y 2 (s.extract 1 n1)) := .inr (.inr (.inr ⟨hA, hZ, hB, hY, rfl, by rw [HN1.out]⟩))
              go_wp2_with fail
              go_meet
              exact ⟨_, _, HC.out, rfl⟩
        · have HX := Lib.hid (show ∀ x, ¬ Mk x s.data.toList by
            intro x hx
            rcases core_ends hx HE.out with ⟨e1, e2⟩ | ⟨e1, e2⟩
            · subst e1 e2; simp at *
            · subst e1 e2; simp at *)
          go_wp2_with fail
          refine bodyPost_ret (results_ct (xs := [.int .u8 2, .string (s.extract 1 n1), .bool false]) rfl rfl ag zg (three_cells (by simp) (by simp) (by simp))) rfl ?_
          exact ⟨⟨⟨2, s.extract 1 n1, false⟩, false, rfl, fun h => Bool.noConfusion h, fun _ => HX.out⟩, ((Below.refl _ _).alloc (Nat.le_refl _) _).alloc (by simp) _⟩
      · have HX := Lib.hid (show ∀ x, ¬ Mk x s.data.toList by
          intro x hx
          rcases core_ends hx HE.out with ⟨e1, e2⟩ | ⟨e1, e2⟩
          · subst e1 e2; simp at *
          · subst e1 e2; simp at *)
        go_wp2_with fail
        refine bodyPost_ret (results_ct (xs := [.int .u8 2, .string (s.extract 1 n1), .bool false]) rfl rfl ag zg (three_cells (by simp) (by simp) (by simp))) rfl ?_
        exact ⟨⟨⟨2, s.extract 1 n1, false⟩, false, rfl, fun h => Bool.noConfusion h, fun _ => HX.out⟩, ((Below.refl _ _).alloc (Nat.le_refl _) _).alloc (by simp) _⟩
  case rest =>
    obtain ⟨k, txt, HC, rfl⟩ := hcut
    clear ha hz hb hy hwr1 hwr2 hn1 hn2 hn3 hn4 hn5 hn6 hn7 hn8 hn9 hn10 q1 q2 q3
    go_step
    go_step
    go_cut [] (fun wx => ∃ x, Hid (fullx k txt x) ∧ wx = (w.alloc (.cells #[.int .u8 0, .string ⟨#[]⟩, .bool false] 56)).alloc (.cells #[.int .u8 x.k, .string x.s, .bool x.c] 56))
    case first =>
      by_cases e0 : 0 < txt.size
      · have e0I : (0 : Int) < (txt.size : Int) := by omega
        obtain ⟨f, hf⟩ : ∃ f, txt[0]'e0 = f := ⟨_, rfl⟩
        have hhd : Hid (txt.data.toList.head? = some f) := by
          show _ = _
          rw [List.head?_eq_getElem?, ← hf]; exact Lib.data_getElem? txt 0 e0
        by_cases F : (f.toNat : Int) = 43
        · have hF : Hid (f = 43) := by
            show _ = _
            rw [← UInt8.toNat_inj]
            show f.toNat = 43
            omega
          have e1I : (1 : Int) ≤ (txt.size : Int) := by omega
          by_cases K2 : k = 2
          · subst K2
            go_wp2_with fail
            go_meet
            exact ⟨⟨2, txt.extract 1 txt.size, true⟩, .inl ⟨by rw [hhd.out, hF.out], .inl rfl, rfl⟩, rfl⟩
          · by_cases K3 : k = 3
            · subst K3
              go_wp2_with fail
              go_meet
              exact ⟨⟨3, txt.extract 1 txt.size, true⟩, .inl ⟨by rw [hhd.out, hF.out], .inr rfl, rfl⟩, rfl⟩
            · have bK2 : (k == 2) = false := beq_eq_false_iff_ne.2 K2
              have bK3 : (k == 3) = false := beq_eq_false_iff_ne.2 K3
              go_wp2_with fail
              go_meet
              exact ⟨⟨k, txt, false⟩, .inr ⟨by rintro ⟨_, h | h⟩ <;> contradiction, rfl⟩, rfl⟩
        · have bF : ((f.toNat : Int) == 43) = false := beq_eq_false_iff_ne.2 F
          have HFn : Hid (¬ (txt.data.toList.head? = some 43 ∧ (k = 2 ∨ k = 3))) := by
            rintro ⟨h, _⟩
            rw [hhd.out] at h
            injection h with h
            subst h
            exact F rfl
          go_wp2_with fail
          go_meet
          exact ⟨⟨k, txt, false⟩, .inr ⟨HFn.out, rfl⟩, rfl⟩
      · have e0I : ¬ (0 : Int) < (txt.size : Int) := by omega
        have HFn : Hid (¬ (txt.data.toList.head? = some 43 ∧ (k = 2 ∨ k = 3))) := by
          rintro ⟨h, _⟩
          have hl : txt.data.toList = [] := List.eq_nil_of_length_eq_zero (by have := size_eq txt; omega)
          rw [hl] at h
          cases h
        go_wp2_with fail
        go_meet
        exact ⟨⟨k, txt, false⟩, .inr ⟨HFn.out, rfl⟩, rfl⟩
    case rest =>
      obtain ⟨x, HF, rfl⟩ := hcut
      have hxs : x.s.size ≤ s.size := by
        have h1 : txt.size ≤ s.size := by
          rcases HC.out with ⟨_, _, _, e⟩ | ⟨_, _, _, _, e⟩ | ⟨_, _, _, _, _, e⟩ | ⟨_, _, _, _, _, e⟩ <;> rw [e, ByteArray.size_extract] <;> omega
        rcases HF.out with ⟨_, _, rfl⟩ | ⟨_, rfl⟩
        · show (txt.extract 1 txt.size).size ≤ _
          rw [ByteArray.size_extract]; omega
        · exact h1
      have hxk : nameB x.s = true → x.k ≠ 1 ∧ pieceE x = 0 := by
        have hk : k = 5 ∨ k = 3 ∨ k = 4 ∨ k = 2 := by
          rcases HC.out with ⟨_, _, e, _⟩ | ⟨_, _, _, e, _⟩ | ⟨_, _, _, _, e, _⟩ | ⟨_, _, _, _, e, _⟩ <;> simp [e]
        rcases HF.out with ⟨_, h2, rfl⟩ | ⟨_, rfl⟩
        · intro hn
          simp only at hn
          rcases h2 with rfl | rfl <;> exact ⟨by simp, by simp [pieceE, hn]⟩
        · intro hn
          simp only at hn
          rcases hk with rfl | rfl | rfl | rfl <;> exact ⟨by simp, by simp [pieceE, hn]⟩
      have HUN := Lib.hid (fun (y' : Pc) (h : Mk y' s.data.toList) => core_of h HE.out HC.out HF.out)
      have hbW : Below w.heap.size w ((w.alloc (.cells #[.int .u8 0, .string ⟨#[]⟩, .bool false] 56)).alloc (.cells #[.int .u8 x.k, .string x.s, .bool x.c] 56)) := ((Below.refl _ _).alloc (Nat.le_refl _) _).alloc (by simp) _
      have hZW : ((w.alloc (.cells #[.int .u8 0, .string ⟨#[]⟩, .bool false] 56)).alloc (.cells #[.int .u8 x.k, .string x.s, .bool x.c] 56)).heap[w.heap.size]? = some (.cells #[.int .u8 0, .string ⟨#[]⟩, .bool false] 56 (0, 0)) := by
        rw [Below.heap_alloc _ _ _ (by simp)]
        show (w.heap.push _)[_]? = _
        simp
      have hXW : Boxed (w.heap.size + 1) x ((w.alloc (.cells #[.int .u8 0, .string ⟨#[]⟩, .bool false] 56)).alloc (.cells #[.int .u8 x.k, .string x.s, .bool x.c] 56)) := by
        have := Boxed.new (w.alloc (.cells #[.int .u8 0, .string ⟨#[]⟩, .bool false] 56)) x
        simpa [pcC] using this
      generalize (w.alloc (.cells #[.int .u8 0, .string ⟨#[]⟩, .bool false] 56)).alloc (.cells #[.int .u8 x.k, .string x.s, .bool x.c] 56) = W at *
      have HBW := Lib.hid hbW
      have HZW := Lib.hid hZW
      have HXW := Lib.hid hXW
      have hwW := lt_of_block hZW
      obtain ⟨x0, x1, x2, x3⟩ := hXW
      have z0 : W.cell? ⟨w.heap.size, 0, none⟩ = some (.int .u8 0) := by rw [Lib.cell_of_heap hZW]; rfl
      have z1 : W.cell? ⟨w.heap.size, 1, none⟩ = some (.string ⟨#[]⟩) := by rw [Lib.cell_of_heap hZW]; rfl
      have z2 : W.cell? ⟨w.heap.size, 2, none⟩ = some (.bool false) := by rw [Lib.cell_of_heap hZW]; rfl
      have f0 : W.frozen? ⟨w.heap.size, 0, none⟩ = false := Lib.frozen_of_heap hZW 0
      have f1 : W.frozen? ⟨w.heap.size, 1, none⟩ = false := Lib.frozen_of_heap hZW 1
      have f2 : W.frozen? ⟨w.heap.size, 2, none⟩ = false := Lib.frozen_of_heap hZW 2
      have hn : nameB x.s = false := HPP.out a z b y k txt x HE.out HC.out HF.out
      have cN := fun w => refName_any x.s w (by unfold maxLen; omega)
      rw [hn] at cN
      have HQ2 : Hid (∀ y', ¬ Mk y' s.data.toList) := fun y' hy' => by
        have e := HUN.out y' hy'
        have h2 := hy'.kinds.1
        rw [← e, hn] at h2
        cases h2
      clear hbW hZW HC HF HN1 HN2 hn hxk HPP
      obtain ⟨xk, xs, xc⟩ := x
      simp only at *
      go_step
      go_step
      go_cut [3] (fun s3 wx => Hid (TailR s w ⟨xk, xs, xc⟩ s3 wx))
      case first =>
        first | go_region_with (go_at_call 111; refine (cN _).mono ?_; rintro e w2 ⟨rfl, rfl⟩) | fail
        all_goals
          go_wp2
          go_meet
          exact ⟨false, rfl, set3_0 HZW.out, set3_1 HZW.out, set3_2 HZW.out, (by first | exact (set3_below HBW.out _ _ _).drew | exact set3_below HBW.out _ _ _), fun h => Bool.noConfusion h, fun _ => HQ2.out⟩
      case rest =>
        obtain ⟨ok, rfl, k0, k1, k2, hbel, ho1, ho2⟩ := hcut
        have HO := Lib.hid ho1
        have HO2 := Lib.hid ho2
        have HBL := Lib.hid hbel
        clear ho1 ho2 hbel
        go_step
        go_step
        go_wp2
        refine bodyPost_ret (results_ct (xs := [.int .u8 xk, .string xs, .bool xc]) rfl rfl ag zg (three_cells k0 k1 k2)) rfl ?_
        exact ⟨⟨⟨xk, xs, xc⟩, ok, rfl, HO.out, HO2.out⟩, HBL.out⟩
end Go.Proofs.YtnbeomclmggbiaaGreatDoor
