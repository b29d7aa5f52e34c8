/- Names and texts of pieces, and what a piece has wrong by itself, as the program tells it. -/
import Derived.Test.YtcgghmpafphcpaaGreatDoorDp2
import Derived.Test.YtcgghmpafphcpaaGreatDoorDps
namespace Go.Proofs.YtcgghmpafphcpaaGreatDoor
open Go Go.RowKit Go.Lib
set_option maxRecDepth 100000
theorem bytes_len (s : ByteArray) : s.data.toList.length = s.size := rfl
/-- the runes behind a place have no control rune -/
def okR (s : ByteArray) (fuel pos : Nat) : Bool := (runesG fuel (s.data.toList.drop pos)).all fun r => !ctl r
theorem okR_step (s : ByteArray) (fuel pos : Nat) (hp : pos < s.size) : okR s (fuel + 1) pos = (!ctl (Utf8.decode s pos).1 && okR s fuel (pos + (Utf8.decode s pos).2)) := by
  unfold okR
  have hne : s.data.toList.drop pos ≠ [] := by
    intro h
    have := congrArg List.length h
    rw [List.length_drop, bytes_len] at this
    simp at this; omega
  simp only [runesG, if_neg hne, List.all_cons, decodeL_drop, List.drop_drop]
theorem okR_end (s : ByteArray) (fuel pos : Nat) (hp : ¬ pos < s.size) : okR s fuel pos = true := by
  unfold okR
  have h : s.data.toList.drop pos = [] := by
    apply List.drop_eq_nil_of_le
    rw [bytes_len]; omega
  rw [h]
  cases fuel <;> simp [runesG]
theorem textB_eq (s : ByteArray) : textB s = (validD s.data.toList && okR s s.size 0) := rfl
def Tabs (w : World) : Prop := Cls w ∧ Lib.Utf8Tabs (laysValid_ren.g 3) (laysValid_ren.g 4) w ∧ 5 ≤ w.heap.size
theorem Tabs.step {w w' : World} (h : Tabs w) (hb : Below w.heap.size w w') : Tabs w' :=
  ⟨h.1.below hb (by have := h.2.2; omega), Utf8Tabs_below h.2.1 hb, Nat.le_trans h.2.2 hb.size⟩
set_option maxHeartbeats 2000000 in
theorem isText_any (s : ByteArray) (w : World) (hs : s.size ≤ maxLen) (hT : Tabs w) :
    Calls Tryz.prog 61 #[.string s] w fun e w' => e = .returned (.bool (textB s)) ∧ Below w.heap.size w w' := by
  unfold maxLen at hs
  have HT := Lib.hid (textB_eq s)
  have cV : ∀ wr, Tabs wr → Calls Tryz.prog 103 #[.string s] wr _ := fun wr h => Any.utf8_ValidString laysValid s wr (by omega) h.2.1
  generalize textB s = X at HT ⊢
  generalize Lib.validD s.data.toList = V at cV HT
  have h5 := hT.2.2
  have HTA := Lib.hid hT
  clear hT
  go_enter Tryz.func61, Tryz.ntmps61
  go_wp2
  go_loopw [2] (fun v wr => ∃ (pos fuel : Nat), wr.heap[w.heap.size]? = some (.stringIter s pos) ∧ Below w.heap.size w wr ∧ Hid (okR s fuel pos = okR s s.size 0) ∧ s.size ≤ pos + fuel) (fun _ wr => s.size - wr.iterPos w.heap.size)
  case atStart => exact ⟨0, s.size, World.iter_heap w s 0, (Below.refl _ _).alloc (Nat.le_refl _) _, rfl, by omega⟩
  case round =>
    obtain ⟨pos, fuel, hit, hbw, HS, hb⟩ := hrel
    have hpos0 := iterPos_of hit
    by_cases hp : pos < s.size
    · have hnx : ∀ ty, (Instr.next (.pointer (some ⟨w.heap.size, 0, none⟩)) true ty).run Tryz.prog wr = _ := fun ty => Lib.run_next_any_at wr w.heap.size s pos ty hit hp
      have hwd := width_pos s pos
      obtain ⟨fuel, rfl⟩ : ∃ f', fuel = f' + 1 := ⟨fuel - 1, by omega⟩
      have HO := Lib.hid (okR_step s fuel pos hp)
      have hit2 := Lib.iterAt_heap wr w.heap.size s pos (pos + (Utf8.decode s pos).2) hit
      have hbw2 := Lib.below_iterAt hbw (k := w.heap.size) (Nat.le_refl _) s (pos + (Utf8.decode s pos).2)
      have hle := decode_le s pos
      obtain ⟨W1, hW1⟩ : ∃ W1, W1 = wr.iterAt w.heap.size s (pos + (Utf8.decode s pos).2) := ⟨_, rfl⟩
      rw [← hW1] at hnx hit2 hbw2
      clear hW1 hit hbw
      have hC := classOf_any (Utf8.decode s pos).1 W1 hle (HTA.out.1.below hbw2 (by omega))
      generalize (Utf8.decode s pos).1 = r at hC hnx HO
      generalize (Utf8.decode s pos).2 = d at hnx HO hit2 hwd
      cases hc : ctl r
      · rw [hc] at hC HO
        go_wp2_with (go_at_call 76; (with_reducible refine hC.mono ?_); rintro e w2 ⟨⟨z, rfl, hz⟩, rfl⟩; have hz' : ¬ z = 0 := by simpa using hz)
        go_roundw
        case rel => exact ⟨_, fuel, hit2, hbw2, (by show _ = _; rw [← HS.out, HO.out]; simp), by omega⟩
        case measure => rw [iterPos_of hit2, hpos0]; omega
      · rw [hc] at hC HO
        go_wp2_with (go_at_call 76; (with_reducible refine hC.mono ?_); rintro e w2 ⟨⟨z, rfl, hz⟩, rfl⟩; have hz' : z = 0 := by simpa using hz)
        go_ret
        exact ⟨ret_bool (by rw [HT.out, ← HS.out, HO.out]; simp), hbw2⟩
    · have hnx : ∀ ty, (Instr.next (.pointer (some ⟨w.heap.size, 0, none⟩)) true ty).run Tryz.prog wr = _ := fun ty => Lib.run_next_end_at wr w.heap.size s pos ty hit hp
      have HE := Lib.hid (HS.symm.trans (okR_end s fuel pos hp))
      have hTr := HTA.out.step hbw
      have cV1 := cV wr hTr
      go_wp2_with (go_at_call 103; (with_reducible refine cV1.mono ?_); rintro e w2 ⟨rfl, hb2⟩)
      go_ret
      exact ⟨ret_bool (by rw [HT.out, HE.out]; simp), below_next hbw hb2⟩
theorem get0 {s : ByteArray} (h : 0 < s.size) : s.get! 0 = s[0] := by
  show s.data[0]! = s.data[0]
  exact getElem!_pos s.data 0 h
def upTo (p : Int → Bool) (s : ByteArray) (k : Nat) : Prop := ∀ i (h : i < s.size), i < k → p (s[i].toNat : Int) = true
theorem upTo_zero (p : Int → Bool) (s : ByteArray) : upTo p s 0 := fun _ _ h => absurd h (Nat.not_lt_zero _)
theorem upTo_succ {p : Int → Bool} {s : ByteArray} {k : Nat} (h : upTo p s k) (hk : k < s.size) (hp : p (s[k].toNat : Int) = true) : upTo p s (k + 1) := by
  intro i hi hik
  by_cases e : i = k
  · subst e; exact hp
  · exact h i hi (by omega)
theorem allB_true {p : Int → Bool} {s : ByteArray} {k : Nat} (h : upTo p s k) (hk : s.size ≤ k) : allB p s = true := by
  unfold allB
  rw [List.all_eq_true]
  intro b hb
  obtain ⟨i, hi, rfl⟩ := List.getElem_of_mem hb
  have hi' : i < s.size := by simpa using hi
  exact h i hi' (by omega)
theorem allB_false {p : Int → Bool} {s : ByteArray} {k : Nat} (hk : k < s.size) (hp : p (s[k].toNat : Int) = false) : allB p s = false := by
  unfold allB
  rw [List.all_eq_false]
  exact ⟨s[k], by show s.data[k] ∈ _; exact Array.mem_toList_iff.mpr (Array.getElem_mem _), by rw [hp]; simp⟩
theorem nameB_of {s : ByteArray} (h1 : 1 ≤ s.size) (h2 : s.size ≤ 16) : nameB s = (isL ((s.get! 0).toNat : Int) && allB isT s) := by unfold nameB; simp [h1, h2]
theorem nameB_not {s : ByteArray} (h : s.size < 1 ∨ 16 < s.size) : nameB s = false := by
  unfold nameB; rcases h with h | h
  · simp [show ¬ 1 ≤ s.size by omega]
  · simp [show ¬ s.size ≤ 16 by omega]
theorem nameB_first {s : ByteArray} (h1 : 0 < s.size) (hb : isL (s[0].toNat : Int) = false) : nameB s = false := by
  unfold nameB; rw [get0 h1, hb]; simp
theorem nameB_later {s : ByteArray} {k : Nat} (hk : k < s.size) (hn : isT (s[k].toNat : Int) = false) : nameB s = false := by
  unfold nameB; rw [allB_false hk hn]; simp
/-- what holds of the loop's counter -/
def NameAt (s : ByteArray) (k : Nat) : Prop := (∀ h : 0 < s.size, 0 < k → isL (s[0].toNat : Int) = true) ∧ upTo isT s k
theorem nameB_all {s : ByteArray} {k : Nat} (h1 : 1 ≤ s.size) (h2 : s.size ≤ 16) (h : NameAt s k) (hk : s.size ≤ k) : nameB s = true := by
  rw [nameB_of h1 h2, get0 (by omega), h.1 (by omega) (by omega), allB_true h.2 hk]; rfl
theorem isL_of {c : Int} (h : 97 ≤ c) (h2 : c ≤ 122) : isL c = true := by unfold isL; simp [h, h2]
theorem isL_not {c : Int} (h : ¬ 97 ≤ c ∨ ¬ c ≤ 122) : isL c = false := by unfold isL; simp; omega
theorem isT_of {c : Int} (h : (97 ≤ c ∧ c ≤ 122) ∨ (48 ≤ c ∧ c ≤ 57) ∨ c = 45) : isT c = true := by unfold isT isL; rcases h with h | h | h <;> simp [h]
theorem isT_not {c : Int} (h : ¬ (97 ≤ c ∧ c ≤ 122)) (h2 : ¬ (48 ≤ c ∧ c ≤ 57)) (h3 : c ≠ 45) : isT c = false := by unfold isT isL; simp; omega
theorem NameAt.next0 {s : ByteArray} (hlt : 0 < s.size) (h : 97 ≤ (s[0].toNat : Int)) (h2 : (s[0].toNat : Int) ≤ 122) : NameAt s (0 + 1) :=
  ⟨fun _ _ => isL_of h h2, upTo_succ (upTo_zero _ _) hlt (isT_of (.inl ⟨h, h2⟩))⟩
theorem NameAt.next {s : ByteArray} {k : Nat} (hlt : k < s.size) (hk : 0 < k) (hn : isT (s[k].toNat : Int) = true) (h : NameAt s k) : NameAt s (k + 1) :=
  ⟨fun h' _ => h.1 h' hk, upTo_succ h.2 hlt hn⟩
theorem nonempty {s : ByteArray} (h : 1 ≤ s.size) : s.toList.isEmpty = false := by
  rw [ByteArray.toList_eq]
  cases e : s.data.toList with
  | nil => have : s.size = 0 := by have := congrArg List.length e; simpa using this
           omega
  | cons _ _ => rfl
theorem isempty {s : ByteArray} (h : ¬ 1 ≤ s.size) : s.toList.isEmpty = true := by
  rw [ByteArray.toList_eq]
  cases e : s.data.toList with
  | nil => rfl
  | cons _ _ => have : s.size ≠ 0 := by have := congrArg List.length e; simp at this; omega
                omega
set_option maxHeartbeats 4000000 in
theorem isName_any (s : ByteArray) (w : World) (hs : s.size ≤ maxLen) :
    Calls Tryz.prog 62 #[.string s] w fun e w' => e = .returned (.bool (nameB s)) ∧ w' = w := by
  unfold maxLen at hs
  go_enter Tryz.func62, Tryz.ntmps62
  go_wp2
  go_loop [8] (fun i => ∃ k : Nat, k ≤ s.size ∧ i = .int .i64 k ∧ NameAt s k) (fun i => s.size - (RowKit.intOf i).toNat)
  case atStart => exact ⟨0, Nat.zero_le _, rfl, fun _ h => absurd h (Nat.lt_irrefl _), upTo_zero _ _⟩
  case round =>
    obtain ⟨k, hk, rfl, hN⟩ := hrel
    have HN := Lib.hid hN; clear hN
    by_cases hlt : k < s.size
    · by_cases hk0 : k = 0
      · subst hk0
        have HX := Lib.hid (fun h => NameAt.next0 (s := s) hlt h)
        have HY := Lib.hid (fun h => nameB_first hlt (isL_not h))
        generalize hc : (s[0].toNat : Int) = c at HX HY
        by_cases h1 : 97 ≤ c <;> by_cases h2 : c ≤ 122 <;> by_cases h3 : 48 ≤ c <;> by_cases h4 : c ≤ 57 <;> by_cases h5 : c = 45
        all_goals
          first
          | (exfalso; omega)
          | (go_wp2
             first
             | (go_ret
                exact ⟨ret_bool (HY.out (by omega)).symm, rfl⟩)
             | (go_round
                case rel => exact ⟨0 + 1, by omega, by go_num, HX.out h1 h2⟩
                case measure => simp [RowKit.intOf]; omega))
      · have hk1 : 0 < k := by omega
        have hkz : ((k : Int) == 0) = false := by simp; omega
        have HX := Lib.hid (fun h => NameAt.next (s := s) hlt hk1 h HN.out)
        have HY := Lib.hid (fun h => nameB_later (s := s) hlt h)
        generalize hc : (s[k].toNat : Int) = c at HX HY
        by_cases h1 : 97 ≤ c <;> by_cases h2 : c ≤ 122 <;> by_cases h3 : 48 ≤ c <;> by_cases h4 : c ≤ 57 <;> by_cases h5 : c = 45
        all_goals
          first
          | (exfalso; omega)
          | (try (have h45 : (c == 45) = false := by (simp; omega))
             go_wp2
             first
             | (go_ret
                exact ⟨ret_bool (HY.out (isT_not (by omega) (by omega) (by omega))).symm, rfl⟩)
             | (go_round
                case rel => exact ⟨k + 1, by omega, by go_num, HX.out (isT_of (by omega))⟩
                case measure => simp [RowKit.intOf]; omega))
    · by_cases h1 : 1 ≤ s.size
      · have hE := nonempty h1
        by_cases h16 : s.size ≤ 16
        · have HZ := Lib.hid (nameB_all h1 h16 HN.out (by omega))
          go_wp2
          go_ret
          exact ⟨ret_bool (by rw [HZ.out] <;> (simp <;> omega)), rfl⟩
        · have HZ := Lib.hid (nameB_not (s := s) (by omega))
          go_wp2
          go_ret
          exact ⟨ret_bool (by rw [HZ.out] <;> (simp <;> omega)), rfl⟩
      · have hE := isempty h1
        have HZ := Lib.hid (nameB_not (s := s) (by omega))
        go_wp2
        go_ret
        exact ⟨ret_bool (by rw [HZ.out] <;> (simp <;> omega)), rfl⟩
set_option maxHeartbeats 4000000 in
theorem checkPiece_any (x : Pc) (w : World) (hs : x.s.size ≤ maxLen) (hT : Tabs w) :
    Calls Tryz.prog 27 #[pcV x] w fun e w' => e = .returned (.int .u8 (pieceE x)) ∧ Below w.heap.size w w' := by
  have ag := Tryz.isAgg39
  have zg := Tryz.sizeOf39
  have cT := fun wr (h : Tabs wr) => isText_any x.s wr hs h
  have cN := fun wr => isName_any x.s wr hs
  have HP := Lib.hid (show pieceE x = if x.k < 1 ∨ 5 < x.k then 1
    else if x.c = true ∧ x.k ≠ 2 ∧ x.k ≠ 3 then 1
    else if x.k = 1 then (if x.s.size = 0 ∨ textB x.s = false then 4 else 0)
    else if nameB x.s = true then 0 else 5 from rfl)
  have HTA := Lib.hid (hT.step (below_box (pcC x)))
  have hb0 := Lib.hid (below_box (w := w) (pcC x))
  clear hT
  obtain ⟨k, s, c⟩ := x
  generalize pieceE ⟨k, s, c⟩ = E at HP ⊢
  unfold pcV
  unfold pcC at HTA hb0
  simp only at cT cN HP HTA hb0 hs ⊢
  generalize textB s = T at cT HP
  generalize nameB s = N at cN HP
  by_cases h1 : k = 1
  · subst h1
    by_cases h0 : 1 ≤ s.size
    · have hE := nonempty h0
      have cT1 := cT _ HTA.out
      cases c <;> cases T
      all_goals
        go_enter Tryz.func27, Tryz.ntmps27
        go_wp2_with (go_at_call 61; (with_reducible refine cT1.mono ?_); rintro e w2 ⟨rfl, hb2⟩)
        go_ret
        exact ⟨ret_u8 (by rw [HP.out]; simp [show ¬ s.size = 0 by omega]), by first | exact hb0.out | exact below_next hb0.out hb2⟩
    · have hE := isempty h0
      have hz : s.size = 0 := by omega
      cases c
      all_goals
        go_enter Tryz.func27, Tryz.ntmps27
        go_wp2
        go_ret
        exact ⟨ret_u8 (by rw [HP.out]; simp [hz]), hb0.out⟩
  · by_cases h2 : k = 2 <;> by_cases h3 : k = 3 <;> by_cases h4 : k = 4 <;> by_cases h5 : k = 5
    all_goals first
      | (exfalso; omega)
      | (try subst h2
         try subst h3
         try subst h4
         try subst h5
         cases c <;> cases N
         all_goals
           go_enter Tryz.func27, Tryz.ntmps27
           go_wp2_with (go_at_call 62; (with_reducible refine (cN _).mono ?_); rintro e w2 ⟨rfl, rfl⟩)
           go_ret
           exact ⟨ret_u8 (by rw [HP.out]; simp; try omega), hb0.out⟩)
end Go.Proofs.YtcgghmpafphcpaaGreatDoor
