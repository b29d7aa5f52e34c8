/- Names and texts of pieces, and what a piece has wrong by itself, as the program tells it. The stack of open tags: push, top, pop, follow, as the program does them on a stack that a call has made itself. A list of pieces in memory; which lists are valid, as the program tells it. -/
import Derived.Test.YtnkpjkomokkhcaaGreatDoorDpA
import Derived.Test.YtnkpjkomokkhcaaGreatDoorDps
import Derived.Lib.Builder
import Derived.Deep.RegionHeld3
namespace Go.Proofs.YtnkpjkomokkhcaaGreatDoor
open Go Go.RowKit Go.Lib
set_option maxRecDepth 100000
theorem bytes_len (s : ByteArray) : s.data.toList.length = s.size := rfl
/-- the runes behind a place have no control rune -/
def okR (s : ByteArray) (fuel pos : Nat) : Bool := (runesG fuel (s.data.toList.drop pos)).all fun r => !ctl r
theorem okR_step (s : ByteArray) (fuel pos : Nat) (hp : pos < s.size) : okR s (fuel + 1) pos = (!ctl (Utf8.decode s pos).1 && okR s fuel (pos + (Utf8.decode s pos).2)) := by
  unfold okR
  have hne : s.data.toList.drop pos ≠ [] := by
    intro h
    have := congrArg List.length h
    rw [List.length_drop, bytes_len] at this
    simp at this; omega
  simp only [runesG, if_neg hne, List.all_cons, decodeL_drop, List.drop_drop]
theorem okR_end (s : ByteArray) (fuel pos : Nat) (hp : ¬ pos < s.size) : okR s fuel pos = true := by
  unfold okR
  have h : s.data.toList.drop pos = [] := by
    apply List.drop_eq_nil_of_le
    rw [bytes_len]; omega
  rw [h]
  cases fuel <;> simp [runesG]
theorem textB_eq (s : ByteArray) : textB s = (validD s.data.toList && okR s s.size 0) := rfl
def Tabs (w : World) : Prop := Cls w ∧ Lib.Utf8Tabs (laysValid_ren.g 3) (laysValid_ren.g 4) w ∧ 5 ≤ w.heap.size
theorem Tabs.step {w w' : World} (h : Tabs w) (hb : Below w.heap.size w w') : Tabs w' :=
  ⟨h.1.below hb (by have := h.2.2; omega), Utf8Tabs_below h.2.1 hb, Nat.le_trans h.2.2 hb.size⟩
set_option maxHeartbeats 2000000 in
theorem isText_any (s : ByteArray) (w : World) (hs : s.size ≤ maxLen) (hT : Tabs w) :
    Calls Tryz.prog 93 #[.string s] w fun e w' => e = .returned (.bool (textB s)) ∧ Below w.heap.size w w' := by
  unfold maxLen at hs
  have HT := Lib.hid (textB_eq s)
  have cV : ∀ wr, Tabs wr → Calls Tryz.prog 128 #[.string s] wr _ := fun wr h => Any.utf8_ValidString laysValid s wr (by omega) h.2.1
  generalize textB s = X at HT ⊢
  generalize Lib.validD s.data.toList = V at cV HT
  have h5 := hT.2.2
  have HTA := Lib.hid hT
  clear hT
  go_enter Tryz.func93, Tryz.ntmps93
  go_wp2
  go_loopw [2] (fun v wr => ∃ (pos fuel : Nat), wr.heap[w.heap.size]? = some (.stringIter s pos) ∧ Below w.heap.size w wr ∧ Hid (okR s fuel pos = okR s s.size 0) ∧ s.size ≤ pos + fuel) (fun _ wr => s.size - wr.iterPos w.heap.size)
  case atStart => exact ⟨0, s.size, World.iter_heap w s 0, (Below.refl _ _).alloc (Nat.le_refl _) _, rfl, by omega⟩
  case round =>
    obtain ⟨pos, fuel, hit, hbw, HS, hb⟩ := hrel
    have hpos0 := iterPos_of hit
    by_cases hp : pos < s.size
    · have hnx : ∀ ty, (Instr.next (.pointer (some ⟨w.heap.size, 0, none⟩)) true ty).run Tryz.prog wr = _ := fun ty => Lib.run_next_any_at wr w.heap.size s pos ty hit hp
      have hwd := width_pos s pos
      obtain ⟨fuel, rfl⟩ : ∃ f', fuel = f' + 1 := ⟨fuel - 1, by omega⟩
      have HO := Lib.hid (okR_step s fuel pos hp)
      have hit2 := Lib.iterAt_heap wr w.heap.size s pos (pos + (Utf8.decode s pos).2) hit
      have hbw2 := Lib.below_iterAt hbw (k := w.heap.size) (Nat.le_refl _) s (pos + (Utf8.decode s pos).2)
      have hle := decode_le s pos
      obtain ⟨W1, hW1⟩ : ∃ W1, W1 = wr.iterAt w.heap.size s (pos + (Utf8.decode s pos).2) := ⟨_, rfl⟩
      rw [← hW1] at hnx hit2 hbw2
      clear hW1 hit hbw
      have hC := classOf_any (Utf8.decode s pos).1 W1 hle (HTA.out.1.below hbw2 (by omega))
      generalize (Utf8.decode s pos).1 = r at hC hnx HO
      generalize (Utf8.decode s pos).2 = d at hnx HO hit2 hwd
      cases hc : ctl r
      · rw [hc] at hC HO
        go_wp2_with (go_at_call 87; (with_reducible refine hC.mono ?_); rintro e w2 ⟨⟨z, rfl, hz⟩, rfl⟩; have hz' : ¬ z = 0 := by simpa using hz)
        go_roundw
        case rel => exact ⟨_, fuel, hit2, hbw2, (by show _ = _; rw [← HS.out, HO.out]; simp), by omega⟩
        case measure => rw [iterPos_of hit2, hpos0]; omega
      · rw [hc] at hC HO
        go_wp2_with (go_at_call 87; (with_reducible refine hC.mono ?_); rintro e w2 ⟨⟨z, rfl, hz⟩, rfl⟩; have hz' : z = 0 := by simpa using hz)
        go_ret
        exact ⟨ret_bool (by rw [HT.out, ← HS.out, HO.out]; simp), hbw2⟩
    · have hnx : ∀ ty, (Instr.next (.pointer (some ⟨w.heap.size, 0, none⟩)) true ty).run Tryz.prog wr = _ := fun ty => Lib.run_next_end_at wr w.heap.size s pos ty hit hp
      have HE := Lib.hid (HS.symm.trans (okR_end s fuel pos hp))
      have hTr := HTA.out.step hbw
      have cV1 := cV wr hTr
      go_wp2_with (go_at_call 128; (with_reducible refine cV1.mono ?_); rintro e w2 ⟨rfl, hb2⟩)
      go_ret
      exact ⟨ret_bool (by rw [HT.out, HE.out]; simp), below_next hbw hb2⟩
theorem get0 {s : ByteArray} (h : 0 < s.size) : s.get! 0 = s[0] := by
  show s.data[0]! = s.data[0]
  exact getElem!_pos s.data 0 h
def upTo (p : Int → Bool) (s : ByteArray) (k : Nat) : Prop := ∀ i (h : i < s.size), i < k → p (s[i].toNat : Int) = true
theorem upTo_zero (p : Int → Bool) (s : ByteArray) : upTo p s 0 := fun _ _ h => absurd h (Nat.not_lt_zero _)
theorem upTo_succ {p : Int → Bool} {s : ByteArray} {k : Nat} (h : upTo p s k) (hk : k < s.size) (hp : p (s[k].toNat : Int) = true) : upTo p s (k + 1) := by
  intro i hi hik
  by_cases e : i = k
  · subst e; exact hp
  · exact h i hi (by omega)
theorem allB_true {p : Int → Bool} {s : ByteArray} {k : Nat} (h : upTo p s k) (hk : s.size ≤ k) : allB p s = true := by
  unfold allB
  rw [List.all_eq_true]
  intro b hb
  obtain ⟨i, hi, rfl⟩ := List.getElem_of_mem hb
  have hi' : i < s.size := by simpa using hi
  exact h i hi' (by omega)
theorem allB_false {p : Int → Bool} {s : ByteArray} {k : Nat} (hk : k < s.size) (hp : p (s[k].toNat : Int) = false) : allB p s = false := by
  unfold allB
  rw [List.all_eq_false]
  exact ⟨s[k], by show s.data[k] ∈ _; exact Array.mem_toList_iff.mpr (Array.getElem_mem _), by rw [hp]; simp⟩
theorem nameB_of {s : ByteArray} (h1 : 1 ≤ s.size) (h2 : s.size ≤ 16) : nameB s = (isL ((s.get! 0).toNat : Int) && allB isT s) := by unfold nameB; simp [h1, h2]
theorem nameB_not {s : ByteArray} (h : s.size < 1 ∨ 16 < s.size) : nameB s = false := by
  unfold nameB; rcases h with h | h
  · simp [show ¬ 1 ≤ s.size by omega]
  · simp [show ¬ s.size ≤ 16 by omega]
theorem nameB_first {s : ByteArray} (h1 : 0 < s.size) (hb : isL (s[0].toNat : Int) = false) : nameB s = false := by
  unfold nameB; rw [get0 h1, hb]; simp
theorem nameB_later {s : ByteArray} {k : Nat} (hk : k < s.size) (hn : isT (s[k].toNat : Int) = false) : nameB s = false := by
  unfold nameB; rw [allB_false hk hn]; simp
/-- what holds of the loop's counter -/
def NameAt (s : ByteArray) (k : Nat) : Prop := (∀ h : 0 < s.size, 0 < k → isL (s[0].toNat : Int) = true) ∧ upTo isT s k
theorem nameB_all {s : ByteArray} {k : Nat} (h1 : 1 ≤ s.size) (h2 : s.size ≤ 16) (h : NameAt s k) (hk : s.size ≤ k) : nameB s = true := by
  rw [nameB_of h1 h2, get0 (by omega), h.1 (by omega) (by omega), allB_true h.2 hk]; rfl
theorem isL_of {c : Int} (h : 97 ≤ c) (h2 : c ≤ 122) : isL c = true := by unfold isL; simp [h, h2]
theorem isL_not {c : Int} (h : ¬ 97 ≤ c ∨ ¬ c ≤ 122) : isL c = false := by unfold isL; simp; omega
theorem isT_of {c : Int} (h : (97 ≤ c ∧ c ≤ 122) ∨ (48 ≤ c ∧ c ≤ 57) ∨ c = 45) : isT c = true := by unfold isT isL; rcases h with h | h | h <;> simp [h]
theorem isT_not {c : Int} (h : ¬ (97 ≤ c ∧ c ≤ 122)) (h2 : ¬ (48 ≤ c ∧ c ≤ 57)) (h3 : c ≠ 45) : isT c = false := by unfold isT isL; simp; omega
theorem NameAt.next0 {s : ByteArray} (hlt : 0 < s.size) (h : 97 ≤ (s[0].toNat : Int)) (h2 : (s[0].toNat : Int) ≤ 122) : NameAt s (0 + 1) :=
  ⟨fun _ _ => isL_of h h2, upTo_succ (upTo_zero _ _) hlt (isT_of (.inl ⟨h, h2⟩))⟩
theorem NameAt.next {s : ByteArray} {k : Nat} (hlt : k < s.size) (hk : 0 < k) (hn : isT (s[k].toNat : Int) = true) (h : NameAt s k) : NameAt s (k + 1) :=
  ⟨fun h' _ => h.1 h' hk, upTo_succ h.2 hlt hn⟩
theorem nonempty {s : ByteArray} (h : 1 ≤ s.size) : s.toList.isEmpty = false := by
  rw [ByteArray.toList_eq]
  cases e : s.data.toList with
  | nil => have : s.size = 0 := by have := congrArg List.length e; simpa using this
           omega
  | cons _ _ => rfl
theorem isempty {s : ByteArray} (h : ¬ 1 ≤ s.size) : s.toList.isEmpty = true := by
  rw [ByteArray.toList_eq]
  cases e : s.data.toList with
  | nil => rfl
  | cons _ _ => have : s.size ≠ 0 := by have := congrArg List.length e; simp at this; omega
                omega
set_option maxHeartbeats 4000000 in
theorem isName_any (s : ByteArray) (w : World) (hs : s.size ≤ maxLen) :
    Calls Tryz.prog 120 #[.string s] w fun e w' => e = .returned (.bool (nameB s)) ∧ w' = w := by
  unfold maxLen at hs
  go_enter Tryz.func120, Tryz.ntmps120
  go_wp2
  go_loop [8] (fun i => ∃ k : Nat, k ≤ s.size ∧ i = .int .i64 k ∧ NameAt s k) (fun i => s.size - (RowKit.intOf i).toNat)
  case atStart => exact ⟨0, Nat.zero_le _, rfl, fun _ h => absurd h (Nat.lt_irrefl _), upTo_zero _ _⟩
  case round =>
    obtain ⟨k, hk, rfl, hN⟩ := hrel
    have HN := Lib.hid hN; clear hN
    by_cases hlt : k < s.size
    · by_cases hk0 : k = 0
      · subst hk0
        have HX := Lib.hid (fun h => NameAt.next0 (s := s) hlt h)
        have HY := Lib.hid (fun h => nameB_first hlt (isL_not h))
        generalize hc : (s[0].toNat : Int) = c at HX HY
        by_cases h1 : 97 ≤ c <;> by_cases h2 : c ≤ 122 <;> by_cases h3 : 48 ≤ c <;> by_cases h4 : c ≤ 57 <;> by_cases h5 : c = 45
        all_goals
          first
          | (exfalso; omega)
          | (go_wp2
             first
             | (go_ret
                exact ⟨ret_bool (HY.out (by omega)).symm, rfl⟩)
             | (go_round
                case rel => exact ⟨0 + 1, by omega, by go_num, HX.out h1 h2⟩
                case measure => simp [RowKit.intOf]; omega))
      · have hk1 : 0 < k := by omega
        have hkz : ((k : Int) == 0) = false := by simp; omega
        have HX := Lib.hid (fun h => NameAt.next (s := s) hlt hk1 h HN.out)
        have HY := Lib.hid (fun h => nameB_later (s := s) hlt h)
        generalize hc : (s[k].toNat : Int) = c at HX HY
        by_cases h1 : 97 ≤ c <;> by_cases h2 : c ≤ 122 <;> by_cases h3 : 48 ≤ c <;> by_cases h4 : c ≤ 57 <;> by_cases h5 : c = 45
        all_goals
          first
          | (exfalso; omega)
          | (try (have h45 : (c == 45) = false := by (simp; omega))
             go_wp2
             first
             | (go_ret
                exact ⟨ret_bool (HY.out (isT_not (by omega) (by omega) (by omega))).symm, rfl⟩)
             | (go_round
                case rel => exact ⟨k + 1, by omega, by go_num, HX.out (isT_of (by omega))⟩
                case measure => simp [RowKit.intOf]; omega))
    · by_cases h1 : 1 ≤ s.size
      · have hE := nonempty h1
        by_cases h16 : s.size ≤ 16
        · have HZ := Lib.hid (nameB_all h1 h16 HN.out (by omega))
          go_wp2
          go_ret
          exact ⟨ret_bool (by rw [HZ.out] <;> (simp <;> omega)), rfl⟩
        · have HZ := Lib.hid (nameB_not (s := s) (by omega))
          go_wp2
          go_ret
          exact ⟨ret_bool (by rw [HZ.out] <;> (simp <;> omega)), rfl⟩
      · have hE := isempty h1
        have HZ := Lib.hid (nameB_not (s := s) (by omega))
        go_wp2
        go_ret
        exact ⟨ret_bool (by rw [HZ.out] <;> (simp <;> omega)), rfl⟩
set_option maxHeartbeats 4000000 in
theorem checkPiece_any (x : Pc) (w : World) (hs : x.s.size ≤ maxLen) (hT : Tabs w) :
    Calls Tryz.prog 80 #[pcV x] w fun e w' => e = .returned (.int .u8 (pieceE x)) ∧ Below w.heap.size w w' := by
  have ag := Tryz.isAgg52
  have zg := Tryz.sizeOf52
  have cT := fun wr (h : Tabs wr) => isText_any x.s wr hs h
  have cN := fun wr => isName_any x.s wr hs
  have HP := Lib.hid (show pieceE x = if x.k < 1 ∨ 5 < x.k then 1
    else if x.c = true ∧ x.k ≠ 2 ∧ x.k ≠ 3 then 1
    else if x.k = 1 then (if x.s.size = 0 ∨ textB x.s = false then 4 else 0)
    else if nameB x.s = true then 0 else 5 from rfl)
  have HTA := Lib.hid (hT.step (below_box (pcC x)))
  have hb0 := Lib.hid (below_box (w := w) (pcC x))
  clear hT
  obtain ⟨k, s, c⟩ := x
  generalize pieceE ⟨k, s, c⟩ = E at HP ⊢
  unfold pcV
  unfold pcC at HTA hb0
  simp only at cT cN HP HTA hb0 hs ⊢
  generalize textB s = T at cT HP
  generalize nameB s = N at cN HP
  by_cases h1 : k = 1
  · subst h1
    by_cases h0 : 1 ≤ s.size
    · have hE := nonempty h0
      have cT1 := cT _ HTA.out
      cases c <;> cases T
      all_goals
        go_enter Tryz.func80, Tryz.ntmps80
        go_wp2_with (go_at_call 93; (with_reducible refine cT1.mono ?_); rintro e w2 ⟨rfl, hb2⟩)
        go_ret
        exact ⟨ret_u8 (by rw [HP.out]; simp [show ¬ s.size = 0 by omega]), by first | exact hb0.out | exact below_next hb0.out hb2⟩
    · have hE := isempty h0
      have hz : s.size = 0 := by omega
      cases c
      all_goals
        go_enter Tryz.func80, Tryz.ntmps80
        go_wp2
        go_ret
        exact ⟨ret_u8 (by rw [HP.out]; simp [hz]), hb0.out⟩
  · by_cases h2 : k = 2 <;> by_cases h3 : k = 3 <;> by_cases h4 : k = 4 <;> by_cases h5 : k = 5
    all_goals first
      | (exfalso; omega)
      | (try subst h2
         try subst h3
         try subst h4
         try subst h5
         cases c <;> cases N
         all_goals
           go_enter Tryz.func80, Tryz.ntmps80
           go_wp2_with (go_at_call 120; (with_reducible refine (cN _).mono ?_); rintro e w2 ⟨rfl, rfl⟩)
           go_ret
           exact ⟨ret_u8 (by rw [HP.out]; simp; try omega), hb0.out⟩)
end Go.Proofs.YtnkpjkomokkhcaaGreatDoor
namespace Go.Proofs.YtnkpjkomokkhcaaGreatDoor
open Go Go.RowKit
set_option maxRecDepth 100000
theorem ownsRow_step {w w' : World} {B : Nat} {e : TypeId} {z n : Nat} {v : Value} {xs : List Value} (hb : Below w.heap.size w w') (h : w.ownsRow B e z v n xs) : w'.ownsRow B e z v n xs :=
  h.kept (row := none) ⟨hb.os, hb.tape, hb.output, hb.size, fun k hk _ => hb.block k hk⟩ (by cases v.ownBlock <;> simp)
theorem bytes_ext {x y : ByteArray} (h : x.toList = y.toList) : x = y := by
  rw [ByteArray.toList_eq, ByteArray.toList_eq] at h
  obtain ⟨⟨x⟩⟩ := x
  obtain ⟨⟨y⟩⟩ := y
  simp at h
  rw [h]
theorem ownsRow_drew {w : World} {B : Nat} {e : TypeId} {z n : Nat} {v : Value} {xs : List Value} (k : Nat) (h : w.ownsRow B e z v n xs) : (w.drewN k).ownsRow B e z v n xs := h
/-- a stack of names stands in a block of its own -/
def StackAt (B b : Nat) (op : List ByteArray) (w : World) : Prop := B ≤ b ∧ ∃ v, w.heap[b]? = some (.cells #[v] 67 (0, 0)) ∧ w.ownsRow B 9 1 v op.length (op.map Value.string) ∧ v.ownBlock ≠ some b
theorem StackAt.step {B b : Nat} {op : List ByteArray} {w w' : World} (hb : Below w.heap.size w w') (h : StackAt B b op w) : StackAt B b op w' := by
  obtain ⟨h0, v, h1, h2, h3⟩ := h
  exact ⟨h0, v, by rw [hb.block b (lt_of_block h1)]; exact h1, ownsRow_step hb h2, h3⟩
theorem StackAt.new (w : World) : StackAt w.heap.size w.heap.size [] (w.alloc (.cells #[.slice none 0 0] 67)) :=
  ⟨Nat.le_refl _, .slice none 0 0, (by show (w.heap.push _)[_]? = _; simp), World.ownsRow_nil _ _ _ _, by simp [Value.ownBlock]⟩
theorem StackAt.put {B b : Nat} {v v' : Value} {op : List ByteArray} {w : World} (hB : B ≤ b) (hb : w.heap[b]? = some (.cells #[v] 67 (0, 0))) (hown : w.ownsRow B 9 1 v' op.length (op.map Value.string)) (hne : v'.ownBlock ≠ some b) :
    StackAt B b op (w.setCell ⟨b, 0, none⟩ v') := by
  refine ⟨hB, v', ?_, ?_, hne⟩
  · simp [World.setCell, Array.getElem?_modify, hb]
  · exact hown.kept (row := some b) ⟨rfl, rfl, rfl, by simp [World.setCell], fun k _ hk => Below.heap_setCell _ _ _ _ (fun e => hk (by simp [e]))⟩ (Or.inr hne)
theorem add_at (g k : Nat) : (⟨g, 0, none⟩ : Addr).add k = ⟨g, k, none⟩ := by
  unfold Addr.add
  by_cases h : k = 0
  · subst h; simp
  · simp [h]
theorem StackAt.lt {B b : Nat} {op : List ByteArray} {w : World} (h : StackAt B b op w) : b < w.heap.size := by obtain ⟨_, v, hb, _⟩ := h; exact lt_of_block hb
theorem StackAt.cell {B b : Nat} {op : List ByteArray} {w : World} (h : StackAt B b op w) : ∃ ao cap, w.cell? ⟨b, 0, none⟩ = some (.slice ao op.length cap) := by
  obtain ⟨_, v, hb, hown, _⟩ := h
  rcases hown.2 with ⟨rfl, h0⟩ | ⟨g, cap, cur, rfl, _⟩
  · exact ⟨none, 0, by rw [Lib.cell_of_heap hb, h0]; rfl⟩
  · exact ⟨_, _, by rw [Lib.cell_of_heap hb]; rfl⟩
theorem info_str : (Tryz.prog.info? 9).map (fun i => (i.zero, i.size, i.bytes)) = some (some (.string ⟨#[]⟩), 1, 16) := by kernel_rfl
theorem ownBlock_other {w : World} {B : Nat} {v u : Value} {n b : Nat} {xs : List Value} (hown : w.ownsRow B 9 1 v n xs) (hb : w.heap[b]? = some (.cells #[u] 67 (0, 0))) : v.ownBlock ≠ some b := by
  rcases hown.2 with ⟨rfl, _⟩ | ⟨g, cap, cur, rfl, _, hg, _⟩
  · simp [Value.ownBlock]
  · intro e
    simp only [Value.ownBlock, Option.some.injEq] at e
    subst e
    rw [hg] at hb
    cases hb
set_option maxHeartbeats 2000000 in
theorem push_any (B b : Nat) (op : List ByteArray) (s : ByteArray) (w : World) (h : StackAt B b op w) (hlen : op.length ≤ 1000) (hBw : B ≤ w.heap.size) :
    Calls Tryz.prog 77 #[.pointer (some ⟨b, 0, none⟩), .string s] w fun e w' => e = .returned (.tuple #[]) ∧ StackAt B b (op ++ [s]) w' ∧ Below B w w' ∧ w.heap.size ≤ w'.heap.size := by
  obtain ⟨i0, hi, hz0, hz1, hz2⟩ := info_parts info_str
  obtain ⟨hB, v, hbk, hown, hne⟩ := h
  have c0 : w.cell? ⟨b, 0, none⟩ = some v := by rw [Lib.cell_of_heap hbk]; rfl
  have hlt := lt_of_block hbk
  go_enter Tryz.func77, Tryz.ntmps77
  go_wp2_with (at_builtin; refine wpList_append_own _ rfl _ _ 67 rfl B 9 i0 (.string ⟨#[]⟩) 1 16 Tryz.underlying67 hi hz0 hz1 hz2 rfl (by decide) _ _ _ rfl (hown.alloc _) ⟨w.heap.size, 0, none⟩ 1 1 [.string s] rfl rfl ?c1 ?c2 ?c3 ?c4 ?c5 ?_)
  case c1 =>
    intro j u hj
    match j, hj with
    | 0, hj => simp at hj; subst hj; simp [Addr.add]
  case c2 => intro u hu; simp at hu; subst hu; rfl
  case c3 => unfold maxLen; omega
  case c4 => omega
  case c5 => simp; omega
  intro v' w2 hown' hgrow _
  have hb2 : w2.heap[b]? = some (.cells #[v] 67 (0, 0)) := by
    rw [hgrow.block b (by simp; omega) (fun e => hne e.symm), Below.heap_alloc _ _ _ hlt]
    exact hbk
  have hsz : w.heap.size ≤ w2.heap.size := by have := hgrow.size; simp at this; omega
  have d0 : w2.cell? ⟨b, 0, none⟩ = some v := by rw [Lib.cell_of_heap hb2]; rfl
  have f1 : w2.frozen? ⟨b, 0, none⟩ = false := Lib.frozen_of_heap hb2 0
  have hne' := ownBlock_other hown' hb2
  have HW := Lib.hid (StackAt.put (op := op ++ [s]) hB hb2 (by simpa using hown') hne')
  have HB := Lib.hid ((((Below.refl B w).alloc hBw (.cells #[.string s] 9)).grown hgrow (by simp; omega) (fun k hk => (hown.lt k hk).1)).setCell (p := ⟨b, 0, none⟩) hB v')
  obtain ⟨ao, n', cap, rfl⟩ : ∃ ao n' cap, v' = .slice ao n' cap := by
    rcases hown'.2 with ⟨hv, _⟩ | ⟨g, cap, cur, hv, _⟩
    · exact ⟨_, _, _, hv⟩
    · exact ⟨_, _, _, hv⟩
  clear hown' hgrow
  go_wp2
  go_end0
  exact ⟨rfl, HW.out, HB.out, by simpa [World.setCell] using hsz⟩
set_option maxHeartbeats 2000000 in
theorem top_any (B b : Nat) (op : List ByteArray) (w : World) (h : StackAt B b op w) :
    Calls Tryz.prog 119 #[.pointer (some ⟨b, 0, none⟩)] w fun e w' => e = .returned (.tuple #[.string (op.getLast?.getD ⟨#[]⟩), .bool (decide (0 < op.length))]) ∧ ∃ n, w' = w.drewN n := by
  obtain ⟨hB, v, hbk, hown, hne⟩ := h
  have c0 : w.cell? ⟨b, 0, none⟩ = some v := by rw [Lib.cell_of_heap hbk]; rfl
  rcases List.eq_nil_or_concat op with rfl | ⟨l, x, rfl⟩
  · obtain ⟨ao, cap, rfl⟩ : ∃ ao cap, v = .slice ao 0 cap := by
      rcases hown.2 with ⟨hv, h0⟩ | ⟨g, cap, cur, hv, _⟩
      · exact ⟨none, 0, hv⟩
      · exact ⟨_, _, hv⟩
    go_enter Tryz.func119, Tryz.ntmps119
    go_wp2
    go_ret2
    exact ⟨rfl, 0, rfl⟩
  · rcases hown.2 with ⟨_, hn0⟩ | ⟨g, cap, cur, rfl, _, _, hncap, hcapm, _, _⟩
    · simp at hn0
    have ct0 : w.cell? ⟨g, l.length, none⟩ = some (.string x) := by rw [← add_at]; exact hown.cells (g := g) rfl l.length (.string x) (by simp)
    simp only [List.concat_eq_append, List.length_append, List.length_cons, List.length_nil, Nat.zero_add] at *
    unfold maxLen at hcapm
    have hg0 : (((l.length : Int) + 1) == 0) = false := by simp; omega
    have hwr : IntKind.i64.wrap (l.length : Int) = (l.length : Int) := by rw [IntKind.wrap_i64]; omega
    have c9 : Tryz.prog.cellsOf 9 = 1 := by kernel_rfl
    have hix1 : (l.length : Int) < (l.length : Int) + 1 := by omega
    have hix2 : (l.length : Int) < ((l.length + 1 : Nat) : Int) := by omega
    have hix3 : l.length < l.length + 1 := by omega
    have hix0 : (0 : Int) ≤ (l.length : Int) := by omega
    clear hown
    go_enter Tryz.func119, Tryz.ntmps119
    go_wp2
    go_quiet (fail)
    go_wp2
    go_ret2
    exact ⟨by simp, _, rfl⟩
theorem pop_row {w : World} {B g cap : Nat} {l : List ByteArray} {x : ByteArray} (h : w.ownsRow B 9 1 (.slice (some ⟨g, 0, none⟩) (l.length + 1) cap) (l.length + 1) ((l ++ [x]).map Value.string)) :
    w.ownsRow B 9 1 (.slice (some ⟨g, 0, none⟩) l.length cap) l.length (l.map Value.string) :=
  ownsRow_pop (xs := l.map Value.string) (last := [.string x]) (by simp) (by simpa using h)
set_option maxHeartbeats 2000000 in
theorem pop_any (B b : Nat) (op : List ByteArray) (w : World) (h : StackAt B b op w) :
    Calls Tryz.prog 78 #[.pointer (some ⟨b, 0, none⟩)] w fun e w' => e = .returned (.tuple #[.string (op.getLast?.getD ⟨#[]⟩), .bool (decide (0 < op.length))]) ∧ StackAt B b op.dropLast w' ∧ Below B w w' ∧ w.heap.size ≤ w'.heap.size ∧ ∀ k, k ≠ b → w'.heap[k]? = w.heap[k]? := by
  have cT := top_any B b op w h
  have h0 := h
  obtain ⟨hB, v, hbk, hown, hne⟩ := h
  rcases List.eq_nil_or_concat op with rfl | ⟨l, x, rfl⟩
  · have H0 := Lib.hid h0
    clear hown
    simp only [List.getLast?_nil, Option.getD_none, List.length_nil, Nat.lt_irrefl, decide_false] at cT
    go_enter Tryz.func78, Tryz.ntmps78
    go_wp2_with (go_at_call 119; (with_reducible refine cT.mono ?_); rintro e w2 ⟨rfl, n, rfl⟩)
    go_ret2
    exact ⟨by simp, H0.out, ⟨rfl, rfl, rfl, Nat.le_refl _, fun _ _ => rfl⟩, Nat.le_refl _, fun _ _ => rfl⟩
  · rcases hown.2 with ⟨_, hn0⟩ | ⟨g, cap, cur, rfl, _, _, hncap, hcapm, _, _⟩
    · simp at hn0
    simp only [List.concat_eq_append, List.length_append, List.length_cons, List.length_nil, Nat.zero_add] at *
    have hp := pop_row hown
    have HP := Lib.hid (fun n => StackAt.put (w := w.drewN n) (v := .slice (some ⟨g, 0, none⟩) (l.length + 1) cap) hB hbk (ownsRow_drew n hp) hne)
    have HB := Lib.hid (fun n => Below.setCell (B := B) (a := w) (w := w.drewN n) ⟨rfl, rfl, rfl, Nat.le_refl _, fun _ _ => rfl⟩ (p := ⟨b, 0, none⟩) hB (.slice (some ⟨g, 0, none⟩) l.length cap))
    clear hown hp
    simp only [List.getLast?_append, List.getLast?_singleton, Option.some_or, Option.getD_some, Nat.zero_lt_succ, decide_true] at cT
    have c0 : w.cell? ⟨b, 0, none⟩ = some (.slice (some ⟨g, 0, none⟩) (l.length + 1) cap) := by rw [Lib.cell_of_heap hbk]; rfl
    have f0 : w.frozen? ⟨b, 0, none⟩ = false := Lib.frozen_of_heap hbk 0
    unfold maxLen at hcapm
    have hwr : IntKind.i64.wrap (l.length : Int) = (l.length : Int) := by rw [IntKind.wrap_i64]; omega
    have hix2 : (l.length : Int) < ((l.length + 1 : Nat) : Int) := by omega
    have hix0 : (0 : Int) ≤ (l.length : Int) := by omega
    have hix4 : (l.length : Int) ≤ (cap : Int) := by omega
    go_enter Tryz.func78, Tryz.ntmps78
    go_wp2_with (go_at_call 119; (with_reducible refine cT.mono ?_); rintro e w2 ⟨rfl, n, rfl⟩)
    go_region
    go_wp2
    go_ret2
    exact ⟨by simp, by simpa using HP.out _, HB.out _, by simp [World.setCell], fun k hk => Below.heap_setCell _ _ _ _ hk⟩
/-- what follow does -/
def followed (B b : Nat) (op : List ByteArray) (x : Pc) (e : Ending) (w' : World) : Prop :=
  ∃ z : Int, e = .returned (.int .u8 z) ∧ ((folE op x = .error z ∧ z ≠ 0) ∨ (z = 0 ∧ ∃ op', folE op x = .ok op' ∧ StackAt B b op' w'))
set_option maxHeartbeats 4000000 in
theorem follow_any (B b : Nat) (op : List ByteArray) (x : Pc) (w : World) (h : StackAt B b op w) (hlen : op.length ≤ 1000) (hBw : B ≤ w.heap.size) :
    Calls Tryz.prog 39 #[.pointer (some ⟨b, 0, none⟩), pcV x] w fun e w' => followed B b op x e w' ∧ Below B w w' ∧ w.heap.size ≤ w'.heap.size := by
  have ag := Tryz.isAgg52
  have zg := Tryz.sizeOf52
  have HF := Lib.hid (show folE op x = if x.k = 2 then (if op.length + 1 > 16 then .error 3 else .ok (op ++ [x.s]))
    else if x.k = 3 then (if op.getLast? = some x.s then .ok op.dropLast else .error 9) else .ok op from rfl)
  obtain ⟨k, s, c⟩ := x
  have hbx := below_box (w := w) (pcC ⟨k, s, c⟩)
  have h1 := h.step hbx
  have hB1 : B ≤ (w.alloc (pcC ⟨k, s, c⟩)).heap.size := Nat.le_trans hBw hbx.size
  have hbb := hbx.mono hBw
  have hX := Boxed.new w ⟨k, s, c⟩
  unfold pcV
  have cU := push_any B b op s _ h1 hlen hB1
  have cO := pop_any B b op _ h1
  unfold pcC at cU cO hX hbb hbx
  unfold followed
  simp only at cU cO hX hbx hbb HF ⊢
  have HB := Lib.hid hbb
  have HX := Lib.hid hbx.size
  have hbl : b < w.heap.size := by obtain ⟨_, v, hb, _⟩ := h; exact lt_of_block hb
  by_cases h2 : k = 2
  · subst h2
    clear cO
    by_cases h16 : op.length + 1 > 16
    · have hI : (16 : Int) < (op.length : Int) + 1 := by omega
      go_enter Tryz.func39, Tryz.ntmps39
      go_wp2_with (go_at_call 77; (with_reducible refine cU.mono ?_); rintro e w2 ⟨rfl, hs2, hb2, hz2⟩; obtain ⟨ao, cap, c0⟩ := hs2.cell; simp only [List.length_append, List.length_cons, List.length_nil, Nat.zero_add] at c0; have HS2 := Lib.hid hs2)
      go_ret
      exact ⟨⟨3, rfl, .inl ⟨by rw [HF.out]; simp <;> omega, by decide⟩⟩, HB.out.trans hb2, Nat.le_trans HX.out hz2⟩
    · have hI : ¬ (16 : Int) < (op.length : Int) + 1 := by omega
      go_enter Tryz.func39, Tryz.ntmps39
      go_wp2_with (go_at_call 77; (with_reducible refine cU.mono ?_); rintro e w2 ⟨rfl, hs2, hb2, hz2⟩; obtain ⟨ao, cap, c0⟩ := hs2.cell; simp only [List.length_append, List.length_cons, List.length_nil, Nat.zero_add] at c0; have HS2 := Lib.hid hs2)
      go_ret
      exact ⟨⟨0, rfl, .inr ⟨rfl, _, by rw [HF.out]; simp <;> omega, HS2.out⟩⟩, HB.out.trans hb2, Nat.le_trans HX.out hz2⟩
  · by_cases h3 : k = 3
    · subst h3
      clear cU
      obtain ⟨x0, x1, x2, x3⟩ := hX
      have hne : w.heap.size ≠ b := by omega
      rcases List.eq_nil_or_concat op with rfl | ⟨l, y, rfl⟩
      · simp only [List.getLast?_nil, Option.getD_none, List.length_nil, Nat.lt_irrefl, decide_false] at cO
        go_enter Tryz.func39, Tryz.ntmps39
        go_wp2_with (go_at_call 78; (with_reducible refine cO.mono ?_); rintro e w2 ⟨rfl, hs2, hb2, hz2, hk2⟩; have HS2 := Lib.hid hs2)
        go_ret
        exact ⟨⟨9, rfl, .inl ⟨by rw [HF.out]; simp, by decide⟩⟩, HB.out.trans hb2, Nat.le_trans HX.out hz2⟩
      · simp only [List.concat_eq_append, List.length_append, List.length_cons, List.length_nil, Nat.zero_add, List.getLast?_append, List.getLast?_singleton, Option.some_or, Option.getD_some, Nat.zero_lt_succ, decide_true, List.dropLast_concat] at *
        by_cases hq : y.toList = s.toList
        · have hy := Lib.hid (bytes_ext hq)
          go_enter Tryz.func39, Tryz.ntmps39
          go_wp2_with (go_at_call 78; (with_reducible refine cO.mono ?_); rintro e w2 ⟨rfl, hs2, hb2, hz2, hk2⟩; have HS2 := Lib.hid hs2; have y1 := (World.cell?_of_block (a := ⟨w.heap.size, 1, none⟩) (hk2 w.heap.size hne)).trans x1; have HB2 := Lib.hid hb2; have HZ2 := Lib.hid hz2; clear hk2)
          go_ret
          exact ⟨⟨0, rfl, .inr ⟨rfl, _, by rw [HF.out, hy.out]; simp, HS2.out⟩⟩, HB.out.trans HB2.out, Nat.le_trans HX.out HZ2.out⟩
        · have hy := Lib.hid (fun h : y = s => hq (by rw [h]))
          have hqb : (y.toList == s.toList) = false := by simp [hq]
          go_enter Tryz.func39, Tryz.ntmps39
          go_wp2_with (go_at_call 78; (with_reducible refine cO.mono ?_); rintro e w2 ⟨rfl, hs2, hb2, hz2, hk2⟩; have HS2 := Lib.hid hs2; have y1 := (World.cell?_of_block (a := ⟨w.heap.size, 1, none⟩) (hk2 w.heap.size hne)).trans x1; have HB2 := Lib.hid hb2; have HZ2 := Lib.hid hz2; clear hk2)
          go_ret
          exact ⟨⟨9, rfl, .inl ⟨by rw [HF.out]; simp; exact hy.out, by decide⟩⟩, HB.out.trans HB2.out, Nat.le_trans HX.out HZ2.out⟩
    · clear cU cO
      have H1 := Lib.hid h1
      go_enter Tryz.func39, Tryz.ntmps39
      go_wp2
      go_ret
      exact ⟨⟨0, rfl, .inr ⟨rfl, _, by rw [HF.out]; simp [h2, h3], H1.out⟩⟩, HB.out, HX.out⟩
end Go.Proofs.YtnkpjkomokkhcaaGreatDoor
namespace Go.Proofs.YtnkpjkomokkhcaaGreatDoor
open Go Go.RowKit
set_option maxRecDepth 100000
theorem add_block (A : Addr) (k : Nat) : (A.add k).block = A.block := by unfold Addr.add; split <;> rfl
theorem cell_off {w : World} {a : Addr} {n d : Nat} {v : Value} (hd : 0 < d) (h : w.cell? (a.add (n + d)) = some v) : w.cell? { block := (a.add n).block, off := (a.add n).off + d } = some v := by
  have e : ({ block := (a.add n).block, off := (a.add n).off + d } : Addr) = a.add (n + d) := by
    unfold Addr.add
    by_cases h0 : n = 0
    · subst h0; simp; omega
    · simp [h0]; omega
  rw [e]; exact h
def SliceAt (B : Nat) (w : World) (v : Value) (n sz : Nat) (f : Nat → Nat → Value) : Prop :=
  ∃ (p : Option Addr) (cap : Nat), v = .slice p n cap ∧ n ≤ cap ∧ cap ≤ maxLen ∧
    (0 < n → ∃ A, p = some A ∧ A.block < B ∧ ∀ i j, i < n → j < sz → w.cell? (A.add (i * sz + j)) = some (f i j))
theorem SliceAt.below {B : Nat} {w w' : World} {v : Value} {n sz : Nat} {f : Nat → Nat → Value} (hb : Below B w w') (h : SliceAt B w v n sz f) : SliceAt B w' v n sz f := by
  obtain ⟨p, cap, e, h1, h2, h3⟩ := h
  refine ⟨p, cap, e, h1, h2, fun hn => ?_⟩
  obtain ⟨A, e, hA, hc⟩ := h3 hn
  exact ⟨A, e, hA, fun i j hi hj => by rw [hb.cell (by rw [add_block]; exact hA)]; exact hc i j hi hj⟩
theorem SliceAt.mono {B B' : Nat} {w : World} {v : Value} {n sz : Nat} {f : Nat → Nat → Value} (hB : B ≤ B') (h : SliceAt B w v n sz f) : SliceAt B' w v n sz f := by
  obtain ⟨p, cap, e, h1, h2, h3⟩ := h
  refine ⟨p, cap, e, h1, h2, fun hn => ?_⟩
  obtain ⟨A, e, hA, hc⟩ := h3 hn
  exact ⟨A, e, by omega, hc⟩
def pcF (l : List Pc) (i j : Nat) : Value := if j = 0 then .int .u8 (l.getD i nil).k else if j = 1 then .string (l.getD i nil).s else .bool (l.getD i nil).c
/-- a list of pieces lies in memory -/
def PcsAt (w : World) (v : Value) (l : List Pc) : Prop := SliceAt w.heap.size w v l.length 3 (pcF l)
theorem PcsAt.step {w w' : World} {v : Value} {l : List Pc} (hb : Below w.heap.size w w') (h : PcsAt w v l) : PcsAt w' v l := (SliceAt.below hb h).mono hb.size
theorem run_here {l : List Pc} {k : Nat} {op : List ByteArray} (h : runC l k = .ok op) (he : hereE l k ≠ 0) : runC l (k + 1) = .error (hereE l k) := by
  simp only [runC, h]
  rw [if_pos he]
theorem run_fine {l : List Pc} {k : Nat} {op : List ByteArray} (h : runC l k = .ok op) (he : hereE l k = 0) : runC l (k + 1) = folE op (l.getD k nil) := by
  simp only [runC, h]
  rw [if_neg (by rw [he]; simp)]
theorem here_piece {l : List Pc} {k : Nat} (he : pieceE (l.getD k nil) ≠ 0) : hereE l k = pieceE (l.getD k nil) := by
  unfold hereE; rw [if_pos he]
theorem here_first {l : List Pc} (he : pieceE (l.getD 0 nil) = 0) : hereE l 0 = 0 := by
  unfold hereE; rw [if_neg (by rw [he]; simp), if_pos rfl]
theorem here_nbr {l : List Pc} {k : Nat} (h0 : pieceE (l.getD k nil) = 0) (hk : k ≠ 0) : hereE l k = nbrE (l.getD (k - 1) nil) (l.getD k nil) := by
  unfold hereE; rw [if_neg (by rw [h0]; simp), if_neg hk]
theorem run_piece {l : List Pc} {k : Nat} {op : List ByteArray} (h : runC l k = .ok op) (he : pieceE (l.getD k nil) ≠ 0) : runC l (k + 1) = .error (pieceE (l.getD k nil)) := by
  have e := here_piece he
  rw [run_here h (by rw [e]; exact he), e]
theorem run_nbr {l : List Pc} {k : Nat} {op : List ByteArray} (h : runC l k = .ok op) (h0 : pieceE (l.getD k nil) = 0) (hk : k ≠ 0) (he : nbrE (l.getD (k - 1) nil) (l.getD k nil) ≠ 0) : runC l (k + 1) = .error (nbrE (l.getD (k - 1) nil) (l.getD k nil)) := by
  have e := here_nbr h0 hk
  rw [run_here h (by rw [e]; exact he), e]
theorem run_fol {l : List Pc} {k : Nat} {op : List ByteArray} (h : runC l k = .ok op) (h0 : pieceE (l.getD k nil) = 0) (hk : k = 0 ∨ nbrE (l.getD (k - 1) nil) (l.getD k nil) = 0) : runC l (k + 1) = folE op (l.getD k nil) := by
  refine run_fine h ?_
  rcases Nat.eq_zero_or_pos k with rfl | hp
  · exact here_first h0
  · rcases hk with hk | hk
    · omega
    · rw [here_nbr h0 (by omega), hk]
theorem folE_len {op op' : List ByteArray} {x : Pc} (h : folE op x = .ok op') : op'.length ≤ op.length + 1 := by
  unfold folE at h
  split at h
  · split at h
    · cases h
    · cases h; simp
  · split at h
    · split at h
      · cases h; simp; omega
      · cases h
    · cases h; omega
theorem runC_len {l : List Pc} : ∀ {k : Nat} {op : List ByteArray}, runC l k = .ok op → op.length ≤ k := by
  intro k
  induction k with
  | zero => intro op h; cases h; simp
  | succ k ih =>
    intro op h
    simp only [runC] at h
    cases e : runC l k with
    | error x => rw [e] at h; cases h
    | ok o =>
      rw [e] at h
      have := ih e
      have h' : (if hereE l k ≠ 0 then Except.error (hereE l k) else folE o (l.getD k nil)) = Except.ok op := h
      split at h'
      · cases h'
      · have := folE_len h'; omega
theorem getD_mem {l : List Pc} {k : Nat} (hk : k < l.length) : l.getD k nil ∈ l := by
  rw [List.getD_eq_getElem?_getD, List.getElem?_eq_getElem hk]; exact List.getElem_mem hk
def FolZ (r : Except Int (List ByteArray)) (B b : Nat) (z : Int) (w : World) : Prop := match r with
  | .error z0 => z = z0 ∧ (z == 0) = false
  | .ok op => z = 0 ∧ StackAt B b op w
theorem folZ {B b : Nat} {op : List ByteArray} {x : Pc} {z : Int} {w : World} (h : (folE op x = .error z ∧ z ≠ 0) ∨ (z = 0 ∧ ∃ op', folE op x = .ok op' ∧ StackAt B b op' w)) : FolZ (folE op x) B b z w := by
  rcases h with ⟨h, h0⟩ | ⟨rfl, op', h, hs⟩
  · rw [h]; exact ⟨rfl, by simpa using h0⟩
  · rw [h]; exact ⟨rfl, hs⟩
set_option maxHeartbeats 8000000 in
theorem checkPieces_any (l : List Pc) (v : Value) (w : World) (hv : PcsAt w v l) (hs : ∀ x ∈ l, x.s.size ≤ maxLen) (hT : Tabs w) :
    Calls Tryz.prog 44 #[v] w fun e w' => e = .returned (.int .u8 (checkE l)) ∧ Below w.heap.size w w' := by
  obtain ⟨p, cap, rfl, hl, hc, hrow⟩ := hv
  unfold maxLen at hc
  have ag := Tryz.isAgg52
  have zg := Tryz.sizeOf52
  by_cases h512 : 512 < l.length
  · have HE := Lib.hid (checkE_limit h512)
    have hI : (512 : Int) < (l.length : Int) := by omega
    clear hrow
    go_enter Tryz.func44, Tryz.ntmps44
    go_wp2
    go_ret
    exact ⟨ret_u8 HE.out.symm, Below.refl _ _⟩
  have hI : ¬ (512 : Int) < (l.length : Int) := by omega
  have HR := Lib.hid hrow
  have HS := Lib.hid hs
  have HT := Lib.hid hT
  clear hrow hs hT
  go_enter Tryz.func44, Tryz.ntmps44
  go_wp2
  go_loopw [14] (fun i wr => ∃ (k : Nat) (op : List ByteArray), k ≤ l.length ∧ i = .int .i64 k ∧ Hid (runC l k = .ok op) ∧ Hid (StackAt w.heap.size w.heap.size op wr) ∧ Hid (Below w.heap.size w wr) ∧ w.heap.size < wr.heap.size) (fun i _ => l.length - (intOf i).toNat)
  case atStart => exact ⟨0, [], Nat.zero_le _, rfl, rfl, StackAt.new w, below_box _, by simp⟩
  case round =>
    obtain ⟨k, op, hk, rfl, HQ, HK, HB, hsz⟩ := hrel
    by_cases hlt : k < l.length
    · obtain ⟨A, rfl, hA, hcell⟩ := HR.out (by omega)
      have hAb : (A.add (k * 3)).block < w.heap.size := by rw [add_block]; exact hA
      have x0 : wr.cell? (A.add (k * 3)) = some (.int .u8 (l.getD k nil).k) := by
        rw [HB.out.cell hAb]; have := hcell k 0 hlt (by omega); simpa [pcF] using this
      have x1 : wr.cell? { block := (A.add (k * 3)).block, off := (A.add (k * 3)).off + 1 } = some (.string (l.getD k nil).s) := by
        rw [HB.out.cell (p := { block := (A.add (k * 3)).block, off := (A.add (k * 3)).off + 1 }) hAb]; have := cell_off (by omega) (hcell k 1 hlt (by omega)); simpa [pcF] using this
      have x2 : wr.cell? { block := (A.add (k * 3)).block, off := (A.add (k * 3)).off + 2 } = some (.bool (l.getD k nil).c) := by
        rw [HB.out.cell (p := { block := (A.add (k * 3)).block, off := (A.add (k * 3)).off + 2 }) hAb]; have := cell_off (by omega) (hcell k 2 hlt (by omega)); simpa [pcF] using this
      have cP := checkPiece_any (l.getD k nil) (wr.alloc (pcC (l.getD k nil))) (HS.out _ (getD_mem hlt)) (HT.out.step (below_next HB.out (below_box _)))
      have HP0 := Lib.hid (fun (he : pieceE (l.getD k nil) ≠ 0) => run_piece HQ.out he)
      have HP1 := Lib.hid (fun (h0 : pieceE (l.getD k nil) = 0) (hk : k ≠ 0) => run_nbr HQ.out h0 hk)
      have HP2 := Lib.hid (fun (h0 : pieceE (l.getD k nil) = 0) => run_fol HQ.out h0)
      have hX0 := Boxed.new wr (l.getD k nil)
      have hcellp := fun (h : 0 < k) => hcell (k - 1)
      generalize l.getD k nil = x at x0 x1 x2 cP HP0 HP1 HP2 hX0
      have HX0 := Lib.hid hX0; clear hX0
      have HBX := Lib.hid (below_next HB.out (below_box (w := wr) (pcC x)))
      have HKX := Lib.hid (HK.out.step (below_box (w := wr) (pcC x)))
      unfold pcV pcC at cP
      unfold pcC at HBX HX0 HKX
      clear hcell
      by_cases he : pieceE x = 0
      · rw [he] at cP
        have hlen := runC_len HQ.out
        have cF := fun wr h hB => follow_any w.heap.size w.heap.size op x wr h (by omega) hB
        unfold pcV at cF
        have HFR := Lib.hid (fun hn => HP2.out he hn)
        by_cases hk0 : k = 0
        · have HF0 := Lib.hid (HFR.out (.inl hk0))
          have hkd : decide (0 < k) = false := by simp; omega
          clear hk0 hcellp
          cases hfo : folE op x with
          | error z0 =>
            have HFO := Lib.hid hfo
            have HE := Lib.hid (checkE_error h512 (HF0.out.trans hfo) (by omega))
            go_wp2_with (first
              | (go_at_call 80; (with_reducible refine cP.mono ?_); rintro e w2 ⟨rfl, hb2⟩; have HX2 := Lib.hid (HX0.out.step hb2); have HB2 := Lib.hid (below_next HBX.out hb2); have HK2 := Lib.hid (HKX.out.step hb2); clear hb2; obtain ⟨b0, b1, b2, b3⟩ := HX2.out)
              | (go_at_call 39; (with_reducible refine (cF w2 HK2.out HB2.out.size).mono ?_); rintro e w4 ⟨⟨z, rfl, hz⟩, hb4, hz4⟩; have HB4 := Lib.hid (HB2.out.trans hb4); have HZ4 := Lib.hid (Nat.lt_of_lt_of_le HK2.out.lt hz4); have HZ := Lib.hid (folZ hz); clear hb4 hz4 hz; rw [HFO.out] at HZ; obtain ⟨rfl, hzb⟩ := HZ.out))
            go_ret
            exact ⟨ret_u8 HE.out.symm, HB4.out⟩
          | ok op2 =>
            have HFO := Lib.hid hfo
            have HE := Lib.hid (HF0.out.trans hfo)
            go_wp2_with (first
              | (go_at_call 80; (with_reducible refine cP.mono ?_); rintro e w2 ⟨rfl, hb2⟩; have HX2 := Lib.hid (HX0.out.step hb2); have HB2 := Lib.hid (below_next HBX.out hb2); have HK2 := Lib.hid (HKX.out.step hb2); clear hb2; obtain ⟨b0, b1, b2, b3⟩ := HX2.out)
              | (go_at_call 39; (with_reducible refine (cF w2 HK2.out HB2.out.size).mono ?_); rintro e w4 ⟨⟨z, rfl, hz⟩, hb4, hz4⟩; have HB4 := Lib.hid (HB2.out.trans hb4); have HZ4 := Lib.hid (Nat.lt_of_lt_of_le HK2.out.lt hz4); have HZ := Lib.hid (folZ hz); clear hb4 hz4 hz; rw [HFO.out] at HZ; obtain ⟨rfl, hsk⟩ := HZ.out; have HSK := Lib.hid hsk; clear hsk))
            go_roundw
            case rel => exact ⟨k + 1, op2, by omega, by go_num, HE.out, HSK.out, HB4.out, HZ4.out⟩
            case measure => simp [intOf]; omega
        · have hkd : decide (0 < k) = true := by simp; omega
          have hwr : IntKind.i64.wrap ((k : Int) - 1) = ((k - 1 : Nat) : Int) := by rw [IntKind.wrap_i64]; omega
          have hix1 : ((k - 1 : Nat) : Int) < (l.length : Int) := by omega
          have hix2 : (0 : Int) ≤ ((k - 1 : Nat) : Int) := by omega
          have hix3 : k - 1 < l.length := by omega
          have hAb1 : (A.add ((k - 1) * 3)).block < w.heap.size := by rw [add_block]; exact hA
          have HN1 := Lib.hid (HP1.out he hk0)
          have hk1 : 0 < k := by omega
          have HC0 := Lib.hid (show w.cell? (A.add ((k - 1) * 3 + 0)) = some (.int .u8 (l.getD (k - 1) nil).k) from hcellp hk1 0 hix3 (by omega))
          have HC1 := Lib.hid (show w.cell? (A.add ((k - 1) * 3 + 1)) = some (.string (l.getD (k - 1) nil).s) from hcellp hk1 1 hix3 (by omega))
          have HC2 := Lib.hid (show w.cell? (A.add ((k - 1) * 3 + 2)) = some (.bool (l.getD (k - 1) nil).c) from hcellp hk1 2 hix3 (by omega))
          clear hcellp HP1
          have cN := fun wr => checkNeighbours_any (l.getD (k - 1) nil) x wr
          generalize l.getD (k - 1) nil = a at HN1 HFR HC0 HC1 HC2 cN
          unfold pcV at cN
          go_wp2_with (go_at_call 80; (with_reducible refine cP.mono ?_); rintro e w2 ⟨rfl, hb2⟩; have HX2 := Lib.hid (HX0.out.step hb2); have HB2 := Lib.hid (below_next HBX.out hb2); have HK2 := Lib.hid (HKX.out.step hb2); clear hb2; obtain ⟨b0, b1, b2, b3⟩ := HX2.out)
          have y0 : w2.cell? (A.add ((k - 1) * 3)) = some (.int .u8 a.k) := by
            rw [HB2.out.cell hAb1]; simpa using HC0.out
          have y1 : w2.cell? { block := (A.add ((k - 1) * 3)).block, off := (A.add ((k - 1) * 3)).off + 1 } = some (.string a.s) := by
            rw [HB2.out.cell (p := { block := (A.add ((k - 1) * 3)).block, off := (A.add ((k - 1) * 3)).off + 1 }) hAb1]; simpa using cell_off (by omega) HC1.out
          have y2 : w2.cell? { block := (A.add ((k - 1) * 3)).block, off := (A.add ((k - 1) * 3)).off + 2 } = some (.bool a.c) := by
            rw [HB2.out.cell (p := { block := (A.add ((k - 1) * 3)).block, off := (A.add ((k - 1) * 3)).off + 2 }) hAb1]; simpa using cell_off (by omega) HC2.out
          clear x0 x1 x2
          have hw2 : w.heap.size ≤ w2.heap.size := HB2.out.size
          go_region_held3 (fun w' => w'.cell? (A.add ((k - 1) * 3)) = some (.int .u8 a.k) ∧ w'.cell? { block := (A.add ((k - 1) * 3)).block, off := (A.add ((k - 1) * 3)).off + 1 } = some (.string a.s) ∧ w'.cell? { block := (A.add ((k - 1) * 3)).block, off := (A.add ((k - 1) * 3)).off + 2 } = some (.bool a.c) ∧ w'.cell? ⟨wr.heap.size, 0, none⟩ = some (.int .u8 x.k) ∧ w'.cell? ⟨wr.heap.size, 1, none⟩ = some (.string x.s) ∧ w'.cell? ⟨wr.heap.size, 2, none⟩ = some (.bool x.c))
            (first
              | go_keep
              | (refine ⟨?_, ?_, ?_, ?_, ?_, ?_⟩
                 · (rw [hb3.cell (p := A.add ((k - 1) * 3)) (by show _ < w2.heap.size; omega)]; assumption)
                 · (rw [hb3.cell (p := { block := (A.add ((k - 1) * 3)).block, off := (A.add ((k - 1) * 3)).off + 1 }) (by show _ < w2.heap.size; show (A.add ((k - 1) * 3)).block < _; omega)]; assumption)
                 · (rw [hb3.cell (p := { block := (A.add ((k - 1) * 3)).block, off := (A.add ((k - 1) * 3)).off + 2 }) (by show _ < w2.heap.size; show (A.add ((k - 1) * 3)).block < _; omega)]; assumption)
                 · (rw [hb3.cell (p := ⟨wr.heap.size, 0, none⟩) (by show _ < w2.heap.size; exact b3)]; assumption)
                 · (rw [hb3.cell (p := ⟨wr.heap.size, 1, none⟩) (by show _ < w2.heap.size; exact b3)]; assumption)
                 · (rw [hb3.cell (p := ⟨wr.heap.size, 2, none⟩) (by show _ < w2.heap.size; exact b3)]; assumption)))
            ((go_simp; go_at_call 81; (with_reducible refine (cN _).mono ?_); rintro e w3 ⟨rfl, hb3⟩))
          rename_i hHeld
          have HX3 := Lib.hid (Boxed.step (wr := w2.drew) hb3 HX2.out)
          have HB3 := Lib.hid (below_next (wr := w2.drew) HB2.out.drew hb3)
          have HK3 := Lib.hid (StackAt.step (w := w2.drew) hb3 HK2.out)
          clear hHeld hb3 y0 y1 y2 b0 b1 b2 b3 HX2 HB2 HK2 HX0 HBX HKX
          obtain ⟨b0, b1, b2, b3⟩ := HX3.out
          by_cases hn : nbrE a x = 0
          · rw [hn]
            have HF0 := Lib.hid (HFR.out (.inr hn))
            cases hfo : folE op x with
            | error z0 =>
              have HFO := Lib.hid hfo
              have HE := Lib.hid (checkE_error h512 (HF0.out.trans hfo) (by omega))
              go_wp2_with (go_at_call 39; (with_reducible refine (cF w3 HK3.out HB3.out.size).mono ?_); rintro e w4 ⟨⟨z, rfl, hz⟩, hb4, hz4⟩; have HB4 := Lib.hid (HB3.out.trans hb4); have HZ4 := Lib.hid (Nat.lt_of_lt_of_le HK3.out.lt hz4); have HZ := Lib.hid (folZ hz); clear hb4 hz4 hz; rw [HFO.out] at HZ; obtain ⟨rfl, hzb⟩ := HZ.out)
              go_ret
              exact ⟨ret_u8 HE.out.symm, HB4.out⟩
            | ok op2 =>
              have HFO := Lib.hid hfo
              have HE := Lib.hid (HF0.out.trans hfo)
              go_wp2_with (go_at_call 39; (with_reducible refine (cF w3 HK3.out HB3.out.size).mono ?_); rintro e w4 ⟨⟨z, rfl, hz⟩, hb4, hz4⟩; have HB4 := Lib.hid (HB3.out.trans hb4); have HZ4 := Lib.hid (Nat.lt_of_lt_of_le HK3.out.lt hz4); have HZ := Lib.hid (folZ hz); clear hb4 hz4 hz; rw [HFO.out] at HZ; obtain ⟨rfl, hsk⟩ := HZ.out; have HSK := Lib.hid hsk; clear hsk)
              go_roundw
              case rel => exact ⟨k + 1, op2, by omega, by go_num, HE.out, HSK.out, HB4.out, HZ4.out⟩
              case measure => simp [intOf]; omega
          · have HE := Lib.hid (checkE_error h512 (HN1.out hn) (by omega))
            generalize nbrE a x = E at HE hn
            have hE0 : (E == 0) = false := by simpa using hn
            go_wp2
            go_ret
            exact ⟨ret_u8 HE.out.symm, HB3.out⟩
      · generalize hE : pieceE x = E at cP
        have hE0 : (E == 0) = false := by rw [← hE]; simpa using he
        have HE := Lib.hid (checkE_error h512 (HP0.out he) (by omega))
        rw [hE] at HE
        clear hE
        go_wp2_with (go_at_call 80; (with_reducible refine cP.mono ?_); rintro e w2 ⟨rfl, hb2⟩; have HX2 := Lib.hid (HX0.out.step hb2); have HB2 := Lib.hid (below_next HBX.out hb2); have HK2 := Lib.hid (HKX.out.step hb2); clear hb2)
        go_ret
        exact ⟨ret_u8 HE.out.symm, HB2.out⟩
    · have hkl : k = l.length := by omega
      obtain ⟨ao, cap2, c0⟩ := HK.out.cell
      have HE := Lib.hid (checkE_ok h512 (hkl ▸ HQ.out))
      by_cases h0 : op = []
      · have hI0 : ¬ (0 : Int) < (op.length : Int) := by rw [h0]; simp
        go_wp2
        go_ret
        exact ⟨ret_u8 (by rw [HE.out, if_pos h0]), HB.out⟩
      · have hI0 : (0 : Int) < (op.length : Int) := by have := List.length_pos_iff.2 h0; omega
        go_wp2
        go_ret
        exact ⟨ret_u8 (by rw [HE.out, if_neg h0]), HB.out⟩
end Go.Proofs.YtnkpjkomokkhcaaGreatDoor
