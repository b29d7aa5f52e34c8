/- The program's symbols of a string, what matches them, and where a spelling rule is applied. -/
import Derived.Test.YtgddmegjncbndaaGreatDoorRef6
import Derived.Lib.Bytealg
import Derived.Lib.Slices
import Derived.Lib.Strings
namespace Go.Proofs.YtgddmegjncbndaaGreatDoor
open Go Go.RowKit
/-- The symbol at a place: the border at both ends, nothing beyond. -/
def symAt (s : ByteArray) (i : Int) : Int := if i = -1 ∨ i = (s.size : Int) then 35 else if h : 0 ≤ i ∧ i < (s.size : Int) then (s[i.toNat]'(by omega)).toNat else 0
theorem symAt_end {s : ByteArray} {i : Int} (h : i = -1 ∨ i = (s.size : Int)) : symAt s i = 35 := by unfold symAt; rw [if_pos h]
theorem symAt_out {s : ByteArray} {i : Int} (h : ¬ (i = -1 ∨ i = (s.size : Int))) (h' : i < 0 ∨ (s.size : Int) < i) : symAt s i = 0 := by unfold symAt; rw [if_neg h, dif_neg (by omega)]
theorem symAt_in {s : ByteArray} {k : Nat} (h : k < s.size) : symAt s (k : Int) = (s[k].toNat : Int) := by unfold symAt; rw [if_neg (by omega), dif_pos (by omega)]; simp
set_option maxHeartbeats 1000000 in
theorem symbolAt_any (s : ByteArray) (i : Int) (w : World) (hs : s.size ≤ maxLen) (h1 : -(2 ^ 62) ≤ i) (h2 : i ≤ 2 ^ 62) :
    Calls Tryz.prog 112 #[.string s, .int .i64 i] w fun e w' => e = .returned (.int .u8 (symAt s i)) ∧ w' = w := by
  unfold maxLen at hs
  by_cases ha : i = -1
  · have HX := Lib.hid (symAt_end (s := s) (.inl ha))
    have ha' : (i == -1) = true := beq_iff_eq.2 ha
    go_enter Tryz.func112, Tryz.ntmps112
    go_wp2
    go_ret
    exact ⟨ret_i HX.out, rfl⟩
  by_cases hb : i = (s.size : Int)
  · have HX := Lib.hid (symAt_end (s := s) (.inr hb))
    have ha' : (i == -1) = false := beq_eq_false_iff_ne.2 ha
    have hb' : (i == (s.size : Int)) = true := beq_iff_eq.2 hb
    have HH := Lib.hid hb; clear hb
    have HA := Lib.hid ha; clear ha
    go_enter Tryz.func112, Tryz.ntmps112
    go_wp2
    go_ret
    exact ⟨ret_i HX.out, rfl⟩
  have ha' : (i == -1) = false := beq_eq_false_iff_ne.2 ha
  have hb' : (i == (s.size : Int)) = false := beq_eq_false_iff_ne.2 hb
  by_cases hc : i < 0
  · have HX := Lib.hid (symAt_out (s := s) (by omega) (.inl hc))
    go_enter Tryz.func112, Tryz.ntmps112
    go_wp2
    go_ret
    exact ⟨ret_i HX.out, rfl⟩
  by_cases hd : (s.size : Int) < i
  · have HX := Lib.hid (symAt_out (s := s) (by omega) (.inr hd))
    go_enter Tryz.func112, Tryz.ntmps112
    go_wp2
    go_ret
    exact ⟨ret_i HX.out, rfl⟩
  obtain ⟨k, rfl⟩ := Int.eq_ofNat_of_zero_le (show 0 ≤ i by omega)
  have hk : k < s.size := by omega
  have HX := Lib.hid (symAt_in hk)
  go_enter Tryz.func112, Tryz.ntmps112
  go_wp2
  go_ret
  exact ⟨ret_i HX.out, rfl⟩
theorem indexByte_in (l : List UInt8) (c : UInt8) : decide (0 ≤ Lib.indexByte l c) = l.any fun b => b == c := by
  induction l with
  | nil => rfl
  | cons b l ih =>
    unfold Lib.indexByte
    rw [List.any_cons]
    cases hb : (b == c)
    · have hge := Lib.indexByte_ge l c
      rw [Bool.false_or, ← ih]
      simp only [Bool.false_eq_true, if_false]
      split
      · rename_i h
        have : Lib.indexByte l c = -1 := by simpa using h
        rw [this]
      · rename_i h
        have : Lib.indexByte l c ≠ -1 := by simpa using h
        simp; omega
    · simp
theorem vowel_in (v : ByteArray) {c : Int} (h0 : 0 ≤ c) (h1 : c < 256) : decide (0 ≤ Lib.indexByte v.data.toList c.toNat.toUInt8) = inTo v c v.size := by
  rw [indexByte_in]
  unfold inTo
  rw [List.take_of_length_le (by simp)]
  congr 1
  funext b
  rw [Bool.eq_iff_iff]
  simp only [beq_iff_eq, decide_eq_true_eq]
  constructor
  · rintro rfl
    have e : (c.toNat.toUInt8).toNat = c.toNat := by
      rw [show c.toNat.toUInt8 = UInt8.ofNat c.toNat from rfl, UInt8.toNat_ofNat']
      exact Nat.mod_eq_of_lt (by omega)
    rw [e]; omega
  · intro h
    apply UInt8.toNat_inj.1
    rw [show c.toNat.toUInt8 = UInt8.ofNat c.toNat from rfl, UInt8.toNat_ofNat', Nat.mod_eq_of_lt (by omega)]
    omega
set_option maxHeartbeats 1000000 in
set_option maxRecDepth 100000 in
theorem byteIdx_low (s : ByteArray) (c : Int) (w : World) :
    Calls Tryz.prog 145 #[.string s, .int .u8 c] w fun e w' => e = .returned (.int .i64 (Lib.indexByte s.data.toList c.toNat.toUInt8)) ∧ w' = w := by
  go_enter Tryz.func145, Tryz.ntmps145
  go_wp2
  rw [run_callFunc_extern Tryz.func158 (by kernel_rfl) (by kernel_rfl) (by kernel_rfl) (e := Extern.BytealgIndexByte.indexByte) (by kernel_rfl), Lib.run_indexByteString]
  simp only [Result.andThen]
  rw [Oper.upon_value]
  go_wp2
  go_ret
  exact ⟨rfl, rfl⟩
set_option maxHeartbeats 1000000 in
theorem byteIdx_any (s : ByteArray) (c : Int) (w : World) :
    Calls Tryz.prog 128 #[.string s, .int .u8 c] w fun e w' => e = .returned (.int .i64 (Lib.indexByte s.data.toList c.toNat.toUInt8)) ∧ w' = w := by
  go_enter Tryz.func128, Tryz.ntmps128
  go_wp2_with (go_at_call 145; refine (byteIdx_low _ _ _).mono ?_; rintro e w' ⟨rfl, rfl⟩)
  go_ret
  exact ⟨rfl, rfl⟩
/-- What a symbol of a Left or a Right matches. -/
def matB (v : ByteArray) (sym found : Int) : Bool := if sym = 67 then !inTo v found v.size && isL found else if sym = 86 then inTo v found v.size && isL found else decide (sym = found)
set_option maxHeartbeats 2000000 in
theorem matches_any (v : ByteArray) (sym found : Int) (w : World) (h0 : 0 ≤ found) (h1 : found < 256) :
    Calls Tryz.prog 111 #[.int .u8 sym, .string v, .int .u8 found] w fun e w' => e = .returned (.bool (matB v sym found)) ∧ w' = w := by
  have HV := Lib.hid (vowel_in v h0 h1)
  cases hv : inTo v found v.size <;> cases hl : isL found
  all_goals
    have hd : decide (0 ≤ Lib.indexByte v.data.toList found.toNat.toUInt8) = _ := HV.out.trans hv
    have HL := Lib.hid hl
    have HI := Lib.hid hv
    clear hl hv
    by_cases c1 : sym = 67
    · have HX := Lib.hid (show matB v sym found = (!inTo v found v.size && isL found) from if_pos c1)
      rw [HI.out, HL.out] at HX
      have c1' : (sym == 67) = true := beq_iff_eq.2 c1
      clear c1
      go_enter Tryz.func111, Tryz.ntmps111
      go_wp2_with (first | (go_at_call 128; refine (byteIdx_any _ _ _).mono ?_; rintro e w' ⟨rfl, rfl⟩) | (go_at_call 69; refine (letter_any _ _).mono ?_; rintro e w' ⟨rfl, rfl⟩))
      go_ret
      exact ⟨ret_bool (by rw [HX.out]; first | rfl | (rw [HL.out]; rfl) | (rw [HI.out]; rfl) | (rw [HI.out, HL.out]; rfl)), rfl⟩
    by_cases c2 : sym = 86
    · have HX := Lib.hid (show matB v sym found = (inTo v found v.size && isL found) from (if_neg c1).trans (if_pos c2))
      have c1' : (sym == 67) = false := beq_eq_false_iff_ne.2 c1
      have c2' : (sym == 86) = true := beq_iff_eq.2 c2
      clear c1 c2
      go_enter Tryz.func111, Tryz.ntmps111
      go_wp2_with (first | (go_at_call 128; refine (byteIdx_any _ _ _).mono ?_; rintro e w' ⟨rfl, rfl⟩) | (go_at_call 69; refine (letter_any _ _).mono ?_; rintro e w' ⟨rfl, rfl⟩))
      go_ret
      exact ⟨ret_bool (by rw [HX.out]; first | rfl | (rw [HL.out]; rfl) | (rw [HI.out]; rfl) | (rw [HI.out, HL.out]; rfl)), rfl⟩
    have HX := Lib.hid (show matB v sym found = decide (sym = found) from (if_neg c1).trans (if_neg c2))
    have c1' : (sym == 67) = false := beq_eq_false_iff_ne.2 c1
    have c2' : (sym == 86) = false := beq_eq_false_iff_ne.2 c2
    clear c1 c2
    go_enter Tryz.func111, Tryz.ntmps111
    go_wp2_with (first | (go_at_call 128; refine (byteIdx_any _ _ _).mono ?_; rintro e w' ⟨rfl, rfl⟩) | (go_at_call 69; refine (letter_any _ _).mono ?_; rintro e w' ⟨rfl, rfl⟩))
    go_ret
    exact ⟨ret_bool (by rw [HX.out]; exact Bool.eq_iff_iff.2 (by simp)), rfl⟩
/-- A string begins with another one. -/
def preB (s p : List UInt8) : Bool := p.isPrefixOf s
theorem preB_short {s p : List UInt8} (h : s.length < p.length) : preB s p = false := by
  unfold preB
  cases hx : p.isPrefixOf s
  · rfl
  · have := (List.isPrefixOf_iff_prefix.1 hx).length_le; omega
theorem preB_take {s p : List UInt8} (h : p.length ≤ s.length) : preB s p = (s.take p.length == p) := by
  unfold preB
  rw [Bool.eq_iff_iff, List.isPrefixOf_iff_prefix, beq_iff_eq]
  constructor
  · intro hp
    obtain ⟨r, rfl⟩ := hp
    simp
  · intro hp
    rw [← hp]
    exact List.take_prefix _ _
set_option maxHeartbeats 1000000 in
theorem hasPrefix_low (s p : ByteArray) (w : World) (_hs : s.size ≤ maxLen) (_hp : p.size ≤ maxLen) :
    Calls Tryz.prog 133 #[.string s, .string p] w fun e w' => e = .returned (.bool (preB s.toList p.toList)) ∧ w' = w := by
  by_cases h : p.size ≤ s.size
  · have HX := Lib.hid (preB_take (s := s.toList) (p := p.toList) (by simpa [ByteArray.toList_eq] using h))
    have h' : (p.size : Int) ≤ (s.size : Int) := by omega
    go_enter Tryz.func133, Tryz.ntmps133
    go_wp2
    go_ret
    exact ⟨ret_bool (by rw [HX.out, ByteArray.toList_eq, ByteArray.toList_eq, ByteArray.toList_eq]; simp), rfl⟩
  · have HX := Lib.hid (preB_short (s := s.toList) (p := p.toList) (by simp [ByteArray.toList_eq]; omega))
    have h' : ¬ (p.size : Int) ≤ (s.size : Int) := by omega
    go_enter Tryz.func133, Tryz.ntmps133
    go_wp2
    go_ret
    exact ⟨ret_bool HX.out.symm, rfl⟩
theorem hasPrefix_any (s p : ByteArray) (w : World) (hs : s.size ≤ maxLen) (hp : p.size ≤ maxLen) :
    Calls Tryz.prog 110 #[.string s, .string p] w fun e w' => e = .returned (.bool (preB s.toList p.toList)) ∧ w' = w := by
  go_enter Tryz.func110, Tryz.ntmps110
  go_wp2_with (go_at_call 133; refine (hasPrefix_low _ _ _ hs hp).mono ?_; rintro e w' ⟨rfl, rfl⟩)
  go_ret
  exact ⟨rfl, rfl⟩
/-- The parts of a rule: what stands to the left of a place and to the right of it. -/
def leftQ (v s left : ByteArray) (at_ : Int) (i : Nat) : Bool := if h : i < left.size then matB v ((left[left.size - 1 - i]'(by omega)).toNat : Int) (symAt s (at_ - 1 - i)) else true
def rightQ (v s right : ByteArray) (at_ : Int) (i : Nat) : Bool := if h : i < right.size then matB v (right[i].toNat : Int) (symAt s (at_ + i)) else true
theorem leftQ_at {v s left : ByteArray} {a : Int} {i : Nat} (h : i < left.size) : leftQ v s left a i = matB v ((left[left.size - 1 - i]'(by omega)).toNat : Int) (symAt s (a - 1 - i)) := by unfold leftQ; rw [dif_pos h]
theorem rightQ_at {v s right : ByteArray} {a : Int} {i : Nat} (h : i < right.size) : rightQ v s right a i = matB v (right[i].toNat : Int) (symAt s (a + i)) := by unfold rightQ; rw [dif_pos h]
def allQ (n : Nat) (q : Nat → Bool) : Bool := (List.range n).all q
theorem allQ_true {n : Nat} {q : Nat → Bool} (h : ∀ i, i < n → q i = true) : allQ n q = true := by
  unfold allQ; rw [List.all_eq_true]; exact fun x hx => h x (List.mem_range.1 hx)
theorem allQ_false {n k : Nat} {q : Nat → Bool} (hk : k < n) (h : q k = false) : allQ n q = false := by
  unfold allQ; rw [List.all_eq_false]; exact ⟨k, List.mem_range.2 hk, by rw [h]; simp⟩
/-- A rule is applied at a place. -/
def appB (v : ByteArray) (r : Spe) (s : ByteArray) (a : Nat) : Bool := preB (s.toList.drop a) r.frm.toList && allQ r.left.size (leftQ v s r.left a) && allQ r.right.size (rightQ v s r.right ((a : Int) + r.frm.size))
theorem symAt_byte (s : ByteArray) (i : Int) : 0 ≤ symAt s i ∧ symAt s i < 256 := by
  unfold symAt
  split
  · omega
  · split
    · rename_i h; have := (s[i.toNat]'(by omega)).toNat_lt; omega
    · omega
theorem true_succ {k : Nat} {q : Nat → Bool} (h : ∀ i, i < k → q i = true) (hk : q k = true) : ∀ i, i < k + 1 → q i = true := by
  intro i hi
  by_cases e : i = k
  · subst e; exact hk
  · exact h i (by omega)
set_option maxRecDepth 100000 in
set_option maxHeartbeats 4000000 in
theorem applies_any (v : ByteArray) (r : Spe) (s : ByteArray) (a : Nat) (w : World) (ha : a ≤ s.size) (hs : s.size ≤ 3000) (h1 : r.frm.size ≤ 3000) (h2 : r.left.size ≤ 3000) (h3 : r.right.size ≤ 3000) :
    Calls Tryz.prog 84 #[.agg #[.string r.frm, .string r.to, .string r.left, .string r.right], .string v, .string s, .int .i64 a] w fun e w' => e = .returned (.bool (appB v r s a)) ∧ Below w.heap.size w w' := by
  have HB0 := Lib.hid (below_one w (.cells #[.string r.frm, .string r.to, .string r.left, .string r.right] 76))
  have ha1 : (a : Int) ≤ (s.size : Int) := by omega
  have ha0 : (0 : Int) ≤ (a : Int) := by omega
  have hs1 : (s.size : Int) ≤ 3000 := by omega
  have y0 : (w.alloc (.cells #[.string r.frm, .string r.to, .string r.left, .string r.right] 76)).cell? ⟨w.heap.size, 0, none⟩ = some (.string r.frm) := by rw [World.cell?_alloc_new]; rfl
  have y1 : (w.alloc (.cells #[.string r.frm, .string r.to, .string r.left, .string r.right] 76)).cell? ⟨w.heap.size, 1, none⟩ = some (.string r.to) := by rw [World.cell?_alloc_new]; rfl
  have y2 : (w.alloc (.cells #[.string r.frm, .string r.to, .string r.left, .string r.right] 76)).cell? ⟨w.heap.size, 2, none⟩ = some (.string r.left) := by rw [World.cell?_alloc_new]; rfl
  have y3 : (w.alloc (.cells #[.string r.frm, .string r.to, .string r.left, .string r.right] 76)).cell? ⟨w.heap.size, 3, none⟩ = some (.string r.right) := by rw [World.cell?_alloc_new]; rfl
  go_enter Tryz.func84, Tryz.ntmps84
  go_wp2
  generalize (w.alloc (.cells #[.string r.frm, .string r.to, .string r.left, .string r.right] 76)) = w0 at HB0 y0 y1 y2 y3 ⊢
  have HPX := Lib.hid (hasPrefix_any (s.extract a s.size) r.frm)
  have HEX := Lib.hid (show (s.extract a s.size).toList = s.toList.drop a by
    rw [ByteArray.toList_eq, ByteArray.toList_eq]; simp [List.take_of_length_le])
  cases hpre : preB (s.extract a s.size).toList r.frm.toList
  · have HX := Lib.hid (show appB v r s a = false by unfold appB; rw [← HEX.out, hpre]; simp)
    go_quiet ((go_at_call 110; refine Calls.quiet_of_same (HPX.out _ (by unfold maxLen; simp; omega) (by unfold maxLen; omega))))
    go_wp2
    go_ret
    exact ⟨ret_bool HX.out.symm, below_drewN _ HB0.out⟩
  · have HP := Lib.hid (HEX.out ▸ hpre : preB (s.toList.drop a) r.frm.toList = true)
    go_quiet ((go_at_call 110; refine Calls.quiet_of_same (HPX.out _ (by unfold maxLen; simp; omega) (by unfold maxLen; omega))))
    have HW0 := Lib.hid (World.block_lt_of_cell? w0 _ y0)
    go_wp2
    go_loopw [21] (fun i wr => ∃ k : Nat, k ≤ r.left.size ∧ i = .int .i64 k ∧ (∀ j, j < k → leftQ v s r.left a j = true) ∧ Below w0.heap.size w0 wr) (fun i _ => r.left.size - (intOf i).toNat)
    case atStart => exact ⟨0, by omega, rfl, fun i h => by omega, below_drewN _ (Below.refl _ _)⟩
    case round =>
      obtain ⟨k, hk, rfl, hq, hB⟩ := hrel
      have HQ := Lib.hid hq; clear hq
      have HB := Lib.hid hB; clear hB
      rename World => wr
      have x0 : wr.cell? ⟨w.heap.size, 0, none⟩ = some (.string r.frm) := by rw [HB.out.cell (p := ⟨w.heap.size, 0, none⟩) HW0.out]; exact y0
      have x2 : wr.cell? ⟨w.heap.size, 2, none⟩ = some (.string r.left) := by rw [HB.out.cell (p := ⟨w.heap.size, 2, none⟩) HW0.out]; exact y2
      have x3 : wr.cell? ⟨w.heap.size, 3, none⟩ = some (.string r.right) := by rw [HB.out.cell (p := ⟨w.heap.size, 3, none⟩) HW0.out]; exact y3
      by_cases hlt : k < r.left.size
      · have hj : r.left.size - 1 - k < r.left.size := by omega
        have hw1 : IntKind.i64.wrap ((r.left.size : Int) - 1 - k) = ((r.left.size - 1 - k : Nat) : Int) := by rw [IntKind.wrap_i64]; omega
        have hw2 : ((r.left.size - 1 - k : Nat) : Int) < (r.left.size : Int) := by omega
        have hw3 : IntKind.i64.wrap ((a : Int) - 1 - k) = (a : Int) - 1 - k := by rw [IntKind.wrap_i64]; omega
        have hw4 : (0 : Int) ≤ (r.left.size : Int) - 1 - k := by omega
        have hw5 : (r.left.size : Int) - 1 - k < (r.left.size : Int) := by omega
        have hsy := symAt_byte s ((a : Int) - 1 - k)
        have HLQ := Lib.hid (leftQ_at (v := v) (s := s) (a := (a : Int)) hlt)
        cases hm : matB v (r.left[r.left.size - 1 - k].toNat : Int) (symAt s ((a : Int) - 1 - k))
        · have HX := Lib.hid (show appB v r s a = false by unfold appB; rw [allQ_false hlt (HLQ.out.trans hm)]; simp)
          go_wp2
          go_quiet ((first
            | (go_at_call 112; refine Calls.quiet_of_same (symbolAt_any s ((a : Int) - 1 - k) _ (by unfold maxLen; omega) (by omega) (by omega)))
            | (go_at_call 111; refine Calls.quiet_of_same (matches_any v _ (symAt s ((a : Int) - 1 - k)) _ hsy.1 hsy.2))))
          go_wp2
          go_ret
          exact ⟨ret_bool HX.out.symm, below_drewN _ (HB0.out.trans (HB.out.mono HB0.out.size))⟩
        · have HX := Lib.hid (HLQ.out.trans hm)
          go_wp2
          go_quiet ((first
            | (go_at_call 112; refine Calls.quiet_of_same (symbolAt_any s ((a : Int) - 1 - k) _ (by unfold maxLen; omega) (by omega) (by omega)))
            | (go_at_call 111; refine Calls.quiet_of_same (matches_any v _ (symAt s ((a : Int) - 1 - k)) _ hsy.1 hsy.2))))
          go_wp2
          go_roundw
          case rel => exact ⟨k + 1, by omega, by go_num, true_succ HQ.out HX.out, below_drewN _ HB.out⟩
          case measure => simp [intOf]; omega
      · have HLA := Lib.hid (show allQ r.left.size (leftQ v s r.left a) = true from allQ_true fun i hi => HQ.out i (by omega))
        go_wp2
        go_loopw [46] (fun i wq => ∃ k : Nat, k ≤ r.right.size ∧ i = .int .i64 k ∧ (∀ j, j < k → rightQ v s r.right ((a : Int) + r.frm.size) j = true) ∧ Below w0.heap.size w0 wq) (fun i _ => r.right.size - (intOf i).toNat)
        case atStart => exact ⟨0, by omega, rfl, fun i h => by omega, HB.out⟩
        case round =>
          obtain ⟨m, hm, rfl, hq, hB2⟩ := hrel
          have HQ2 := Lib.hid hq; clear hq
          have HB2 := Lib.hid hB2; clear hB2
          rename World => wq
          clear x0 x2 x3
          have x0 : wq.cell? ⟨w.heap.size, 0, none⟩ = some (.string r.frm) := by rw [HB2.out.cell (p := ⟨w.heap.size, 0, none⟩) HW0.out]; exact y0
          have x3 : wq.cell? ⟨w.heap.size, 3, none⟩ = some (.string r.right) := by rw [HB2.out.cell (p := ⟨w.heap.size, 3, none⟩) HW0.out]; exact y3
          by_cases hlt2 : m < r.right.size
          · have hw3 : IntKind.i64.wrap ((a : Int) + r.frm.size + m) = (a : Int) + r.frm.size + m := by rw [IntKind.wrap_i64]; omega
            have hsy := symAt_byte s ((a : Int) + r.frm.size + m)
            have HRQ := Lib.hid (rightQ_at (v := v) (s := s) (a := ((a : Int) + r.frm.size)) hlt2)
            cases hm : matB v (r.right[m].toNat : Int) (symAt s ((a : Int) + r.frm.size + m))
            · have HX := Lib.hid (show appB v r s a = false by unfold appB; rw [allQ_false hlt2 (HRQ.out.trans hm)]; simp)
              go_wp2
              go_quiet ((first
                | (go_at_call 112; refine Calls.quiet_of_same (symbolAt_any s ((a : Int) + r.frm.size + m) _ (by unfold maxLen; omega) (by omega) (by omega)))
                | (go_at_call 111; refine Calls.quiet_of_same (matches_any v _ (symAt s ((a : Int) + r.frm.size + m)) _ hsy.1 hsy.2))))
              go_wp2
              go_ret
              exact ⟨ret_bool HX.out.symm, below_drewN _ (HB0.out.trans (HB2.out.mono HB0.out.size))⟩
            · have HX := Lib.hid (HRQ.out.trans hm)
              go_wp2
              go_quiet ((first
                | (go_at_call 112; refine Calls.quiet_of_same (symbolAt_any s ((a : Int) + r.frm.size + m) _ (by unfold maxLen; omega) (by omega) (by omega)))
                | (go_at_call 111; refine Calls.quiet_of_same (matches_any v _ (symAt s ((a : Int) + r.frm.size + m)) _ hsy.1 hsy.2))))
              go_wp2
              go_roundw
              case rel => exact ⟨m + 1, by omega, by go_num, true_succ HQ2.out HX.out, below_drewN _ HB2.out⟩
              case measure => simp [intOf]; omega
          · have HX := Lib.hid (show appB v r s a = true by unfold appB; rw [HP.out, HLA.out, allQ_true fun i hi => HQ2.out i (by omega)]; rfl)
            go_wp2
            go_ret
            exact ⟨ret_bool HX.out.symm, HB0.out.trans (HB2.out.mono HB0.out.size)⟩
end Go.Proofs.YtgddmegjncbndaaGreatDoor
