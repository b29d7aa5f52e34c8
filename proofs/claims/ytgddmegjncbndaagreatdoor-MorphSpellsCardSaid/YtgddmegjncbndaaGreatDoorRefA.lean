/- The specification's own searches: bytes of a string among letters and some more, a string of a list, a trait, a class. The specification's check of a bundle. The specification's checks of traits and classes. -/
import Derived.Test.YtgddmegjncbndaaGreatDoorLex7
namespace Go.Proofs.YtgddmegjncbndaaGreatDoor
open Go Go.RowKit
/-- c is one of the first k bytes of m -/
def inTo (m : ByteArray) (c : Int) (k : Nat) : Bool := (m.data.toList.take k).any fun b => decide (c = (b.toNat : Int))
theorem inTo_zero (m : ByteArray) (c : Int) : inTo m c 0 = false := by simp [inTo]
theorem inTo_step {m : ByteArray} {c : Int} {k : Nat} (hk : k < m.size) : inTo m c (k + 1) = (inTo m c k || decide (c = (m[k].toNat : Int))) := by
  unfold inTo
  rw [List.take_succ_eq_append_getElem (by simpa using hk), List.any_append]
  simp only [List.any_cons, List.any_nil, Bool.or_false]
  rfl
/-- a letter, or one of m's bytes -/
def ofB (m : ByteArray) (c : Int) : Bool := isL c || inTo m c m.size
def OfAt (m : ByteArray) (c : Int) (w : World) (o i : Value) (wr : World) : Prop := ∃ k n : Nat, k ≤ m.size ∧ i = .int .i64 k ∧ o = .bool (isL c || inTo m c k) ∧ wr = w.drewN n
def OfsAt (s m : ByteArray) (w : World) (i : Value) (wr : World) : Prop := ∃ k n : Nat, k ≤ s.size ∧ i = .int .i64 k ∧ upTo (ofB m) s k ∧ wr = w.drewN n
theorem OfAt.next {m : ByteArray} {c : Int} {w : World} {k n : Nat} {b : Bool} (hk : k < m.size) (h : (isL c || inTo m c (k + 1)) = b) : OfAt m c w (.bool b) (.int .i64 (k + 1 : Nat)) (w.drewN n) := ⟨k + 1, n, hk, rfl, by rw [h], rfl⟩
set_option maxHeartbeats 2000000 in
theorem refOf_any (s m : ByteArray) (w : World) (hs : s.size ≤ maxLen) (hm : m.size ≤ maxLen) :
    Calls Tryz.prog 40 #[.string s, .string m] w fun e w' => e = .returned (.bool (allB (ofB m) s)) ∧ ∃ n, w' = w.drewN n := by
  unfold maxLen at hs hm
  go_enter Tryz.func40, Tryz.ntmps40
  go_wp2
  go_loopw [5] (fun i wr => OfsAt s m w i wr) (fun i _ => s.size - (intOf i).toNat)
  case atStart => exact ⟨0, 0, Nat.zero_le _, rfl, upTo_zero _ _, rfl⟩
  case round =>
    obtain ⟨k, n, hk, rfl, hu, rfl⟩ := hrel
    have HU := Lib.hid hu; clear hu
    by_cases hlt : k < s.size
    · go_wp2_with (go_at_call 80; refine (refLetter_any _ _).mono ?_; rintro e w' ⟨rfl, rfl⟩)
      go_loopw [6, 7] (fun o i wr => OfAt m (s[k].toNat : Int) w o i wr) (fun _ i _ => m.size - (intOf i).toNat)
      case atStart => exact ⟨0, _, Nat.zero_le _, rfl, by rw [inTo_zero, Bool.or_false], rfl⟩
      case round =>
        obtain ⟨j, n2, hj, rfl, rfl, rfl⟩ := hrel
        by_cases hlt2 : j < m.size
        · cases ho : (isL (s[k].toNat : Int) || inTo m (s[k].toNat : Int) j)
          · have HO := Lib.hid ho; clear ho
            by_cases hb : (s[k].toNat : Int) = (m[j].toNat : Int)
            · have HX := Lib.hid (show (isL (s[k].toNat : Int) || inTo m (s[k].toNat : Int) (j + 1)) = true by rw [inTo_step hlt2, ← Bool.or_assoc, HO.out]; simp [hb])
              go_wp2
              go_quiet (fail)
              go_wp2
              go_roundw
              case rel => exact OfAt.next hlt2 HX.out
              case measure => simp [intOf]; omega
            · have HX := Lib.hid (show (isL (s[k].toNat : Int) || inTo m (s[k].toNat : Int) (j + 1)) = false by rw [inTo_step hlt2, ← Bool.or_assoc, HO.out]; simp [hb])
              have hbb : ((s[k].toNat : Int) == (m[j].toNat : Int)) = false := beq_eq_false_iff_ne.2 hb
              go_wp2
              go_quiet (fail)
              go_wp2
              go_roundw
              case rel => exact OfAt.next hlt2 HX.out
              case measure => simp [intOf]; omega
          · have HX := Lib.hid (show (isL (s[k].toNat : Int) || inTo m (s[k].toNat : Int) (j + 1)) = true by rw [inTo_step hlt2, ← Bool.or_assoc, ho]; rfl)
            clear ho
            go_wp2
            go_quiet (fail)
            go_wp2
            go_roundw
            case rel => exact OfAt.next hlt2 HX.out
            case measure => simp [intOf]; omega
        · obtain rfl : j = m.size := by omega
          have HF := Lib.hid (show (isL (s[k].toNat : Int) || inTo m (s[k].toNat : Int) m.size) = ofB m (s[k].toNat : Int) from rfl)
          cases ho : (isL (s[k].toNat : Int) || inTo m (s[k].toNat : Int) m.size)
          · have HO := Lib.hid ho; clear ho
            go_wp2
            go_ret
            exact ⟨ret_bool (by rw [allB_false hlt (HF.out.symm.trans HO.out)]), _, rfl⟩
          · have HO := Lib.hid ho; clear ho
            go_wp2
            go_roundw
            case rel => exact ⟨k + 1, _, by omega, by go_num, upTo_succ HU.out hlt (HF.out.symm.trans HO.out), rfl⟩
            case measure => simp [intOf]; omega
    · go_wp2
      go_ret
      exact ⟨ret_bool (by rw [allB_true HU.out (by omega)]), _, rfl⟩
theorem str_flip (a b : ByteArray) : (a.toList == b.toList) = (b.toList == a.toList) := by
  rw [Bool.eq_iff_iff]; simp only [beq_iff_eq]; exact eq_comm
set_option maxHeartbeats 800000 in
theorem refIn_any (V : List ByteArray) (n : Nat) (v : Value) (s : ByteArray) (w : World) (hv : SliceAt w.heap.size w v n 1 (strF V)) (hn : n ≤ V.length) :
    Calls Tryz.prog 67 #[v, .string s] w fun e w' => e = .returned (.bool (decide (0 ≤ strIdx V n s))) ∧ w' = w := by
  obtain ⟨p, cap, rfl, hcap, hmax, hrow⟩ := hv
  unfold maxLen at hmax
  have HR := Lib.hid hrow; clear hrow
  go_enter Tryz.func67, Tryz.ntmps67
  go_wp2
  go_loopw [5] (fun i wr => ∃ k : Nat, k ≤ n ∧ i = .int .i64 k ∧ (∀ j, j < k → strQ V s j = false) ∧ wr = w) (fun i _ => n - (intOf i).toNat)
  case atStart => exact ⟨0, by omega, rfl, fun i h => by omega, rfl⟩
  case round =>
    obtain ⟨k, hk, rfl, hq, rfl⟩ := hrel
    have HQ := Lib.hid hq; clear hq
    by_cases hlt : k < n
    · obtain ⟨A, rfl, hA, hcell⟩ := HR.out (by omega)
      have hkT : k < V.length := by omega
      have e1 := hcell k 0 hlt (by omega)
      simp [strF, hkT] at e1
      clear hcell
      cases hx : (V[k].toList == s.toList)
      · have HX := Lib.hid (show (s.toList == V[k].toList) = false by rw [str_flip]; exact hx)
        go_wp2
        go_roundw
        case rel => exact ⟨k + 1, by omega, by go_num, none_succ' HQ.out (strQ_at hkT HX.out), by first | rfl | trivial⟩
        case measure => simp [intOf]; omega
      · have HX := Lib.hid (show (s.toList == V[k].toList) = true by rw [str_flip]; exact hx)
        have HI := Lib.hid (show strIdx V n s = (k : Int) from idxOf_at hlt HQ.out (strQ_at hkT HX.out))
        go_wp2
        go_ret
        exact ⟨ret_bool (by rw [HI.out]; simp), rfl⟩
    · go_wp2
      go_ret
      exact ⟨ret_bool (by rw [show strIdx V n s = -1 from idxOf_none fun j hj => HQ.out j (by omega)]; simp), rfl⟩
set_option maxRecDepth 100000 in
set_option maxHeartbeats 4000000 in
theorem refTrait_any (L : Lex) (s : ByteArray) (w : World) (hL : LexAt w L) :
    Calls Tryz.prog 82 #[L.val, .string s] w fun e w' => e = .returned (.int .i64 (traitIdx L.traits L.traits.length s)) ∧ Below w.heap.size w w' := by
  obtain ⟨p1, c1, p2, c2, p3, c3, p4, c4, p5, c5, e1, e2, e3, e4, e5, hc1, hm1, hc2, hm2, _⟩ := lex_forms hL
  have HL := Lib.hid hL; clear hL
  have hval : L.val = .agg #[.string L.vowels, .slice p1 L.traits.length c1, .slice p2 L.classes.length c2, .slice p3 L.entries.length c3, .slice p4 L.spells.length c4, .slice p5 L.links.length c5] := by unfold Lex.val; rw [e1, e2, e3, e4, e5]
  have HO := Lib.hid (show boxed L = .cells #[.string L.vowels, .slice p1 L.traits.length c1, .slice p2 L.classes.length c2, .slice p3 L.entries.length c3, .slice p4 L.spells.length c4, .slice p5 L.links.length c5] 28 by unfold boxed; rw [e1, e2, e3, e4, e5])
  rw [hval]
  unfold maxLen at hm1 hm2
  have ag := Tryz.isAgg64
  have zg := Tryz.sizeOf64
  go_enter Tryz.func82, Tryz.ntmps82
  go_wp2
  go_loopw [5] (fun i wr => ∃ k : Nat, k ≤ L.traits.length ∧ i = .int .i64 k ∧ (∀ j, j < k → traQ L.traits s j = false) ∧ Below (w.alloc (boxed L)).heap.size (w.alloc (boxed L)) wr) (fun i _ => L.traits.length - (intOf i).toNat)
  case atStart => exact ⟨0, by omega, rfl, fun i h => by omega, by rw [HO.out]; exact Below.refl _ _⟩
  case round =>
    obtain ⟨k, hk, rfl, hq, hB⟩ := hrel
    have HQ := Lib.hid hq; clear hq
    have HB := Lib.hid hB; clear hB
    rename World => wr
    have HW := Lib.hid ((below_one w (boxed L)).trans (HB.out.mono (by simp)))
    have b1 : wr.cell? ⟨w.heap.size, 1, none⟩ = some (.slice p1 L.traits.length c1) := by rw [boxed_at w L HB.out 1, e1]; rfl
    by_cases hlt : k < L.traits.length
    · obtain ⟨q1, d1, e1', hd1, hd1', hrow⟩ := (HL.out.tras.step HW.out).1
      obtain ⟨rfl, rfl⟩ : q1 = p1 ∧ d1 = c1 := by rw [e1] at e1'; cases e1'; exact ⟨rfl, rfl⟩
      obtain ⟨A, rfl, hA, hcell⟩ := hrow (by omega)
      have t1 : wr.cell? (A.add (k * 2)) = some (.string L.traits[k].name) := by
        have := hcell k 0 hlt (by omega)
        simpa [traF, hlt] using this
      clear hcell hrow
      cases hx : (L.traits[k].name.toList == s.toList)
      · have HX := Lib.hid hx
        go_wp2
        go_roundw
        case rel => exact ⟨k + 1, by omega, by go_num, none_succ' HQ.out (traQ_at hlt HX.out), by repeat (first | exact HB.out | apply below_drewN)⟩
        case measure => simp [intOf]; omega
      · have HX := Lib.hid hx
        go_wp2
        go_ret
        exact ⟨ret_i (by unfold traitIdx; exact idxOf_at hlt HQ.out (traQ_at hlt HX.out)), by repeat (first | exact HW.out | apply below_drewN)⟩
    · go_wp2
      go_ret
      exact ⟨ret_i (by unfold traitIdx; exact idxOf_none fun j hj => HQ.out j (by omega)), by repeat (first | exact HW.out | apply below_drewN)⟩
set_option maxRecDepth 100000 in
set_option maxHeartbeats 4000000 in
theorem refClass_any (L : Lex) (s : ByteArray) (w : World) (hL : LexAt w L) :
    Calls Tryz.prog 44 #[L.val, .string s] w fun e w' => e = .returned (.int .i64 (classIdx L.classes L.classes.length s)) ∧ Below w.heap.size w w' := by
  obtain ⟨p1, c1, p2, c2, p3, c3, p4, c4, p5, c5, e1, e2, e3, e4, e5, hc1, hm1, hc2, hm2, _⟩ := lex_forms hL
  have HL := Lib.hid hL; clear hL
  have hval : L.val = .agg #[.string L.vowels, .slice p1 L.traits.length c1, .slice p2 L.classes.length c2, .slice p3 L.entries.length c3, .slice p4 L.spells.length c4, .slice p5 L.links.length c5] := by unfold Lex.val; rw [e1, e2, e3, e4, e5]
  have HO := Lib.hid (show boxed L = .cells #[.string L.vowels, .slice p1 L.traits.length c1, .slice p2 L.classes.length c2, .slice p3 L.entries.length c3, .slice p4 L.spells.length c4, .slice p5 L.links.length c5] 28 by unfold boxed; rw [e1, e2, e3, e4, e5])
  rw [hval]
  unfold maxLen at hm1 hm2
  have ag := Tryz.isAgg67
  have zg := Tryz.sizeOf67
  go_enter Tryz.func44, Tryz.ntmps44
  go_wp2
  go_loopw [5] (fun i wr => ∃ k : Nat, k ≤ L.classes.length ∧ i = .int .i64 k ∧ (∀ j, j < k → claQ L.classes s j = false) ∧ Below (w.alloc (boxed L)).heap.size (w.alloc (boxed L)) wr) (fun i _ => L.classes.length - (intOf i).toNat)
  case atStart => exact ⟨0, by omega, rfl, fun i h => by omega, by rw [HO.out]; exact Below.refl _ _⟩
  case round =>
    obtain ⟨k, hk, rfl, hq, hB⟩ := hrel
    have HQ := Lib.hid hq; clear hq
    have HB := Lib.hid hB; clear hB
    rename World => wr
    have HW := Lib.hid ((below_one w (boxed L)).trans (HB.out.mono (by simp)))
    have b1 : wr.cell? ⟨w.heap.size, 2, none⟩ = some (.slice p2 L.classes.length c2) := by rw [boxed_at w L HB.out 2, e2]; rfl
    by_cases hlt : k < L.classes.length
    · obtain ⟨q1, d1, e1', hd1, hd1', hrow⟩ := (HL.out.clas.step HW.out).1
      obtain ⟨rfl, rfl⟩ : q1 = p2 ∧ d1 = c2 := by rw [e2] at e1'; cases e1'; exact ⟨rfl, rfl⟩
      obtain ⟨A, rfl, hA, hcell⟩ := hrow (by omega)
      have t1 : wr.cell? (A.add (k * 2)) = some (.string L.classes[k].name) := by
        have := hcell k 0 hlt (by omega)
        simpa [claF, hlt] using this
      clear hcell hrow
      cases hx : (L.classes[k].name.toList == s.toList)
      · have HX := Lib.hid hx
        go_wp2
        go_roundw
        case rel => exact ⟨k + 1, by omega, by go_num, none_succ' HQ.out (claQ_at hlt HX.out), by repeat (first | exact HB.out | apply below_drewN)⟩
        case measure => simp [intOf]; omega
      · have HX := Lib.hid hx
        go_wp2
        go_ret
        exact ⟨ret_i (by unfold classIdx; exact idxOf_at hlt HQ.out (claQ_at hlt HX.out)), by repeat (first | exact HW.out | apply below_drewN)⟩
    · go_wp2
      go_ret
      exact ⟨ret_i (by unfold classIdx; exact idxOf_none fun j hj => HQ.out j (by omega)), by repeat (first | exact HW.out | apply below_drewN)⟩
end Go.Proofs.YtgddmegjncbndaaGreatDoor
namespace Go.Proofs.YtgddmegjncbndaaGreatDoor
open Go Go.RowKit
set_option maxRecDepth 100000 in
set_option maxHeartbeats 8000000 in
theorem refBundle_any (L : Lex) (b : List Ft) (bv : Value) (w : World) (hL : LexAt w L) (hb : ReadsIn w.heap.size w bv b) :
    Calls Tryz.prog 45 #[L.val, bv] w fun e w' => e = .returned (.int .u8 (bundleErr L.traits b)) ∧ Below w.heap.size w w' := by
  obtain ⟨p1, c1, p2, c2, p3, c3, p4, c4, p5, c5, e1, e2, e3, e4, e5, hc1, hm1, hc2, hm2, hc3, hm3, hc4, hm4, hc5, hm5⟩ := lex_forms hL
  have HL := Lib.hid hL; clear hL
  have hval : L.val = .agg #[.string L.vowels, .slice p1 L.traits.length c1, .slice p2 L.classes.length c2, .slice p3 L.entries.length c3, .slice p4 L.spells.length c4, .slice p5 L.links.length c5] := by unfold Lex.val; rw [e1, e2, e3, e4, e5]
  have HVAL := Lib.hid hval
  have HO := Lib.hid (show boxed L = .cells #[.string L.vowels, .slice p1 L.traits.length c1, .slice p2 L.classes.length c2, .slice p3 L.entries.length c3, .slice p4 L.spells.length c4, .slice p5 L.links.length c5] 28 by unfold boxed; rw [e1, e2, e3, e4, e5])
  rw [hval]
  clear hval
  have ag := Tryz.isAgg28
  have zg := Tryz.sizeOf28
  obtain ⟨q, capB, rfl, hcB, hmB, hrB⟩ := open_row hb
  unfold maxLen at hmB
  have HRB := Lib.hid hrB; clear hrB hb
  by_cases h8 : (8 : Int) < (b.length : Int)
  · go_enter Tryz.func45, Tryz.ntmps45
    go_wp2
    go_ret
    exact ⟨ret_i (by unfold bundleErr; rw [if_pos (by omega)]), below_one _ _⟩
  have HE : Hid (bundleErr L.traits b = errOf b.length (featErr L.traits b)) := Lib.hid (by unfold bundleErr; rw [if_neg (by omega)])
  go_enter Tryz.func45, Tryz.ntmps45
  go_wp2
  go_loopw [5] (fun i wr => ∃ k : Nat, k ≤ b.length ∧ i = .int .i64 k ∧ (∀ j, j < k → featErr L.traits b j = 0) ∧ Below (w.alloc (boxed L)).heap.size (w.alloc (boxed L)) wr) (fun i _ => b.length - (intOf i).toNat)
  case atStart => exact ⟨0, by omega, rfl, fun i h => by omega, by rw [HO.out]; exact Below.refl _ _⟩
  case round =>
    obtain ⟨k, hk, rfl, hq, hB⟩ := hrel
    have HQ := Lib.hid hq; clear hq
    have HB := Lib.hid hB; clear hB
    rename World => wr
    have HW := Lib.hid ((below_one w (boxed L)).trans (HB.out.mono (by simp)))
    by_cases hlt : k < b.length
    · obtain ⟨B, rfl, hbB, RB⟩ := HRB.out (by omega)
      have R2 := rowAt_below HW.out (fun _ => hbB) RB
      obtain ⟨y1, y2⟩ := R2 k hlt
      replace y2 := cell_next y2
      clear R2
      have b0 : wr.cell? ⟨w.heap.size, 0, none⟩ = some (.string L.vowels) := by rw [boxed_at w L HB.out 0]; rfl
      have b1 : wr.cell? ⟨w.heap.size, 1, none⟩ = some (.slice p1 L.traits.length c1) := by rw [boxed_at w L HB.out 1, e1]; rfl
      have b2 : wr.cell? ⟨w.heap.size, 2, none⟩ = some (.slice p2 L.classes.length c2) := by rw [boxed_at w L HB.out 2, e2]; rfl
      have b3 : wr.cell? ⟨w.heap.size, 3, none⟩ = some (.slice p3 L.entries.length c3) := by rw [boxed_at w L HB.out 3, e3]; rfl
      have b4 : wr.cell? ⟨w.heap.size, 4, none⟩ = some (.slice p4 L.spells.length c4) := by rw [boxed_at w L HB.out 4, e4]; rfl
      have b5 : wr.cell? ⟨w.heap.size, 5, none⟩ = some (.slice p5 L.links.length c5) := by rw [boxed_at w L HB.out 5, e5]; rfl
      have a61 := Tryz.isAgg61
      have z61 := Tryz.sizeOf61
      have HWD := Lib.hid (show Below w.heap.size w wr.drew from below_drewN 1 HW.out)
      have HBD := Lib.hid (show Below (w.alloc (boxed L)).heap.size (w.alloc (boxed L)) wr.drew from below_drewN 1 HB.out)
      have HT := Lib.hid (HVAL.out ▸ refTrait_any L b[k].1 wr.drew (HL.out.step HWD.out))
      rcases idxOf_cases L.traits.length (traQ L.traits b[k].1) with ⟨hneg, _⟩ | ⟨t, ht, _, _, heq⟩
      · have HI : Hid (traitIdx L.traits L.traits.length b[k].1 = -1) := Lib.hid hneg
        have HF := Lib.hid (featErr_name hlt HI.out)
        clear hneg
        go_wp2
        go_still_tail 6, (by kernel_rfl)
        go_wp2_with (go_at_call 82; refine (HT.out).mono ?_; rintro e w2 ⟨he, hb2⟩; rw [HI.out] at he; subst he; have HB2 := Lib.hid (HWD.out.trans (hb2.mono HWD.out.size)); have HBB := Lib.hid (HBD.out.trans (hb2.mono HBD.out.size)); clear hb2)
        go_ret
        exact ⟨ret_i (by rw [HE.out, errOf_at hlt HQ.out (by rw [HF.out]; decide), HF.out]), HB2.out⟩
      · have HI : Hid (traitIdx L.traits L.traits.length b[k].1 = (t : Int)) := Lib.hid heq
        have HF := Lib.hid (featErr_at hlt ht HI.out)
        clear heq
        have ht1 : (t : Int) < (L.traits.length : Int) := by omega
        have ht0 : ¬ ((t : Int) < 0) := by omega
        have ht2 : (0 : Int) ≤ (t : Int) := by omega
        obtain ⟨q1, d1, eq1, _, _, hrT⟩ := HL.out.tras.1
        obtain ⟨rfl, rfl⟩ : q1 = p1 ∧ d1 = c1 := by rw [e1] at eq1; cases eq1; exact ⟨rfl, rfl⟩
        obtain ⟨A, rfl, hbA, RA⟩ := hrT (by omega)
        clear hrT
        obtain ⟨⟨p', c', hvv, hc', hm', _⟩, _⟩ := HL.out.tras.2 L.traits[t] (List.getElem_mem _)
        have HA1 := Lib.hid (show w.cell? { block := (A.add (t * 2)).block, off := (A.add (t * 2)).off + 1 } = some (.slice p' L.traits[t].vs.length c') by
          have := cell_next (RA t 1 ht (by omega))
          simpa [traF, ht, hvv] using this)
        have HAB := Lib.hid (show (A.add (t * 2)).block < w.heap.size by rw [add_block]; exact hbA)
        clear RA
        go_wp2
        go_still_tail 6, (by kernel_rfl)
        go_wp2_with (go_at_call 82; refine (HT.out).mono ?_; rintro e w2 ⟨he, hb2⟩; rw [HI.out] at he; subst he; have HB2 := Lib.hid (HWD.out.trans (hb2.mono HWD.out.size)); have HBB := Lib.hid (HBD.out.trans (hb2.mono HBD.out.size)); clear hb2)
        have g1 : w2.cell? ⟨w.heap.size, 1, none⟩ = some (.slice (some A) L.traits.length d1) := by rw [boxed_at w L HBB.out 1, e1]; rfl
        have R2 := rowAt_below HB2.out (fun _ => hbB) RB
        obtain ⟨y1, y2⟩ := R2 k hlt
        replace y2 := cell_next y2
        have p1' : 0 < k → w2.cell? (B.add ((k - 1) * 2)) = some (.string (b.getD (k - 1) (⟨#[]⟩, ⟨#[]⟩)).1) := fun hk0 => by
          rw [List.getD_eq_getElem?_getD, List.getElem?_eq_getElem (by omega)]; exact (R2 (k - 1) (by omega)).1
        clear R2
        have HP1 := Lib.hid p1'; clear p1'
        have a1 : w2.cell? { block := (A.add (t * 2)).block, off := (A.add (t * 2)).off + 1 } = some (.slice p' L.traits[t].vs.length c') := by
          rw [HB2.out.cell (p := ⟨(A.add (t * 2)).block, (A.add (t * 2)).off + 1, none⟩) HAB.out]; exact HA1.out
        have HVS := Lib.hid (hvv ▸ (HL.out.tras.2 L.traits[t] (List.getElem_mem _)).1.step HB2.out)
        clear hvv b0 b1 b2 b3 b4 b5
        by_cases hin : strIdx L.traits[t].vs L.traits[t].vs.length b[k].2 < 0
        · have hd : decide (0 ≤ strIdx L.traits[t].vs L.traits[t].vs.length b[k].2) = false := decide_eq_false (by omega)
          have HF1 := Lib.hid (show featErr L.traits b k = 1 by rw [HF.out, if_pos hin])
          go_wp2
          go_quiet ((go_at_call 67; refine Calls.quiet_of_same (refIn_any _ _ _ _ _ (HVS.out.step (below_drewN _ (Below.refl _ _))) (Nat.le_refl _))))
          go_wp2
          go_ret
          exact ⟨ret_i (by rw [HE.out, errOf_at hlt HQ.out (by rw [HF1.out]; decide), HF1.out]), below_drewN _ HB2.out⟩
        · have hd : decide (0 ≤ strIdx L.traits[t].vs L.traits[t].vs.length b[k].2) = true := decide_eq_true (by omega)
          have HF1 := Lib.hid (HF.out.trans (if_neg hin)); clear HF
          by_cases hk0 : k = 0
          · have HF2 := Lib.hid (HF1.out.trans ((if_neg (by omega)).trans (if_neg (by omega)))); clear HF1
            have hdk : decide (0 < k) = false := decide_eq_false (by omega)
            clear hk0
            go_wp2
            go_quiet ((go_at_call 67; refine Calls.quiet_of_same (refIn_any _ _ _ _ _ (HVS.out.step (below_drewN _ (Below.refl _ _))) (Nat.le_refl _))))
            go_wp2
            go_quiet (fail)
            go_wp2
            go_quiet (fail)
            go_wp2
            go_roundw
            case rel => exact ⟨k + 1, by omega, by go_num, below_succ HQ.out HF2.out, by repeat (first | exact HBB.out | apply below_drewN)⟩
            case measure => simp [intOf]; omega
          · have hk1 : 0 < k := by omega
            have hdk : decide (0 < k) = true := decide_eq_true hk1
            have hk2 : (0 : Int) ≤ (k : Int) - 1 := by omega
            have hk3 : (k : Int) - 1 < (b.length : Int) := by omega
            have hg : b.getD (k - 1) (⟨#[]⟩, ⟨#[]⟩) = b[k - 1] := by rw [List.getD_eq_getElem?_getD, List.getElem?_eq_getElem (by omega)]; rfl
            have p1 : w2.cell? (B.add ((k - 1) * 2)) = some (.string b[k - 1].1) := hg ▸ HP1.out hk1
            have HG := Lib.hid hg; clear hg
            cases hn : (b[k - 1].1.toList == b[k].1.toList)
            · cases hl : Op.bytesLess b[k].1.toList b[k - 1].1.toList
              · have HF2 := Lib.hid (HF1.out.trans ((if_neg (by rw [HG.out, hn]; simp)).trans (if_neg (by rw [HG.out, hl]; simp)))); clear HF1
                have hl2 : Op.bytesLess b[k - 1].1.toList b[k].1.toList = true := by rw [lt_flip hn, hl]; rfl
                go_wp2
                go_quiet ((go_at_call 67; refine Calls.quiet_of_same (refIn_any _ _ _ _ _ (HVS.out.step (below_drewN _ (Below.refl _ _))) (Nat.le_refl _))))
                go_wp2
                go_quiet (fail)
                go_wp2
                go_quiet (fail)
                go_wp2
                go_roundw
                case rel => exact ⟨k + 1, by omega, by go_num, below_succ HQ.out HF2.out, by repeat (first | exact HBB.out | apply below_drewN)⟩
                case measure => simp [intOf]; omega
              · have HF2 := Lib.hid (HF1.out.trans ((if_neg (by rw [HG.out, hn]; simp)).trans (if_pos ⟨by omega, by rw [HG.out, hl]⟩))); clear HF1
                have hl2 : Op.bytesLess b[k - 1].1.toList b[k].1.toList = false := by rw [lt_flip hn, hl]; rfl
                go_wp2
                go_quiet ((go_at_call 67; refine Calls.quiet_of_same (refIn_any _ _ _ _ _ (HVS.out.step (below_drewN _ (Below.refl _ _))) (Nat.le_refl _))))
                go_wp2
                go_quiet (fail)
                go_wp2
                go_quiet (fail)
                go_wp2
                go_ret
                exact ⟨ret_i (by rw [HE.out, errOf_at hlt HQ.out (by rw [HF2.out]; decide), HF2.out]), by repeat (first | exact HB2.out | apply below_drewN)⟩
            · have HF2 := Lib.hid (HF1.out.trans (if_pos ⟨by omega, by rw [HG.out, hn]⟩)); clear HF1
              go_wp2
              go_quiet ((go_at_call 67; refine Calls.quiet_of_same (refIn_any _ _ _ _ _ (HVS.out.step (below_drewN _ (Below.refl _ _))) (Nat.le_refl _))))
              go_wp2
              go_quiet (fail)
              go_wp2
              go_ret
              exact ⟨ret_i (by rw [HE.out, errOf_at hlt HQ.out (by rw [HF2.out]; decide), HF2.out]), by repeat (first | exact HB2.out | apply below_drewN)⟩
    · go_wp2
      go_ret
      exact ⟨ret_i (by rw [HE.out, errOf_none fun j hj => HQ.out j (by omega)]), HW.out⟩
end Go.Proofs.YtgddmegjncbndaaGreatDoor
namespace Go.Proofs.YtgddmegjncbndaaGreatDoor
open Go Go.RowKit
/-- The first of all is below i just if there is one among the first i. -/
theorem idx_before {n i : Nat} {q : Nat → Bool} (hi : i < n) (hq : q i = true) : decide (idxOf n q < (i : Int)) = decide (0 ≤ idxOf i q) := by
  rcases idxOf_cases i q with ⟨h1, h2⟩ | ⟨j, hj, h2, h3, h4⟩
  · rw [h1, idxOf_at hi h2 hq]; simp
  · rw [h4, idxOf_at (by omega) h2 h3]; simp; omega
set_option maxRecDepth 100000 in
set_option maxHeartbeats 8000000 in
theorem refTraits_any (L : Lex) (w : World) (hL : LexAt w L) :
    Calls Tryz.prog 41 #[L.val] w fun e w' => e = .returned (.int .u8 (traitsErr L.traits)) ∧ Below w.heap.size w w' := by
  obtain ⟨p1, c1, p2, c2, p3, c3, p4, c4, p5, c5, e1, e2, e3, e4, e5, hc1, hm1, hc2, hm2, hc3, hm3, hc4, hm4, hc5, hm5⟩ := lex_forms hL
  have HL := Lib.hid hL; clear hL
  have hval : L.val = .agg #[.string L.vowels, .slice p1 L.traits.length c1, .slice p2 L.classes.length c2, .slice p3 L.entries.length c3, .slice p4 L.spells.length c4, .slice p5 L.links.length c5] := by unfold Lex.val; rw [e1, e2, e3, e4, e5]
  have HVAL := Lib.hid hval
  have HO := Lib.hid (show boxed L = .cells #[.string L.vowels, .slice p1 L.traits.length c1, .slice p2 L.classes.length c2, .slice p3 L.entries.length c3, .slice p4 L.spells.length c4, .slice p5 L.links.length c5] 28 by unfold boxed; rw [e1, e2, e3, e4, e5])
  rw [hval]
  clear hval
  have ag := Tryz.isAgg28
  have zg := Tryz.sizeOf28
  unfold maxLen at hm1
  have agt := Tryz.isAgg64
  have zgt := Tryz.sizeOf64
  by_cases h8 : (8 : Int) < (L.traits.length : Int)
  · go_enter Tryz.func41, Tryz.ntmps41
    go_wp2
    go_ret
    exact ⟨ret_i (by unfold traitsErr; rw [if_pos (by omega)]), below_one _ _⟩
  have HE : Hid (traitsErr L.traits = errOf L.traits.length (traitErr L.traits)) := Lib.hid (by unfold traitsErr; rw [if_neg (by omega)])
  go_enter Tryz.func41, Tryz.ntmps41
  go_wp2
  go_loopw [3] (fun i wr => ∃ k : Nat, k ≤ L.traits.length ∧ i = .int .i64 k ∧ (∀ j, j < k → traitErr L.traits j = 0) ∧ Below (w.alloc (boxed L)).heap.size (w.alloc (boxed L)) wr) (fun i _ => L.traits.length - (intOf i).toNat)
  case atStart => exact ⟨0, by omega, rfl, fun i h => by omega, by rw [HO.out]; exact Below.refl _ _⟩
  case round =>
    obtain ⟨k, hk, rfl, hq, hB⟩ := hrel
    have HQ := Lib.hid hq; clear hq
    have HB := Lib.hid hB; clear hB
    rename World => wr
    have HW := Lib.hid ((below_one w (boxed L)).trans (HB.out.mono (by simp)))
    have b1 : wr.cell? ⟨w.heap.size, 1, none⟩ = some (.slice p1 L.traits.length c1) := by rw [boxed_at w L HB.out 1, e1]; rfl
    by_cases hlt : k < L.traits.length
    · obtain ⟨q1, d1, e1', hd1, hd1', hrow⟩ := (HL.out.tras.step HW.out).1
      obtain ⟨rfl, rfl⟩ : q1 = p1 ∧ d1 = c1 := by rw [e1] at e1'; cases e1'; exact ⟨rfl, rfl⟩
      obtain ⟨A, rfl, hA, hcell⟩ := hrow (by omega)
      obtain ⟨⟨p', c', hvv, hc', hm', _⟩, hnm, hvs⟩ := HL.out.tras.2 L.traits[k] (List.getElem_mem _)
      have t1 : wr.cell? (A.add (k * 2)) = some (.string L.traits[k].name) := by
        have := hcell k 0 hlt (by omega)
        simpa [traF, hlt] using this
      have t2 : wr.cell? { block := (A.add (k * 2)).block, off := (A.add (k * 2)).off + 1 } = some (.slice p' L.traits[k].vs.length c') := by
        have := cell_next (hcell k 1 hlt (by omega))
        simpa [traF, hlt, hvv] using this
      have hws : w.heap.size < wr.heap.size := by have := HB.out.size; simp at this; omega
      have hwn : w.heap.size ≠ wr.heap.size := by omega
      clear hcell hrow
      have hxw : Below (w.alloc (boxed L)).heap.size (w.alloc (boxed L)) (wr.alloc (.cells #[.string L.traits[k].name, .slice p' L.traits[k].vs.length c'] 64)) := HB.out.alloc HB.out.size _
      have HBX := Lib.hid hxw; clear hxw
      have HWX := Lib.hid (HW.out.alloc HW.out.size (.cells #[.string L.traits[k].name, .slice p' L.traits[k].vs.length c'] 64))
      cases hname : nameB L.traits[k].name
      · have HX := Lib.hid (show traitErr L.traits k = 5 by unfold traitErr; rw [List.getElem?_eq_getElem hlt]; simp [hname])
        go_wp2_with (go_at_call 81; refine (refName_any _ _ hnm).mono ?_; rintro e w' ⟨rfl, rfl⟩)
        go_ret
        exact ⟨ret_i (by rw [HE.out, errOf_at hlt HQ.out (by rw [HX.out]; decide), HX.out]), HWX.out⟩
      · skip
        have x0 : (wr.alloc (.cells #[.string L.traits[k].name, .slice p' L.traits[k].vs.length c'] 64)).cell? ⟨w.heap.size, 0, none⟩ = some (.string L.vowels) := by rw [boxed_at w L HBX.out 0]; rfl
        have x1 : (wr.alloc (.cells #[.string L.traits[k].name, .slice p' L.traits[k].vs.length c'] 64)).cell? ⟨w.heap.size, 1, none⟩ = some (.slice (some A) L.traits.length d1) := by rw [boxed_at w L HBX.out 1, e1]; rfl
        have x2 : (wr.alloc (.cells #[.string L.traits[k].name, .slice p' L.traits[k].vs.length c'] 64)).cell? ⟨w.heap.size, 2, none⟩ = some (.slice p2 L.classes.length c2) := by rw [boxed_at w L HBX.out 2, e2]; rfl
        have x3 : (wr.alloc (.cells #[.string L.traits[k].name, .slice p' L.traits[k].vs.length c'] 64)).cell? ⟨w.heap.size, 3, none⟩ = some (.slice p3 L.entries.length c3) := by rw [boxed_at w L HBX.out 3, e3]; rfl
        have x4 : (wr.alloc (.cells #[.string L.traits[k].name, .slice p' L.traits[k].vs.length c'] 64)).cell? ⟨w.heap.size, 4, none⟩ = some (.slice p4 L.spells.length c4) := by rw [boxed_at w L HBX.out 4, e4]; rfl
        have x5 : (wr.alloc (.cells #[.string L.traits[k].name, .slice p' L.traits[k].vs.length c'] 64)).cell? ⟨w.heap.size, 5, none⟩ = some (.slice p5 L.links.length c5) := by rw [boxed_at w L HBX.out 5, e5]; rfl
        have y0 : (wr.alloc (.cells #[.string L.traits[k].name, .slice p' L.traits[k].vs.length c'] 64)).cell? ⟨wr.heap.size, 0, none⟩ = some (.string L.traits[k].name) := by rw [World.cell?_alloc_new]; rfl
        have y1 : (wr.alloc (.cells #[.string L.traits[k].name, .slice p' L.traits[k].vs.length c'] 64)).cell? ⟨wr.heap.size, 1, none⟩ = some (.slice p' L.traits[k].vs.length c') := by rw [World.cell?_alloc_new]; rfl
        have HTR := Lib.hid (HVAL.out ▸ refTrait_any L L.traits[k].name _ (HL.out.step HWX.out))
        have HID := Lib.hid (idx_before (q := traQ L.traits L.traits[k].name) hlt (traQ_at hlt (by simp)))
        by_cases hbi : traitIdx L.traits L.traits.length L.traits[k].name < (k : Int)
        · have HX := Lib.hid (show traitErr L.traits k = 6 by
            have h2 : 0 ≤ traitIdx L.traits k L.traits[k].name := of_decide_eq_true (HID.out.symm.trans (decide_eq_true hbi))
            unfold traitErr; rw [List.getElem?_eq_getElem hlt]; simp [hname, h2])
          go_wp2_with (first
          | (go_at_call 81; refine (refName_any _ _ hnm).mono ?_; rintro e w' ⟨rfl, rfl⟩)
          | (go_at_call 82; refine (HTR.out).mono ?_; rintro e w2 ⟨rfl, hb2⟩; have HB2 := Lib.hid (HBX.out.trans (hb2.mono HBX.out.size)); have HW2 := Lib.hid (HWX.out.trans (hb2.mono HWX.out.size)); have z1 : w2.cell? ⟨wr.heap.size, 1, none⟩ = some (.slice p' L.traits[k].vs.length c') := (by rw [hb2.cell (p := ⟨wr.heap.size, 1, none⟩) (by simp)]; exact y1); have HWR := Lib.hid (show wr.heap.size < w2.heap.size by have := hb2.size; simp at this; omega); clear hb2))
          go_ret
          exact ⟨ret_i (by rw [HE.out, errOf_at hlt HQ.out (by rw [HX.out]; decide), HX.out]), HW2.out⟩
        have HX := Lib.hid (show traitErr L.traits k = valuesErr L.traits[k].vs by
            have h2 : ¬ 0 ≤ traitIdx L.traits k L.traits[k].name := of_decide_eq_false (HID.out.symm.trans (decide_eq_false hbi))
            unfold traitErr; rw [List.getElem?_eq_getElem hlt]; simp [hname, h2])
        by_cases hv8 : (8 : Int) < (L.traits[k].vs.length : Int)
        · have HV := Lib.hid (show valuesErr L.traits[k].vs = 3 by unfold valuesErr; rw [if_pos (by omega)])
          go_wp2_with (first
          | (go_at_call 81; refine (refName_any _ _ hnm).mono ?_; rintro e w' ⟨rfl, rfl⟩)
          | (go_at_call 82; refine (HTR.out).mono ?_; rintro e w2 ⟨rfl, hb2⟩; have HB2 := Lib.hid (HBX.out.trans (hb2.mono HBX.out.size)); have HW2 := Lib.hid (HWX.out.trans (hb2.mono HWX.out.size)); have z1 : w2.cell? ⟨wr.heap.size, 1, none⟩ = some (.slice p' L.traits[k].vs.length c') := (by rw [hb2.cell (p := ⟨wr.heap.size, 1, none⟩) (by simp)]; exact y1); have HWR := Lib.hid (show wr.heap.size < w2.heap.size by have := hb2.size; simp at this; omega); clear hb2))
          go_ret
          exact ⟨ret_i (by rw [HE.out, errOf_at hlt HQ.out (by rw [HX.out, HV.out]; decide), HX.out, HV.out]), HW2.out⟩
        by_cases hv0 : (L.traits[k].vs.length : Int) = 0
        · have HV := Lib.hid (show valuesErr L.traits[k].vs = 1 by unfold valuesErr; rw [if_neg (by omega), if_pos (by omega)])
          go_wp2_with (first
          | (go_at_call 81; refine (refName_any _ _ hnm).mono ?_; rintro e w' ⟨rfl, rfl⟩)
          | (go_at_call 82; refine (HTR.out).mono ?_; rintro e w2 ⟨rfl, hb2⟩; have HB2 := Lib.hid (HBX.out.trans (hb2.mono HBX.out.size)); have HW2 := Lib.hid (HWX.out.trans (hb2.mono HWX.out.size)); have z1 : w2.cell? ⟨wr.heap.size, 1, none⟩ = some (.slice p' L.traits[k].vs.length c') := (by rw [hb2.cell (p := ⟨wr.heap.size, 1, none⟩) (by simp)]; exact y1); have HWR := Lib.hid (show wr.heap.size < w2.heap.size by have := hb2.size; simp at this; omega); clear hb2))
          go_ret
          exact ⟨ret_i (by rw [HE.out, errOf_at hlt HQ.out (by rw [HX.out, HV.out]; decide), HX.out, HV.out]), HW2.out⟩
        have HV := Lib.hid (show valuesErr L.traits[k].vs = errOf L.traits[k].vs.length (valueErr L.traits[k].vs) by unfold valuesErr; rw [if_neg (by omega), if_neg (by omega)])
        have hv0b : ((L.traits[k].vs.length : Int) == 0) = false := beq_eq_false_iff_ne.2 hv0
        clear hv0
        go_wp2_with (first
          | (go_at_call 81; refine (refName_any _ _ hnm).mono ?_; rintro e w' ⟨rfl, rfl⟩)
          | (go_at_call 82; refine (HTR.out).mono ?_; rintro e w2 ⟨rfl, hb2⟩; have HB2 := Lib.hid (HBX.out.trans (hb2.mono HBX.out.size)); have HW2 := Lib.hid (HWX.out.trans (hb2.mono HWX.out.size)); have z1 : w2.cell? ⟨wr.heap.size, 1, none⟩ = some (.slice p' L.traits[k].vs.length c') := (by rw [hb2.cell (p := ⟨wr.heap.size, 1, none⟩) (by simp)]; exact y1); have HWR := Lib.hid (show wr.heap.size < w2.heap.size by have := hb2.size; simp at this; omega); clear hb2))
        clear x0 x1 x2 x3 x4 x5 y0 y1 b1 t1 t2
        go_loopw [5] (fun i wq => ∃ j : Nat, j ≤ L.traits[k].vs.length ∧ i = .int .i64 j ∧ (∀ m, m < j → valueErr L.traits[k].vs m = 0) ∧ Below w2.heap.size w2 wq) (fun i _ => L.traits[k].vs.length - (intOf i).toNat)
        case atStart => exact ⟨0, by omega, rfl, fun i h => by omega, Below.refl _ _⟩
        case round =>
          obtain ⟨j, hj, rfl, hqj, hbq⟩ := hrel
          have HJ := Lib.hid hqj; clear hqj
          rename World => wq
          have HBQ := Lib.hid hbq; clear hbq
          have HWQ := Lib.hid (HW2.out.trans (HBQ.out.mono HW2.out.size))
          have HBB := Lib.hid (HB2.out.trans (HBQ.out.mono HB2.out.size))
          have z2 : wq.cell? ⟨wr.heap.size, 1, none⟩ = some (.slice p' L.traits[k].vs.length c') := by rw [HBQ.out.cell (p := ⟨wr.heap.size, 1, none⟩) HWR.out]; exact z1
          by_cases hjt : j < L.traits[k].vs.length
          · have HVS := Lib.hid (hvv ▸ (HL.out.tras.2 L.traits[k] (List.getElem_mem _)).1.step HWQ.out)
            obtain ⟨_, _, eA, _, _, hrow⟩ := HVS.out
            cases eA
            obtain ⟨VA, rfl, hVA, hcell⟩ := hrow (by omega)
            have v1 : wq.cell? (VA.add j) = some (.string L.traits[k].vs[j]) := by
              have := hcell j 0 hjt (by omega)
              simpa [strF, hjt] using this
            clear hcell hrow
            have hvj := hvs L.traits[k].vs[j] (List.getElem_mem _)
            have hjc : (j : Int) ≤ (c' : Int) := by omega
            have HVE := Lib.hid (show valueErr L.traits[k].vs j = if nameB L.traits[k].vs[j] = false then 5 else if 0 ≤ strIdx L.traits[k].vs j L.traits[k].vs[j] then 6 else 0 by unfold valueErr; rw [List.getElem?_eq_getElem hjt])
            cases hnv : nameB L.traits[k].vs[j]
            · have HN := Lib.hid (HVE.out.trans (if_pos hnv))
              go_wp2_with (go_at_call 81; refine (refName_any _ _ hvj).mono ?_; rintro e w' ⟨rfl, rfl⟩)
              go_ret
              exact ⟨ret_i (by rw [HE.out, errOf_at hlt HQ.out (by rw [HX.out, HV.out, errOf_at hjt HJ.out (by rw [HN.out]; decide), HN.out]; decide), HX.out, HV.out, errOf_at hjt HJ.out (by rw [HN.out]; decide), HN.out]), by repeat (first | exact HWQ.out | apply below_drewN)⟩
            · have HN := Lib.hid (HVE.out.trans (if_neg (by rw [hnv]; simp)))
              have HUP := Lib.hid (HVS.out.upto (k := j) (by omega))
              by_cases hin : 0 ≤ strIdx L.traits[k].vs j L.traits[k].vs[j]
              · have HM := Lib.hid (HN.out.trans (if_pos hin))
                have hd : decide (0 ≤ strIdx L.traits[k].vs j L.traits[k].vs[j]) = true := decide_eq_true hin
                go_wp2_with (go_at_call 81; refine (refName_any _ _ hvj).mono ?_; rintro e w' ⟨rfl, rfl⟩)
                go_quiet ((go_at_call 67; refine Calls.quiet_of_same (refIn_any L.traits[k].vs j _ L.traits[k].vs[j] _ (HUP.out.step (below_drewN _ (Below.refl _ _))) (by omega))))
                go_wp2
                go_ret
                exact ⟨ret_i (by rw [HE.out, errOf_at hlt HQ.out (by rw [HX.out, HV.out, errOf_at hjt HJ.out (by rw [HM.out]; decide), HM.out]; decide), HX.out, HV.out, errOf_at hjt HJ.out (by rw [HM.out]; decide), HM.out]), by repeat (first | exact HWQ.out | apply below_drewN)⟩
              · have HM := Lib.hid (HN.out.trans (if_neg hin))
                have hd : decide (0 ≤ strIdx L.traits[k].vs j L.traits[k].vs[j]) = false := decide_eq_false hin
                go_wp2_with (go_at_call 81; refine (refName_any _ _ hvj).mono ?_; rintro e w' ⟨rfl, rfl⟩)
                go_quiet ((go_at_call 67; refine Calls.quiet_of_same (refIn_any L.traits[k].vs j _ L.traits[k].vs[j] _ (HUP.out.step (below_drewN _ (Below.refl _ _))) (by omega))))
                go_wp2
                go_roundw
                case rel => exact ⟨j + 1, by omega, by go_num, below_succ HJ.out HM.out, by repeat (first | exact HBQ.out | apply below_drewN)⟩
                case measure => simp [intOf]; omega
          · go_wp2
            go_roundw
            case rel => exact ⟨k + 1, by omega, by go_num, below_succ HQ.out (by rw [HX.out, HV.out]; exact errOf_none fun i hi => HJ.out i (by omega)), by repeat (first | exact HBB.out | apply below_drewN)⟩
            case measure => simp [intOf]; omega
    · go_wp2
      go_ret
      exact ⟨ret_i (by rw [HE.out, errOf_none fun j hj => HQ.out j (by omega)]), HW.out⟩
end Go.Proofs.YtgddmegjncbndaaGreatDoor
