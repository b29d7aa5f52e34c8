/- Lists of pieces written, and their texts, as the program does it. -/
import Derived.Test.YtcgghmpafphcpaaGreatDoorDp6
import Derived.Laws.IdiomStrings
import Derived.Lib.BufferRead
namespace Go.Proofs.YtcgghmpafphcpaaGreatDoor
open Go Go.RowKit
set_option maxRecDepth 100000
theorem piece_kinds {x : Pc} (h : pieceE x = 0) (h1 : x.k ≠ 1) : (x.k = 2) ∨ (x.k = 3) ∨ (x.k = 4 ∧ x.c = false) ∨ (x.k = 5 ∧ x.c = false) := by
  unfold pieceE at h
  by_cases a : x.k < 1 ∨ 5 < x.k
  · rw [if_pos a] at h; cases h
  · rw [if_neg a] at h
    by_cases b : x.c = true ∧ x.k ≠ 2 ∧ x.k ≠ 3
    · rw [if_pos b] at h; cases h
    · by_cases h2 : x.k = 2
      · exact .inl h2
      · by_cases h3 : x.k = 3
        · exact .inr (.inl h3)
        · have hc : x.c = false := by
            cases e : x.c
            · rfl
            · exact absurd ⟨e, h2, h3⟩ b
          by_cases h4 : x.k = 4
          · exact .inr (.inr (.inl ⟨h4, hc⟩))
          · exact .inr (.inr (.inr ⟨by omega, hc⟩))
theorem writeMark_any (x : Pc) (w : World) (hs : x.s.size ≤ 100000000) (hN : Nts w) (h : pieceE x = 0) (h1 : x.k ≠ 1) :
    Calls Tryz.prog 59 #[pcV x] w fun e w' => e = .returned (.string (bytes (wB x))) ∧ Below w.heap.size w w' := by
  have hk := piece_kinds h h1
  obtain ⟨k, s, c⟩ := x
  simp only at hk hs
  unfold pcV
  rcases hk with rfl | rfl | ⟨rfl, rfl⟩ | ⟨rfl, rfl⟩
  · cases c
    · exact writeMark0 s w hs hN
    · exact writeMark1 s w hs hN
  · cases c
    · exact writeMark2 s w hs hN
    · exact writeMark3 s w hs hN
  · exact writeMark4 s w hs hN
  · exact writeMark5 s w hs hN
theorem take_succ_getD (l : List Pc) (k : Nat) (hk : k < l.length) : l.take (k + 1) = l.take k ++ [l.getD k nil] := by
  rw [List.take_succ_eq_append_getElem hk]
  simp [List.getD_eq_getElem?_getD, hk]
theorem formB_succ (l : List Pc) (k : Nat) (hk : k < l.length) : formB (l.take (k + 1)) = formB (l.take k) ++ wB (l.getD k nil) := by
  rw [take_succ_getD l k hk]
  unfold formB
  rw [List.flatMap_append, List.flatMap_cons, List.flatMap_nil, List.append_nil]
theorem plainB_succ (l : List Pc) (k : Nat) (hk : k < l.length) : plainB (l.take (k + 1)) = plainB (l.take k) ++ (if (l.getD k nil).k = 1 then (l.getD k nil).s.data.toList else []) := by
  rw [take_succ_getD l k hk]
  unfold plainB
  rw [List.flatMap_append, List.flatMap_cons, List.flatMap_nil, List.append_nil]
theorem bulk_take (l : List Pc) (k : Nat) : bulk (l.take k) ≤ bulk l := by
  induction l generalizing k with
  | nil => simp
  | cons x l ih =>
    cases k with
    | zero => simp [bulk]
    | succ k =>
      rw [List.take_succ_cons, bulk_cons, bulk_cons]
      have := ih k
      omega
theorem bulk_getD {l : List Pc} {k : Nat} (hk : k < l.length) : (l.getD k nil).s.size ≤ bulk l := by
  have := bulk_get hk
  rw [List.getD_eq_getElem?_getD, List.getElem?_eq_getElem hk]
  simp only [Option.getD_some]; omega
/-- the cells of the piece at a place -/
theorem pcs_cells {B : Nat} {w : World} {A : Addr} {l : List Pc} {k : Nat} (hA : A.block < B) (hcell : ∀ i j, i < l.length → j < 3 → w.cell? (A.add (i * 3 + j)) = some (pcF l i j)) (hk : k < l.length) {wr : World} (hb : Below B w wr) :
    wr.cell? (A.add (k * 3)) = some (.int .u8 (l.getD k nil).k) ∧ wr.cell? { block := (A.add (k * 3)).block, off := (A.add (k * 3)).off + 1 } = some (.string (l.getD k nil).s) ∧ wr.cell? { block := (A.add (k * 3)).block, off := (A.add (k * 3)).off + 2 } = some (.bool (l.getD k nil).c) := by
  have hAb : (A.add (k * 3)).block < B := by rw [add_block]; exact hA
  refine ⟨?_, ?_, ?_⟩
  · rw [hb.cell hAb]; have := hcell k 0 hk (by omega); simpa [pcF] using this
  · rw [hb.cell (p := { block := (A.add (k * 3)).block, off := (A.add (k * 3)).off + 1 }) hAb]; have := cell_off (by omega) (hcell k 1 hk (by omega)); simpa [pcF] using this
  · rw [hb.cell (p := { block := (A.add (k * 3)).block, off := (A.add (k * 3)).off + 2 }) hAb]; have := cell_off (by omega) (hcell k 2 hk (by omega)); simpa [pcF] using this
theorem Nts.below {B : Nat} {w w' : World} (h : Nts w) (hB : 5 ≤ B) (hb : Below B w w') : Nts w' := by
  obtain ⟨h5, t, fr, hg⟩ := h
  exact ⟨Nat.le_trans h5 hb.size, t, fr, by rw [hb.block 0 (by omega)]; exact hg⟩
set_option maxHeartbeats 8000000 in
theorem appendPieces_any (B : Nat) (l : List Pc) (o v : Value) (bs : List UInt8) (w : World) (hO : OwnB B o bs w) (hv : SliceAt B w v l.length 3 (pcF l)) (hB5 : 5 ≤ B) (hB : B ≤ w.heap.size) (hN : Nts w)
    (hval : ∀ i, i < l.length → pieceE (l.getD i nil) = 0) (hb : bs.length ≤ 1000000) (hl : bulk l ≤ 1000000) :
    Calls Tryz.prog 25 #[o, v] w fun e w' => ∃ v', e = .returned v' ∧ OwnB B v' (bs ++ formB l) w' ∧ Below B w w' := by
  obtain ⟨i0, hi, hz0, hz1, hz2⟩ := info_parts info_byte
  obtain ⟨p, cap, rfl, hl1, hc, hrow⟩ := hv
  unfold maxLen at hc
  have ag := Tryz.isAgg39
  have zg := Tryz.sizeOf39
  have HR := Lib.hid hrow
  have HV := Lib.hid hval
  have HN := Lib.hid hN
  clear hrow hval hN
  go_enter Tryz.func25, Tryz.ntmps25
  go_wp2
  go_loopw [0, 9] (fun o i wr => ∃ k : Nat, k ≤ l.length ∧ i = .int .i64 k ∧ Hid (OwnB B o (bs ++ formB (l.take k)) wr) ∧ Hid (Below B w wr)) (fun _ i _ => l.length - (intOf i).toNat)
  case atStart => exact ⟨0, Nat.zero_le _, rfl, (by show OwnB _ _ _ _; simpa [formB] using hO), Below.refl _ _⟩
  case round =>
    obtain ⟨k, hk, rfl, HO, HB⟩ := hrel
    by_cases hlt : k < l.length
    · obtain ⟨A, rfl, hA, hcell⟩ := HR.out (by omega)
      obtain ⟨x0, x1, x2⟩ := pcs_cells hA hcell hlt HB.out
      have hlen := formB_length (l.take k)
      have hbt := bulk_take l k
      have hsz := bulk_getD hlt
      have hBr : B ≤ wr.heap.size := Nat.le_trans hB HB.out.size
      have HF := Lib.hid (formB_succ l k hlt)
      have hvx := HV.out k hlt
      clear hcell
      generalize l.getD k nil = x at x0 x1 x2 hsz HF hvx
      have hO1 := HO.out
      generalize hL : bs ++ formB (l.take k) = L at hO1
      have hLl : L.length ≤ 50000000 := by rw [← hL, List.length_append]; omega
      have HL := Lib.hid hL; clear hL
      have HO1 := Lib.hid (hO1.step (below_box (pcC x)))
      have HB1 := Lib.hid (HB.out.alloc hBr (pcC x))
      have HX := Lib.hid (Boxed.new wr x)
      have hBa : B ≤ (wr.alloc (pcC x)).heap.size := Nat.le_trans hBr (below_box _).size
      have HN1 := Lib.hid (HN.out.below hB5 HB1.out)
      clear hO1
      by_cases hk1 : x.k = 1
      · have hwB : wB x = esc x.s.data.toList := by unfold wB; rw [if_pos hk1]
        have cA := appendText_any B _ L x.s _ HO1.out (by omega) (by omega) hBa
        unfold pcC at cA HB1
        have hkb : (x.k == 1) = true := by simpa using hk1
        rw [hwB] at HF
        have HK := Lib.hid hk1
        clear hk1 hwB
        go_wp2_with (go_at_call 58; (with_reducible refine cA.mono ?_); rintro e w2 ⟨v2, rfl, hO2, hb2⟩; have HO2 := Lib.hid hO2; have HB2 := Lib.hid (HB1.out.trans hb2); clear hO2 hb2)
        go_roundw
        case rel => exact ⟨k + 1, by omega, by go_num, (by show OwnB _ _ _ _; rw [HF.out, ← List.append_assoc, HL.out]; exact HO2.out), HB2.out⟩
        case measure => simp [intOf]; omega
      · have cM := writeMark_any x _ (by omega) HN1.out hvx hk1
        unfold pcC at cM HB1 HX
        unfold pcV at cM
        have hkb : (x.k == 1) = false := by simpa using hk1
        have hwl := wB_length x
        have hbl : (bytes (wB x)).size = (wB x).length := by unfold bytes; simp [ByteArray.size]
        have HK := Lib.hid hk1
        clear hk1
        go_wp2_with (first
          | (go_at_call 59; (with_reducible refine cM.mono ?_); rintro e w2 ⟨rfl, hb2⟩; have hown2 := HO1.out.step hb2; unfold OwnB at hown2; have HB2 := Lib.hid (HB1.out.trans (hb2.mono hBa)); have hB2 : B ≤ w2.heap.size := Nat.le_trans hBa hb2.size; clear hb2)
          | (at_builtin; refine Lib.wpList_append_own_string _ rfl _ _ 57 9 rfl B 5 i0 Tryz.underlying57 Tryz.underlying9 hi hz0 hz1 hz2 _ _ _ rfl hown2 (bytes (wB x)) rfl (by unfold maxLen; omega) (by omega) (by omega) ?_; intro v3 w3 hown3 hgrow3 hnil3
             have HB3 := Lib.hid (HB2.out.grown hgrow3 hB2 (fun k hk => (hown2.lt k hk).1))
             have HO3 := Lib.hid (OwnB.more (l := L) (m := wB x) (by rw [hbl] at hown3; exact hown3))
             clear hown2 hown3 hgrow3 hnil3))
        go_roundw
        case rel => exact ⟨k + 1, by omega, by go_num, (by show OwnB _ _ _ _; rw [HF.out, ← List.append_assoc, HL.out]; exact HO3.out), HB3.out⟩
        case measure => simp [intOf]; omega
    · have hE : l.take k = l := List.take_of_length_le (by omega)
      rw [hE] at HO
      go_wp2
      go_ret
      exact ⟨_, rfl, HO.out, HB.out⟩
theorem all_valid {l : List Pc} (h : checkE l = 0) : ∀ i, i < l.length → pieceE (l.getD i nil) = 0 := by
  unfold checkE at h
  split at h
  · cases h
  · split at h
    · rename_i e he
      subst h
      intro i hi
      exfalso
      have key : ∀ n op, runC l n = op → op ≠ .error 0 := by
        intro n
        induction n with
        | zero => intro op h; subst h; simp [runC]
        | succ n ih =>
          intro op h hop
          subst h
          simp only [runC] at hop
          cases e : runC l n with
          | error x => rw [e] at hop; exact ih _ rfl (by rw [e]; exact hop)
          | ok o =>
            rw [e] at hop
            have hop' : (if hereE l n ≠ 0 then Except.error (hereE l n) else folE o (l.getD n nil)) = Except.error 0 := hop
            split at hop'
            · rename_i hh; injection hop' with h0; exact hh h0
            · unfold folE at hop'
              split at hop'
              · split at hop' <;> cases hop'
              · split at hop'
                · split at hop' <;> cases hop'
                · cases hop'
      exact key _ _ rfl he
    · rename_i op ho
      exact pieceE_zero ho
theorem short_mem {l : List Pc} (h : bulk l ≤ 100000) : ∀ x ∈ l, x.s.size ≤ maxLen := by
  intro x hx
  obtain ⟨i, hi, rfl⟩ := List.getElem_of_mem hx
  have := bulk_get hi
  unfold maxLen; omega
/-- a slice of bytes that the call owns, as a string -/
theorem convert_own {B : Nat} {v : Value} {l : List UInt8} {w : World} (h : OwnB B v l w) : (convert 57 9 v).run Tryz.prog w = .ok (.string (bytes l)) w := by
  rcases h.2 with ⟨rfl, h0⟩ | ⟨g, cap, cur, rfl, _⟩
  · obtain rfl : l = [] := List.eq_nil_of_length_eq_zero h0
    exact Lib.run_convert_nil_bytes w _ _ 5 0 Tryz.underlying57 Tryz.underlying5 Tryz.underlying9
  · have hc := World.ownsRow.cells h (g := g) rfl
    exact run_convert_bytes_back w _ _ 5 ⟨g, 0, none⟩ cap l Tryz.underlying57 Tryz.underlying5 Tryz.underlying9 (by intro j hj; exact hc j _ (by simp [Lib.byteCells, hj]))
set_option maxHeartbeats 4000000 in
theorem write_any (l : List Pc) (v : Value) (w : World) (hv : PcsAt w v l) (hb : bulk l ≤ 100000) (hT : Tabs w) (hN : Nts w) :
    Calls Tryz.prog 8 #[v] w fun e w' => e = .returned (.tuple #[.string (bytes (writeB l)), .int .u8 (writeE l)]) ∧ Below w.heap.size w w' := by
  have cC := checkPieces_any l v w hv (short_mem hb) hT
  have HEB := Lib.hid (show writeB l = if checkE l ≠ 0 then [] else if 65536 < (formB l).length then [] else formB l from rfl)
  have HEE := Lib.hid (show writeE l = if checkE l ≠ 0 then checkE l else if 65536 < (formB l).length then 3 else 0 from rfl)
  have hlen := formB_length l
  by_cases hE : checkE l = 0
  · have hall := all_valid hE
    have HH := Lib.hid hE
    rw [hE] at cC
    clear hE
    have cA := fun w1 (h1 : Below w.heap.size w w1) => appendPieces_any w.heap.size l (.slice none 0 0) v [] w1 (OwnB.nil _ _) (SliceAt.below h1 hv) hT.2.2 h1.size (hN.step h1) hall (by simp) (by omega)
    by_cases hbig : 65536 < (formB l).length
    · have hI : (65536 : Int) < ((formB l).length : Int) := by omega
      have hbb := Lib.hid hbig
      clear hbig
      go_enter Tryz.func8, Tryz.ntmps8
      go_wp2_with (first
        | (go_at_call 10; (with_reducible refine cC.mono ?_); rintro e w1 ⟨rfl, hb1⟩)
        | (go_at_call 25; (with_reducible refine (cA w1 hb1).mono ?_); rintro e w2 ⟨v2, rfl, hO2, hb2⟩; rw [List.nil_append] at hO2; obtain ⟨ao, cap, rfl⟩ := hO2.form; have HO2 := Lib.hid hO2; have HB2 := Lib.hid (hb1.trans hb2); clear hO2 hb1 hb2))
      go_ret2
      exact ⟨by rw [HEB.out, HEE.out]; simp [HH.out, hbb.out]; rfl, HB2.out⟩
    · have hI : ¬ (65536 : Int) < ((formB l).length : Int) := by omega
      have hbb := Lib.hid hbig
      clear hbig
      go_enter Tryz.func8, Tryz.ntmps8
      go_wp2_with (first
        | (go_at_call 10; (with_reducible refine cC.mono ?_); rintro e w1 ⟨rfl, hb1⟩)
        | (go_at_call 25; (with_reducible refine (cA w1 hb1).mono ?_); rintro e w2 ⟨v2, rfl, hO2, hb2⟩; rw [List.nil_append] at hO2; obtain ⟨ao, cap, rfl⟩ := hO2.form; have hcv := convert_own hO2; have HB2 := Lib.hid (hb1.trans hb2); clear hO2 hb1 hb2))
      go_ret2
      exact ⟨by rw [HEB.out, HEE.out]; simp [HH.out, hbb.out], HB2.out⟩
  · generalize hZ : checkE l = Z at cC HEB HEE hE
    have hz : (Z == 0) = false := by simpa using hE
    have HZ := Lib.hid hE
    clear hE hZ
    go_enter Tryz.func8, Tryz.ntmps8
    go_wp2_with (go_at_call 10; (with_reducible refine cC.mono ?_); rintro e w1 ⟨rfl, hb1⟩)
    go_ret2
    exact ⟨by rw [HEB.out, HEE.out]; simp [HZ.out]; rfl, hb1⟩
end Go.Proofs.YtcgghmpafphcpaaGreatDoor
