/- A list of pieces in memory; which lists are valid, as the program tells it. -/
import Derived.Test.YtcgghmpafphcpaaGreatDoorDp4
import Derived.Deep.RegionHeld3
namespace Go.Proofs.YtcgghmpafphcpaaGreatDoor
open Go Go.RowKit
set_option maxRecDepth 100000
theorem add_block (A : Addr) (k : Nat) : (A.add k).block = A.block := by unfold Addr.add; split <;> rfl
theorem cell_off {w : World} {a : Addr} {n d : Nat} {v : Value} (hd : 0 < d) (h : w.cell? (a.add (n + d)) = some v) : w.cell? { block := (a.add n).block, off := (a.add n).off + d } = some v := by
  have e : ({ block := (a.add n).block, off := (a.add n).off + d } : Addr) = a.add (n + d) := by
    unfold Addr.add
    by_cases h0 : n = 0
    · subst h0; simp; omega
    · simp [h0]; omega
  rw [e]; exact h
def SliceAt (B : Nat) (w : World) (v : Value) (n sz : Nat) (f : Nat → Nat → Value) : Prop :=
  ∃ (p : Option Addr) (cap : Nat), v = .slice p n cap ∧ n ≤ cap ∧ cap ≤ maxLen ∧
    (0 < n → ∃ A, p = some A ∧ A.block < B ∧ ∀ i j, i < n → j < sz → w.cell? (A.add (i * sz + j)) = some (f i j))
theorem SliceAt.below {B : Nat} {w w' : World} {v : Value} {n sz : Nat} {f : Nat → Nat → Value} (hb : Below B w w') (h : SliceAt B w v n sz f) : SliceAt B w' v n sz f := by
  obtain ⟨p, cap, e, h1, h2, h3⟩ := h
  refine ⟨p, cap, e, h1, h2, fun hn => ?_⟩
  obtain ⟨A, e, hA, hc⟩ := h3 hn
  exact ⟨A, e, hA, fun i j hi hj => by rw [hb.cell (by rw [add_block]; exact hA)]; exact hc i j hi hj⟩
theorem SliceAt.mono {B B' : Nat} {w : World} {v : Value} {n sz : Nat} {f : Nat → Nat → Value} (hB : B ≤ B') (h : SliceAt B w v n sz f) : SliceAt B' w v n sz f := by
  obtain ⟨p, cap, e, h1, h2, h3⟩ := h
  refine ⟨p, cap, e, h1, h2, fun hn => ?_⟩
  obtain ⟨A, e, hA, hc⟩ := h3 hn
  exact ⟨A, e, by omega, hc⟩
def pcF (l : List Pc) (i j : Nat) : Value := if j = 0 then .int .u8 (l.getD i nil).k else if j = 1 then .string (l.getD i nil).s else .bool (l.getD i nil).c
/-- a list of pieces lies in memory -/
def PcsAt (w : World) (v : Value) (l : List Pc) : Prop := SliceAt w.heap.size w v l.length 3 (pcF l)
theorem PcsAt.step {w w' : World} {v : Value} {l : List Pc} (hb : Below w.heap.size w w') (h : PcsAt w v l) : PcsAt w' v l := (SliceAt.below hb h).mono hb.size
theorem run_here {l : List Pc} {k : Nat} {op : List ByteArray} (h : runC l k = .ok op) (he : hereE l k ≠ 0) : runC l (k + 1) = .error (hereE l k) := by
  simp only [runC, h]
  rw [if_pos he]
theorem run_fine {l : List Pc} {k : Nat} {op : List ByteArray} (h : runC l k = .ok op) (he : hereE l k = 0) : runC l (k + 1) = folE op (l.getD k nil) := by
  simp only [runC, h]
  rw [if_neg (by rw [he]; simp)]
theorem here_piece {l : List Pc} {k : Nat} (he : pieceE (l.getD k nil) ≠ 0) : hereE l k = pieceE (l.getD k nil) := by
  unfold hereE; rw [if_pos he]
theorem here_first {l : List Pc} (he : pieceE (l.getD 0 nil) = 0) : hereE l 0 = 0 := by
  unfold hereE; rw [if_neg (by rw [he]; simp), if_pos rfl]
theorem here_nbr {l : List Pc} {k : Nat} (h0 : pieceE (l.getD k nil) = 0) (hk : k ≠ 0) : hereE l k = nbrE (l.getD (k - 1) nil) (l.getD k nil) := by
  unfold hereE; rw [if_neg (by rw [h0]; simp), if_neg hk]
theorem run_piece {l : List Pc} {k : Nat} {op : List ByteArray} (h : runC l k = .ok op) (he : pieceE (l.getD k nil) ≠ 0) : runC l (k + 1) = .error (pieceE (l.getD k nil)) := by
  have e := here_piece he
  rw [run_here h (by rw [e]; exact he), e]
theorem run_nbr {l : List Pc} {k : Nat} {op : List ByteArray} (h : runC l k = .ok op) (h0 : pieceE (l.getD k nil) = 0) (hk : k ≠ 0) (he : nbrE (l.getD (k - 1) nil) (l.getD k nil) ≠ 0) : runC l (k + 1) = .error (nbrE (l.getD (k - 1) nil) (l.getD k nil)) := by
  have e := here_nbr h0 hk
  rw [run_here h (by rw [e]; exact he), e]
theorem run_fol {l : List Pc} {k : Nat} {op : List ByteArray} (h : runC l k = .ok op) (h0 : pieceE (l.getD k nil) = 0) (hk : k = 0 ∨ nbrE (l.getD (k - 1) nil) (l.getD k nil) = 0) : runC l (k + 1) = folE op (l.getD k nil) := by
  refine run_fine h ?_
  rcases Nat.eq_zero_or_pos k with rfl | hp
  · exact here_first h0
  · rcases hk with hk | hk
    · omega
    · rw [here_nbr h0 (by omega), hk]
theorem folE_len {op op' : List ByteArray} {x : Pc} (h : folE op x = .ok op') : op'.length ≤ op.length + 1 := by
  unfold folE at h
  split at h
  · split at h
    · cases h
    · cases h; simp
  · split at h
    · split at h
      · cases h; simp; omega
      · cases h
    · cases h; omega
theorem runC_len {l : List Pc} : ∀ {k : Nat} {op : List ByteArray}, runC l k = .ok op → op.length ≤ k := by
  intro k
  induction k with
  | zero => intro op h; cases h; simp
  | succ k ih =>
    intro op h
    simp only [runC] at h
    cases e : runC l k with
    | error x => rw [e] at h; cases h
    | ok o =>
      rw [e] at h
      have := ih e
      have h' : (if hereE l k ≠ 0 then Except.error (hereE l k) else folE o (l.getD k nil)) = Except.ok op := h
      split at h'
      · cases h'
      · have := folE_len h'; omega
theorem getD_mem {l : List Pc} {k : Nat} (hk : k < l.length) : l.getD k nil ∈ l := by
  rw [List.getD_eq_getElem?_getD, List.getElem?_eq_getElem hk]; exact List.getElem_mem hk
def FolZ (r : Except Int (List ByteArray)) (B b : Nat) (z : Int) (w : World) : Prop := match r with
  | .error z0 => z = z0 ∧ (z == 0) = false
  | .ok op => z = 0 ∧ StackAt B b op w
theorem folZ {B b : Nat} {op : List ByteArray} {x : Pc} {z : Int} {w : World} (h : (folE op x = .error z ∧ z ≠ 0) ∨ (z = 0 ∧ ∃ op', folE op x = .ok op' ∧ StackAt B b op' w)) : FolZ (folE op x) B b z w := by
  rcases h with ⟨h, h0⟩ | ⟨rfl, op', h, hs⟩
  · rw [h]; exact ⟨rfl, by simpa using h0⟩
  · rw [h]; exact ⟨rfl, hs⟩
set_option maxHeartbeats 8000000 in
theorem checkPieces_any (l : List Pc) (v : Value) (w : World) (hv : PcsAt w v l) (hs : ∀ x ∈ l, x.s.size ≤ maxLen) (hT : Tabs w) :
    Calls Tryz.prog 10 #[v] w fun e w' => e = .returned (.int .u8 (checkE l)) ∧ Below w.heap.size w w' := by
  obtain ⟨p, cap, rfl, hl, hc, hrow⟩ := hv
  unfold maxLen at hc
  have ag := Tryz.isAgg39
  have zg := Tryz.sizeOf39
  by_cases h512 : 512 < l.length
  · have HE := Lib.hid (checkE_limit h512)
    have hI : (512 : Int) < (l.length : Int) := by omega
    clear hrow
    go_enter Tryz.func10, Tryz.ntmps10
    go_wp2
    go_ret
    exact ⟨ret_u8 HE.out.symm, Below.refl _ _⟩
  have hI : ¬ (512 : Int) < (l.length : Int) := by omega
  have HR := Lib.hid hrow
  have HS := Lib.hid hs
  have HT := Lib.hid hT
  clear hrow hs hT
  go_enter Tryz.func10, Tryz.ntmps10
  go_wp2
  go_loopw [14] (fun i wr => ∃ (k : Nat) (op : List ByteArray), k ≤ l.length ∧ i = .int .i64 k ∧ Hid (runC l k = .ok op) ∧ Hid (StackAt w.heap.size w.heap.size op wr) ∧ Hid (Below w.heap.size w wr) ∧ w.heap.size < wr.heap.size) (fun i _ => l.length - (intOf i).toNat)
  case atStart => exact ⟨0, [], Nat.zero_le _, rfl, rfl, StackAt.new w, below_box _, by simp⟩
  case round =>
    obtain ⟨k, op, hk, rfl, HQ, HK, HB, hsz⟩ := hrel
    by_cases hlt : k < l.length
    · obtain ⟨A, rfl, hA, hcell⟩ := HR.out (by omega)
      have hAb : (A.add (k * 3)).block < w.heap.size := by rw [add_block]; exact hA
      have x0 : wr.cell? (A.add (k * 3)) = some (.int .u8 (l.getD k nil).k) := by
        rw [HB.out.cell hAb]; have := hcell k 0 hlt (by omega); simpa [pcF] using this
      have x1 : wr.cell? { block := (A.add (k * 3)).block, off := (A.add (k * 3)).off + 1 } = some (.string (l.getD k nil).s) := by
        rw [HB.out.cell (p := { block := (A.add (k * 3)).block, off := (A.add (k * 3)).off + 1 }) hAb]; have := cell_off (by omega) (hcell k 1 hlt (by omega)); simpa [pcF] using this
      have x2 : wr.cell? { block := (A.add (k * 3)).block, off := (A.add (k * 3)).off + 2 } = some (.bool (l.getD k nil).c) := by
        rw [HB.out.cell (p := { block := (A.add (k * 3)).block, off := (A.add (k * 3)).off + 2 }) hAb]; have := cell_off (by omega) (hcell k 2 hlt (by omega)); simpa [pcF] using this
      have cP := checkPiece_any (l.getD k nil) (wr.alloc (pcC (l.getD k nil))) (HS.out _ (getD_mem hlt)) (HT.out.step (below_next HB.out (below_box _)))
      have HP0 := Lib.hid (fun (he : pieceE (l.getD k nil) ≠ 0) => run_piece HQ.out he)
      have HP1 := Lib.hid (fun (h0 : pieceE (l.getD k nil) = 0) (hk : k ≠ 0) => run_nbr HQ.out h0 hk)
      have HP2 := Lib.hid (fun (h0 : pieceE (l.getD k nil) = 0) => run_fol HQ.out h0)
      have hX0 := Boxed.new wr (l.getD k nil)
      have hcellp := fun (h : 0 < k) => hcell (k - 1)
      generalize l.getD k nil = x at x0 x1 x2 cP HP0 HP1 HP2 hX0
      have HX0 := Lib.hid hX0; clear hX0
      have HBX := Lib.hid (below_next HB.out (below_box (w := wr) (pcC x)))
      have HKX := Lib.hid (HK.out.step (below_box (w := wr) (pcC x)))
      unfold pcV pcC at cP
      unfold pcC at HBX HX0 HKX
      clear hcell
      by_cases he : pieceE x = 0
      · rw [he] at cP
        have hlen := runC_len HQ.out
        have cF := fun wr h hB => follow_any w.heap.size w.heap.size op x wr h (by omega) hB
        unfold pcV at cF
        have HFR := Lib.hid (fun hn => HP2.out he hn)
        by_cases hk0 : k = 0
        · have HF0 := Lib.hid (HFR.out (.inl hk0))
          have hkd : decide (0 < k) = false := by simp; omega
          clear hk0 hcellp
          cases hfo : folE op x with
          | error z0 =>
            have HFO := Lib.hid hfo
            have HE := Lib.hid (checkE_error h512 (HF0.out.trans hfo) (by omega))
            go_wp2_with (first
              | (go_at_call 27; (with_reducible refine cP.mono ?_); rintro e w2 ⟨rfl, hb2⟩; have HX2 := Lib.hid (HX0.out.step hb2); have HB2 := Lib.hid (below_next HBX.out hb2); have HK2 := Lib.hid (HKX.out.step hb2); clear hb2; obtain ⟨b0, b1, b2, b3⟩ := HX2.out)
              | (go_at_call 29; (with_reducible refine (cF w2 HK2.out HB2.out.size).mono ?_); rintro e w4 ⟨⟨z, rfl, hz⟩, hb4, hz4⟩; have HB4 := Lib.hid (HB2.out.trans hb4); have HZ4 := Lib.hid (Nat.lt_of_lt_of_le HK2.out.lt hz4); have HZ := Lib.hid (folZ hz); clear hb4 hz4 hz; rw [HFO.out] at HZ; obtain ⟨rfl, hzb⟩ := HZ.out))
            go_ret
            exact ⟨ret_u8 HE.out.symm, HB4.out⟩
          | ok op2 =>
            have HFO := Lib.hid hfo
            have HE := Lib.hid (HF0.out.trans hfo)
            go_wp2_with (first
              | (go_at_call 27; (with_reducible refine cP.mono ?_); rintro e w2 ⟨rfl, hb2⟩; have HX2 := Lib.hid (HX0.out.step hb2); have HB2 := Lib.hid (below_next HBX.out hb2); have HK2 := Lib.hid (HKX.out.step hb2); clear hb2; obtain ⟨b0, b1, b2, b3⟩ := HX2.out)
              | (go_at_call 29; (with_reducible refine (cF w2 HK2.out HB2.out.size).mono ?_); rintro e w4 ⟨⟨z, rfl, hz⟩, hb4, hz4⟩; have HB4 := Lib.hid (HB2.out.trans hb4); have HZ4 := Lib.hid (Nat.lt_of_lt_of_le HK2.out.lt hz4); have HZ := Lib.hid (folZ hz); clear hb4 hz4 hz; rw [HFO.out] at HZ; obtain ⟨rfl, hsk⟩ := HZ.out; have HSK := Lib.hid hsk; clear hsk))
            go_roundw
            case rel => exact ⟨k + 1, op2, by omega, by go_num, HE.out, HSK.out, HB4.out, HZ4.out⟩
            case measure => simp [intOf]; omega
        · have hkd : decide (0 < k) = true := by simp; omega
          have hwr : IntKind.i64.wrap ((k : Int) - 1) = ((k - 1 : Nat) : Int) := by rw [IntKind.wrap_i64]; omega
          have hix1 : ((k - 1 : Nat) : Int) < (l.length : Int) := by omega
          have hix2 : (0 : Int) ≤ ((k - 1 : Nat) : Int) := by omega
          have hix3 : k - 1 < l.length := by omega
          have hAb1 : (A.add ((k - 1) * 3)).block < w.heap.size := by rw [add_block]; exact hA
          have HN1 := Lib.hid (HP1.out he hk0)
          have hk1 : 0 < k := by omega
          have HC0 := Lib.hid (show w.cell? (A.add ((k - 1) * 3 + 0)) = some (.int .u8 (l.getD (k - 1) nil).k) from hcellp hk1 0 hix3 (by omega))
          have HC1 := Lib.hid (show w.cell? (A.add ((k - 1) * 3 + 1)) = some (.string (l.getD (k - 1) nil).s) from hcellp hk1 1 hix3 (by omega))
          have HC2 := Lib.hid (show w.cell? (A.add ((k - 1) * 3 + 2)) = some (.bool (l.getD (k - 1) nil).c) from hcellp hk1 2 hix3 (by omega))
          clear hcellp HP1
          have cN := fun wr => checkNeighbours_any (l.getD (k - 1) nil) x wr
          generalize l.getD (k - 1) nil = a at HN1 HFR HC0 HC1 HC2 cN
          unfold pcV at cN
          go_wp2_with (go_at_call 27; (with_reducible refine cP.mono ?_); rintro e w2 ⟨rfl, hb2⟩; have HX2 := Lib.hid (HX0.out.step hb2); have HB2 := Lib.hid (below_next HBX.out hb2); have HK2 := Lib.hid (HKX.out.step hb2); clear hb2; obtain ⟨b0, b1, b2, b3⟩ := HX2.out)
          have y0 : w2.cell? (A.add ((k - 1) * 3)) = some (.int .u8 a.k) := by
            rw [HB2.out.cell hAb1]; simpa using HC0.out
          have y1 : w2.cell? { block := (A.add ((k - 1) * 3)).block, off := (A.add ((k - 1) * 3)).off + 1 } = some (.string a.s) := by
            rw [HB2.out.cell (p := { block := (A.add ((k - 1) * 3)).block, off := (A.add ((k - 1) * 3)).off + 1 }) hAb1]; simpa using cell_off (by omega) HC1.out
          have y2 : w2.cell? { block := (A.add ((k - 1) * 3)).block, off := (A.add ((k - 1) * 3)).off + 2 } = some (.bool a.c) := by
            rw [HB2.out.cell (p := { block := (A.add ((k - 1) * 3)).block, off := (A.add ((k - 1) * 3)).off + 2 }) hAb1]; simpa using cell_off (by omega) HC2.out
          clear x0 x1 x2
          have hw2 : w.heap.size ≤ w2.heap.size := HB2.out.size
          go_region_held3 (fun w' => w'.cell? (A.add ((k - 1) * 3)) = some (.int .u8 a.k) ∧ w'.cell? { block := (A.add ((k - 1) * 3)).block, off := (A.add ((k - 1) * 3)).off + 1 } = some (.string a.s) ∧ w'.cell? { block := (A.add ((k - 1) * 3)).block, off := (A.add ((k - 1) * 3)).off + 2 } = some (.bool a.c) ∧ w'.cell? ⟨wr.heap.size, 0, none⟩ = some (.int .u8 x.k) ∧ w'.cell? ⟨wr.heap.size, 1, none⟩ = some (.string x.s) ∧ w'.cell? ⟨wr.heap.size, 2, none⟩ = some (.bool x.c))
            (first
              | go_keep
              | (refine ⟨?_, ?_, ?_, ?_, ?_, ?_⟩
                 · (rw [hb3.cell (p := A.add ((k - 1) * 3)) (by show _ < w2.heap.size; omega)]; assumption)
                 · (rw [hb3.cell (p := { block := (A.add ((k - 1) * 3)).block, off := (A.add ((k - 1) * 3)).off + 1 }) (by show _ < w2.heap.size; show (A.add ((k - 1) * 3)).block < _; omega)]; assumption)
                 · (rw [hb3.cell (p := { block := (A.add ((k - 1) * 3)).block, off := (A.add ((k - 1) * 3)).off + 2 }) (by show _ < w2.heap.size; show (A.add ((k - 1) * 3)).block < _; omega)]; assumption)
                 · (rw [hb3.cell (p := ⟨wr.heap.size, 0, none⟩) (by show _ < w2.heap.size; exact b3)]; assumption)
                 · (rw [hb3.cell (p := ⟨wr.heap.size, 1, none⟩) (by show _ < w2.heap.size; exact b3)]; assumption)
                 · (rw [hb3.cell (p := ⟨wr.heap.size, 2, none⟩) (by show _ < w2.heap.size; exact b3)]; assumption)))
            ((go_simp; go_at_call 28; (with_reducible refine (cN _).mono ?_); rintro e w3 ⟨rfl, hb3⟩))
          rename_i hHeld
          have HX3 := Lib.hid (Boxed.step (wr := w2.drew) hb3 HX2.out)
          have HB3 := Lib.hid (below_next (wr := w2.drew) HB2.out.drew hb3)
          have HK3 := Lib.hid (StackAt.step (w := w2.drew) hb3 HK2.out)
          clear hHeld hb3 y0 y1 y2 b0 b1 b2 b3 HX2 HB2 HK2 HX0 HBX HKX
          obtain ⟨b0, b1, b2, b3⟩ := HX3.out
          by_cases hn : nbrE a x = 0
          · rw [hn]
            have HF0 := Lib.hid (HFR.out (.inr hn))
            cases hfo : folE op x with
            | error z0 =>
              have HFO := Lib.hid hfo
              have HE := Lib.hid (checkE_error h512 (HF0.out.trans hfo) (by omega))
              go_wp2_with (go_at_call 29; (with_reducible refine (cF w3 HK3.out HB3.out.size).mono ?_); rintro e w4 ⟨⟨z, rfl, hz⟩, hb4, hz4⟩; have HB4 := Lib.hid (HB3.out.trans hb4); have HZ4 := Lib.hid (Nat.lt_of_lt_of_le HK3.out.lt hz4); have HZ := Lib.hid (folZ hz); clear hb4 hz4 hz; rw [HFO.out] at HZ; obtain ⟨rfl, hzb⟩ := HZ.out)
              go_ret
              exact ⟨ret_u8 HE.out.symm, HB4.out⟩
            | ok op2 =>
              have HFO := Lib.hid hfo
              have HE := Lib.hid (HF0.out.trans hfo)
              go_wp2_with (go_at_call 29; (with_reducible refine (cF w3 HK3.out HB3.out.size).mono ?_); rintro e w4 ⟨⟨z, rfl, hz⟩, hb4, hz4⟩; have HB4 := Lib.hid (HB3.out.trans hb4); have HZ4 := Lib.hid (Nat.lt_of_lt_of_le HK3.out.lt hz4); have HZ := Lib.hid (folZ hz); clear hb4 hz4 hz; rw [HFO.out] at HZ; obtain ⟨rfl, hsk⟩ := HZ.out; have HSK := Lib.hid hsk; clear hsk)
              go_roundw
              case rel => exact ⟨k + 1, op2, by omega, by go_num, HE.out, HSK.out, HB4.out, HZ4.out⟩
              case measure => simp [intOf]; omega
          · have HE := Lib.hid (checkE_error h512 (HN1.out hn) (by omega))
            generalize nbrE a x = E at HE hn
            have hE0 : (E == 0) = false := by simpa using hn
            go_wp2
            go_ret
            exact ⟨ret_u8 HE.out.symm, HB3.out⟩
      · generalize hE : pieceE x = E at cP
        have hE0 : (E == 0) = false := by rw [← hE]; simpa using he
        have HE := Lib.hid (checkE_error h512 (HP0.out he) (by omega))
        rw [hE] at HE
        clear hE
        go_wp2_with (go_at_call 27; (with_reducible refine cP.mono ?_); rintro e w2 ⟨rfl, hb2⟩; have HX2 := Lib.hid (HX0.out.step hb2); have HB2 := Lib.hid (below_next HBX.out hb2); have HK2 := Lib.hid (HKX.out.step hb2); clear hb2)
        go_ret
        exact ⟨ret_u8 HE.out.symm, HB2.out⟩
    · have hkl : k = l.length := by omega
      obtain ⟨ao, cap2, c0⟩ := HK.out.cell
      have HE := Lib.hid (checkE_ok h512 (hkl ▸ HQ.out))
      by_cases h0 : op = []
      · have hI0 : ¬ (0 : Int) < (op.length : Int) := by rw [h0]; simp
        go_wp2
        go_ret
        exact ⟨ret_u8 (by rw [HE.out, if_pos h0]), HB.out⟩
      · have hI0 : (0 : Int) < (op.length : Int) := by have := List.length_pos_iff.2 h0; omega
        go_wp2
        go_ret
        exact ⟨ret_u8 (by rw [HE.out, if_neg h0]), HB.out⟩
end Go.Proofs.YtcgghmpafphcpaaGreatDoor
