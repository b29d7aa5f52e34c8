/- Great ends with a bool, for any lexicon. -/
import Derived.Test.YtgddmegjncbndaaGreatDoorLex7
import Derived.RangeFuncBox
namespace Go.Proofs.YtgddmegjncbndaaGreatDoor
open Go Go.RowKit
theorem reads_grown {c : Nat} {w w' : World} {v : Value} {l : List Ft} (h : ReadsIn c w v l) (hg : w.grownBy w' (some c)) (hc : c ≤ w.heap.size) : ReadsIn c w' v l := by
  refine readsIn_below ⟨hg.os, hg.tape, hg.output, hg.size, fun k hk => hg.block k (by omega) (by simp; omega)⟩ h
theorem grown_drew {w w' : World} {r : Option Nat} (n : Nat) (h : w.grownBy w' r) : w.grownBy (w'.drewN n) r := ⟨h.os, h.tape, h.output, h.size, h.block⟩
theorem grown_trans {a b c : World} {r : Option Nat} (h : a.grownBy b r) (k : b.grownBy c r) : a.grownBy c r :=
  ⟨k.os.trans h.os, k.tape.trans h.tape, k.output.trans h.output, Nat.le_trans h.size k.size, fun i hi hr => (k.block i (Nat.lt_of_lt_of_le hi h.size) hr).trans (h.block i hi hr)⟩
theorem grown_alloc {w w' : World} {r : Option Nat} (h : w.grownBy w' r) (o : Obj) : w.grownBy (w'.alloc o) r := grown_trans h (World.grownBy_alloc w' o r)
theorem grown_refl (w : World) (r : Option Nat) : w.grownBy w r := ⟨rfl, rfl, rfl, Nat.le_refl _, fun _ _ _ => rfl⟩
theorem grown_set {w w' : World} {c : Nat} (h : w.grownBy w' (some c)) (v : Value) : w.grownBy (w'.setCell ⟨c, 0, none⟩ v) (some c) := grown_trans h (grownBy_setCell' w' c v)
theorem boxed_drew {w : World} {c t : Nat} {v : Value} (n : Nat) (h : Boxed w c t v) : Boxed (w.drewN n) c t v := h
set_option maxRecDepth 100000 in
set_option maxHeartbeats 4000000 in
theorem greatF_any (b : List Ft) (bv : Value) (c : Nat) (x : Int) (w : World) (hc : c ≤ w.heap.size) (hb : ReadsIn c w bv b) (hx : Boxed w c 3 (.int .i64 x)) :
    Calls Tryz.prog 32 #[bv, .pointer (some ⟨c, 0, none⟩)] w fun e w' => e = .returned undef ∧ w.grownBy w' (some c) ∧ ∃ y, Boxed w' c 3 (.int .i64 y) := by
  obtain ⟨q, capB, rfl, hcB, hmB, hrB⟩ := open_row hb
  unfold maxLen at hmB
  have HRB := Lib.hid hrB; clear hrB hb
  have HX := Lib.hid hx; clear hx
  have a61 := Tryz.isAgg61
  have z61 := Tryz.sizeOf61
  go_enter Tryz.func32, Tryz.ntmps32
  go_wp2
  go_loopw [3] (fun i wr => ∃ (k : Nat) (y : Int), k ≤ b.length ∧ i = .int .i64 k ∧ w.grownBy wr (some c) ∧ Boxed wr c 3 (.int .i64 y)) (fun i _ => b.length - (intOf i).toNat)
  case atStart => exact ⟨0, x, by omega, rfl, grown_refl _ _, HX.out⟩
  case round =>
    obtain ⟨k, y, hk, rfl, hg, hy⟩ := hrel
    rename World => wr
    have HG := Lib.hid hg; clear hg
    have HY := Lib.hid hy; clear hy
    have y0 := HY.out.cell
    have z0 := HY.out.frozen
    by_cases hlt : k < b.length
    · by_cases h100 : k < 100
      · obtain ⟨B, rfl, hbB, RB⟩ := HRB.out (by omega)
        obtain ⟨r1, r2⟩ := rowAt_below (w' := wr) (B := c) ⟨HG.out.os, HG.out.tape, HG.out.output, HG.out.size, fun j hj => HG.out.block j (by omega) (by simp; omega)⟩ (fun _ => hbB) RB k hlt
        replace r2 := cell_next r2
        clear RB
        go_wp2
        go_still_tail 16, (by kernel_rfl)
        go_wp2
        go_roundw
        case rel => exact ⟨k + 1, _, by omega, by go_num, grown_drew 1 (grown_set HG.out _), HY.out.set _⟩
        case measure => simp [intOf]; omega
      · have h100b : ¬ (k : Int) < 100 := by omega
        go_wp2
        go_end0
        exact ⟨rfl, grown_set HG.out _, _, HY.out.set _⟩
    · go_wp2
      go_end0
      exact ⟨rfl, grown_set HG.out _, _, HY.out.set _⟩
/-- What holds while Great counts: the count's own block holds an int, all else is as it was. -/
def GreatAt (L : Lex) (w wr : World) : Prop := ((w.alloc (boxed L)).alloc (.cells #[.int .i64 L.vowels.size] 3)).grownBy wr (some (w.heap.size + 1)) ∧ ∃ y, Boxed wr (w.heap.size + 1) 3 (.int .i64 y)
theorem GreatAt.below {L : Lex} {w wr : World} (h : GreatAt L w wr) : Below w.heap.size w wr := by
  have h0 : Below w.heap.size w ((w.alloc (boxed L)).alloc (.cells #[.int .i64 L.vowels.size] 3)) := (below_one w (boxed L)).alloc (by simp) _
  exact h0.trans ⟨h.1.os, h.1.tape, h.1.output, h.1.size, fun j hj => h.1.block j (by simp; omega) (by simp; omega)⟩
theorem GreatAt.box {L : Lex} {w wr : World} (h : GreatAt L w wr) (i : Nat) : wr.cell? ⟨w.heap.size, i, none⟩ = (#[.string L.vowels, L.tv, L.cv, L.ev, L.sv, L.lv] : Array Value)[i]? := by
  have e : wr.heap[w.heap.size]? = (w.alloc (boxed L)).heap[w.heap.size]? := (h.1.block w.heap.size (by simp; omega) (by simp)).trans (by
    have h0 := (Below.refl (w.alloc (boxed L)).heap.size (w.alloc (boxed L))).alloc (Nat.le_refl _) (.cells #[.int .i64 L.vowels.size] 3)
    exact h0.block w.heap.size (by simp))
  rw [World.cell?_of_block (w := w.alloc (boxed L)) (w' := wr) (a := ⟨w.heap.size, i, none⟩) e]
  exact World.cell?_alloc_new w _ _ _
theorem GreatAt.drew {L : Lex} {w wr : World} (n : Nat) (h : GreatAt L w wr) : GreatAt L w (wr.drewN n) := ⟨grown_drew n h.1, h.2⟩
theorem GreatAt.drew1 {L : Lex} {w wr : World} (h : GreatAt L w wr) : GreatAt L w wr.drew := h.drew 1
theorem GreatAt.set {L : Lex} {w wr : World} (h : GreatAt L w wr) (x : Int) : GreatAt L w (wr.setCell ⟨w.heap.size + 1, 0, none⟩ (.int .i64 x)) := by
  obtain ⟨h1, y, hy⟩ := h
  exact ⟨grown_set h1 _, x, hy.set _⟩
theorem GreatAt.alloc {L : Lex} {w wr : World} (h : GreatAt L w wr) (o : Obj) : GreatAt L w (wr.alloc o) := by
  obtain ⟨h1, y, hy⟩ := h
  exact ⟨grown_alloc h1 o, y, hy.alloc o⟩
theorem GreatAt.more {L : Lex} {w wr wx : World} (h : GreatAt L w wr) (hg : wr.grownBy wx (some (w.heap.size + 1))) (hy : ∃ y, Boxed wx (w.heap.size + 1) 3 (.int .i64 y)) : GreatAt L w wx := ⟨grown_trans h.1 hg, hy⟩
theorem GreatAt.size {L : Lex} {w wr : World} (h : GreatAt L w wr) : w.heap.size + 2 ≤ wr.heap.size := by have := h.1.size; simp at this; omega
theorem GreatAt.feats {L : Lex} {w wr : World} {fv : Value} {fs : List Ft} (h : GreatAt L w wr) (hr : ReadsIn w.heap.size w fv fs) :
    Calls Tryz.prog 32 #[fv, .pointer (some ⟨w.heap.size + 1, 0, none⟩)] wr fun e w' => e = .returned undef ∧ GreatAt L w w' ∧ wr.grownBy w' (some (w.heap.size + 1)) := by
  obtain ⟨y, hy⟩ := h.2
  refine (greatF_any fs fv (w.heap.size + 1) y wr (by have := h.size; omega) (readsIn_mono (by omega) (readsIn_below h.below hr)) hy).mono ?_
  rintro e w' ⟨rfl, h1, h2⟩
  exact ⟨rfl, h.more h1 h2, h1⟩
theorem set_other {wr : World} {c b i : Nat} {u : Value} (h : wr.cell? ⟨b, i, none⟩ = some u) (hne : b ≠ c) (v : Value) : (wr.setCell ⟨c, 0, none⟩ v).cell? ⟨b, i, none⟩ = some u := by
  rw [World.cell?_setCell_other wr ⟨c, 0, none⟩ ⟨b, i, none⟩ v (fun e => hne (by cases e; rfl))]; exact h
theorem set_new {wr : World} {cs : Array Value} {u : Value} (c : Nat) (v : Value) (t : TypeId) (i : Nat) (h : cs[i]? = some u) : ((wr.setCell ⟨c, 0, none⟩ v).alloc (.cells cs t)).cell? ⟨wr.heap.size, i, none⟩ = some u := by
  have e : (wr.setCell ⟨c, 0, none⟩ v).heap.size = wr.heap.size := by simp [World.setCell]
  have := World.cell?_alloc_new (wr.setCell ⟨c, 0, none⟩ v) cs t i
  rw [e] at this
  rw [this]; exact h
theorem grown_cell {wr wx : World} {c b i : Nat} {u : Value} (h : wr.cell? ⟨b, i, none⟩ = some u) (hg : wr.grownBy wx (some c)) (hne : b ≠ c) : wx.cell? ⟨b, i, none⟩ = some u := by
  rw [World.cell?_of_block (a := ⟨b, i, none⟩) (hg.block b (World.block_lt_of_cell? wr ⟨b, i, none⟩ h) (by simp; exact hne))]; exact h
theorem old_frozen {wr : World} {b : Nat} (o : Obj) (h : wr.frozen? ⟨b, 0, none⟩ = false) (hlt : b < wr.heap.size) : (wr.alloc o).frozen? ⟨b, 0, none⟩ = false := by
  rw [World.frozen?_alloc_old wr o ⟨b, 0, none⟩ (Nat.ne_of_lt hlt)]; exact h
/-- A bool came back. -/
def BoolEnd (e : Ending) : Prop := ∃ b, e = .returned (.bool b)
theorem BoolEnd.mk (b : Bool) : BoolEnd (.returned (.bool b)) := ⟨b, rfl⟩
set_option maxRecDepth 100000 in
set_option maxHeartbeats 16000000 in
theorem great_small (L : Lex) (w : World) (hL : LexAt w L) (a1 : ¬ (60 : Int) < (L.entries.length : Int)) :
    Calls Tryz.prog 8 #[L.val] w fun e w' => BoolEnd e ∧ Below w.heap.size w w' := by
  obtain ⟨p1, c1, p2, c2, p3, c3, p4, c4, p5, c5, e1, e2, e3, e4, e5, hc1, hm1, hc2, hm2, hc3, hm3, hc4, hm4, hc5, hm5⟩ := lex_forms hL
  have HL := Lib.hid hL; clear hL
  have hval : L.val = .agg #[.string L.vowels, .slice p1 L.traits.length c1, .slice p2 L.classes.length c2, .slice p3 L.entries.length c3, .slice p4 L.spells.length c4, .slice p5 L.links.length c5] := by unfold Lex.val; rw [e1, e2, e3, e4, e5]
  have HVAL := Lib.hid hval
  have HO := Lib.hid (show boxed L = .cells #[.string L.vowels, .slice p1 L.traits.length c1, .slice p2 L.classes.length c2, .slice p3 L.entries.length c3, .slice p4 L.spells.length c4, .slice p5 L.links.length c5] 28 by unfold boxed; rw [e1, e2, e3, e4, e5])
  rw [hval]
  clear hval
  have ag := Tryz.isAgg28
  have zg := Tryz.sizeOf28
  have hcv := HL.out.vow
  unfold maxLen at hm1 hm2 hm3 hm4 hm5 hcv
  have agt := Tryz.isAgg64
  have zgt := Tryz.sizeOf64
  have agc := Tryz.isAgg67
  have zgc := Tryz.sizeOf67
  have ags := Tryz.isAgg69
  have zgs := Tryz.sizeOf69
  have age := Tryz.isAgg72
  have zge := Tryz.sizeOf72
  have agi := Tryz.isAgg74
  have zgi := Tryz.sizeOf74
  have agp := Tryz.isAgg76
  have zgp := Tryz.sizeOf76
  have agk := Tryz.isAgg78
  have zgk := Tryz.sizeOf78
  have a3 : ¬ (200 : Int) < (L.entries.length : Int) := by omega
  by_cases a4 : (40 : Int) < (L.traits.length : Int)
  · skip
    go_enter Tryz.func8, Tryz.ntmps8
    go_wp2
    go_ret
    exact ⟨BoolEnd.mk _, (below_one w _).alloc (by simp) _⟩
  by_cases a5 : (40 : Int) < (L.classes.length : Int)
  · skip
    go_enter Tryz.func8, Tryz.ntmps8
    go_wp2
    go_ret
    exact ⟨BoolEnd.mk _, (below_one w _).alloc (by simp) _⟩
  by_cases a6 : (40 : Int) < (L.spells.length : Int)
  · skip
    go_enter Tryz.func8, Tryz.ntmps8
    go_wp2
    go_ret
    exact ⟨BoolEnd.mk _, (below_one w _).alloc (by simp) _⟩
  by_cases a7 : (40 : Int) < (L.links.length : Int)
  · skip
    go_enter Tryz.func8, Tryz.ntmps8
    go_wp2
    go_ret
    exact ⟨BoolEnd.mk _, (below_one w _).alloc (by simp) _⟩
  go_enter Tryz.func8, Tryz.ntmps8
  go_wp2
  go_loopw [5] (fun i wr => ∃ k : Nat, k ≤ L.traits.length ∧ i = .int .i64 k ∧ GreatAt L w wr) (fun i _ => L.traits.length - (intOf i).toNat)
  case atStart => exact ⟨0, by omega, rfl, by rw [← HO.out]; exact ⟨grown_refl _ _, _, by have := Boxed.new (w.alloc (boxed L)) 3 (.int .i64 L.vowels.size); simpa using this⟩⟩
  case round =>
    obtain ⟨k, hk, rfl, hg⟩ := hrel
    rename World => wr
    have HG := Lib.hid hg; clear hg
    have HW := Lib.hid HG.out.below
    have x1 : wr.cell? ⟨w.heap.size, 1, none⟩ = some (.slice p1 L.traits.length c1) := by rw [HG.out.box 1, e1]; rfl
    obtain ⟨y, hy⟩ := HG.out.2
    have n0 := hy.cell
    have f0 := hy.frozen
    clear hy
    by_cases hlt : k < L.traits.length
    · obtain ⟨_, _, e1', _, _, hrow⟩ := (e1 ▸ HL.out.tras.1)
      cases e1'
      obtain ⟨A, rfl, hA, hcell⟩ := hrow (by omega)
      obtain ⟨⟨p', c', hvv, hc', hm', hrv⟩, hnm, hvs⟩ := HL.out.tras.2 L.traits[k] (List.getElem_mem _)
      have T1 := Lib.hid (show w.cell? (A.add (k * 2)) = some (.string L.traits[k].name) by
        have := hcell k 0 hlt (by omega)
        simpa [traF, hlt] using this)
      have T2 := Lib.hid (show w.cell? { block := (A.add (k * 2)).block, off := (A.add (k * 2)).off + 1 } = some (.slice p' L.traits[k].vs.length c') by
        have := cell_next (hcell k 1 hlt (by omega))
        simpa [traF, hlt, hvv] using this)
      have HA := Lib.hid (show (A.add (k * 2)).block < w.heap.size by rw [add_block]; exact hA)
      have HRV := Lib.hid hrv
      clear hcell hrow hrv
      have t1 : wr.cell? (A.add (k * 2)) = some (.string L.traits[k].name) := by rw [HW.out.cell (p := A.add (k * 2)) HA.out]; exact T1.out
      go_wp2
      go_still_tail 10, (by kernel_rfl)
      go_wp2
      clear x1 n0 f0 t1
      go_loopw [6] (fun i wq => ∃ j : Nat, j ≤ L.traits[k].vs.length ∧ i = .int .i64 j ∧ GreatAt L w wq) (fun i _ => L.traits[k].vs.length - (intOf i).toNat)
      case atStart => exact ⟨0, by omega, rfl, (HG.out.set _).drew1⟩
      case round =>
        obtain ⟨j, hj, rfl, hg⟩ := hrel
        rename World => wq
        have HGQ := Lib.hid hg; clear hg
        have HWQ := Lib.hid HGQ.out.below
        have x1 : wq.cell? ⟨w.heap.size, 1, none⟩ = some (.slice (some A) L.traits.length c1) := by rw [HGQ.out.box 1, e1]; rfl
        obtain ⟨z, hz⟩ := HGQ.out.2
        have n0 := hz.cell
        have f0 := hz.frozen
        clear hz
        have t2 : wq.cell? { block := (A.add (k * 2)).block, off := (A.add (k * 2)).off + 1 } = some (.slice p' L.traits[k].vs.length c') := by rw [HWQ.out.cell (p := ⟨(A.add (k * 2)).block, (A.add (k * 2)).off + 1, none⟩) HA.out]; exact T2.out
        by_cases hjt : j < L.traits[k].vs.length
        · by_cases h100 : (j : Int) < 100
          · obtain ⟨VA, rfl, hVA, hcell⟩ := HRV.out (by omega)
            have v1 : wq.cell? (VA.add j) = some (.string L.traits[k].vs[j]) := by
              rw [HWQ.out.cell (p := VA.add j) (by rw [add_block]; exact hVA)]
              have := hcell j 0 hjt (by omega)
              simpa [strF, hjt] using this
            clear hcell
            go_wp2
            go_still_tail 13, (by kernel_rfl)
            go_wp2
            go_roundw
            case rel => exact ⟨j + 1, by omega, by go_num, (HGQ.out.set _).drew1⟩
            case measure => simp [intOf]; omega
          · go_wp2
            go_still_tail 9, (by kernel_rfl)
            go_wp2
            go_roundw
            case rel => exact ⟨k + 1, by omega, by go_num, (HGQ.out.set _).drew1⟩
            case measure => simp [intOf]; omega
        · go_wp2
          go_still_tail 9, (by kernel_rfl)
          go_wp2
          go_roundw
          case rel => exact ⟨k + 1, by omega, by go_num, (HGQ.out.set _).drew1⟩
          case measure => simp [intOf]; omega
    · have HGX := HG
      go_wp2
      clear x1 n0 f0
      go_loopw [7] (fun i wc => ∃ m3 : Nat, m3 ≤ L.classes.length ∧ i = .int .i64 m3 ∧ GreatAt L w wc) (fun i _ => L.classes.length - (intOf i).toNat)
      case atStart => exact ⟨0, by omega, rfl, HGX.out⟩
      case round =>
        obtain ⟨m3, hm3, rfl, hgm3⟩ := hrel
        rename World => wc
        have HGm3 := Lib.hid hgm3; clear hgm3
        have HWm3 := Lib.hid HGm3.out.below
        have x2 : wc.cell? ⟨w.heap.size, 2, none⟩ = some (.slice p2 L.classes.length c2) := by rw [HGm3.out.box 2, e2]; rfl
        obtain ⟨y3, hy3⟩ := HGm3.out.2
        have n0 := hy3.cell
        have f0 := hy3.frozen
        clear hy3
        by_cases hlt3 : m3 < L.classes.length
        · obtain ⟨_, _, eC, _, _, hrowC⟩ := (e2 ▸ HL.out.clas.1)
          cases eC
          obtain ⟨CA, rfl, hCA, hcellC⟩ := hrowC (by omega)
          obtain ⟨⟨⟨pS, cS, hsv, hcS, hmS, hrS⟩, hvs⟩, hnm⟩ := HL.out.clas.2 L.classes[m3] (List.getElem_mem _)
          unfold maxLen at hmS
          have HCA := Lib.hid (show (CA.add (m3 * 2)).block < w.heap.size by rw [add_block]; exact hCA)
          have C1 := Lib.hid (show w.cell? { block := (CA.add (m3 * 2)).block, off := (CA.add (m3 * 2)).off + 1 } = some (.slice pS L.classes[m3].slots.length cS) by
            have := cell_next (hcellC m3 1 hlt3 (by omega))
            simpa [claF, hlt3, hsv] using this)
          have t1 : wc.cell? (CA.add (m3 * 2)) = some (.string L.classes[m3].name) := by
            rw [HWm3.out.cell (p := CA.add (m3 * 2)) HCA.out]
            have := hcellC m3 0 hlt3 (by omega)
            simpa [claF, hlt3] using this
          have t2 : wc.cell? { block := (CA.add (m3 * 2)).block, off := (CA.add (m3 * 2)).off + 1 } = some (.slice pS L.classes[m3].slots.length cS) := by
            rw [HWm3.out.cell (p := ⟨(CA.add (m3 * 2)).block, (CA.add (m3 * 2)).off + 1, none⟩) HCA.out]; exact C1.out
          have HRS := Lib.hid hrS; clear hrS
          have HVS := Lib.hid hvs; clear hvs
          clear hcellC hrowC hsv
          by_cases g1 : (12 : Int) < (L.classes[m3].slots.length : Int)
          · by_cases g2 : (L.classes[m3].slots.length : Int) ≤ 24
            · go_wp2
              go_ret
              exact ⟨BoolEnd.mk _, by repeat (first | exact HWm3.out | apply below_drewN)⟩
            by_cases g3 : (60 : Int) < (L.classes[m3].slots.length : Int)
            · go_wp2
              go_ret
              exact ⟨BoolEnd.mk _, by repeat (first | exact HWm3.out | apply below_drewN)⟩
            go_wp2
            go_still_tail 10, (by kernel_rfl)
            go_wp2
            clear x2 n0 f0 t1 t2
            go_loopw [8] (fun i wt => ∃ j3 : Nat, j3 ≤ L.classes[m3].slots.length ∧ i = .int .i64 j3 ∧ GreatAt L w wt) (fun i _ => L.classes[m3].slots.length - (intOf i).toNat)
            case atStart => exact ⟨0, by omega, rfl, by first | exact (HGm3.out.set _).drew1 | exact (HGm3.out.drew1.set _).drew1⟩
            case round =>
              obtain ⟨j3, hj3, rfl, hg3⟩ := hrel
              rename World => wt
              have HGT := Lib.hid hg3; clear hg3
              have HWT := Lib.hid HGT.out.below
              have x2 : wt.cell? ⟨w.heap.size, 2, none⟩ = some (.slice (some CA) L.classes.length c2) := by rw [HGT.out.box 2, e2]; rfl
              have t2 : wt.cell? { block := (CA.add (m3 * 2)).block, off := (CA.add (m3 * 2)).off + 1 } = some (.slice pS L.classes[m3].slots.length cS) := by
                rw [HWT.out.cell (p := ⟨(CA.add (m3 * 2)).block, (CA.add (m3 * 2)).off + 1, none⟩) HCA.out]; exact C1.out
              obtain ⟨yt, hyt⟩ := HGT.out.2
              have n0 := hyt.cell
              have f0 := hyt.frozen
              clear hyt
              by_cases hjt3 : j3 < L.classes[m3].slots.length
              · obtain ⟨SA, rfl, hSA, hcellS⟩ := HRS.out (by omega)
                obtain ⟨hfr, _, _⟩ := HVS.out L.classes[m3].slots[j3] (List.getElem_mem _)
                obtain ⟨qf, cf, hfv, _, _, _⟩ := open_row hfr
                have v0 : wt.cell? (SA.add (j3 * 4)) = some (.int .i64 L.classes[m3].slots[j3].cut) := by
                  rw [HWT.out.cell (p := SA.add (j3 * 4)) (by rw [add_block]; exact hSA)]
                  have := hcellS j3 0 hjt3 (by omega)
                  simpa [sloF, hjt3] using this
                have v1 : wt.cell? { block := (SA.add (j3 * 4)).block, off := (SA.add (j3 * 4)).off + 1 } = some (.string L.classes[m3].slots[j3].pre) := by
                  rw [HWT.out.cell (p := ⟨(SA.add (j3 * 4)).block, (SA.add (j3 * 4)).off + 1, none⟩) (by show (SA.add (j3 * 4)).block < _; rw [add_block]; exact hSA)]
                  have := cell_at 1 (by omega) (hcellS j3 1 hjt3 (by omega))
                  simpa [sloF, hjt3] using this
                have v2 : wt.cell? { block := (SA.add (j3 * 4)).block, off := (SA.add (j3 * 4)).off + 2 } = some (.string L.classes[m3].slots[j3].add) := by
                  rw [HWT.out.cell (p := ⟨(SA.add (j3 * 4)).block, (SA.add (j3 * 4)).off + 2, none⟩) (by show (SA.add (j3 * 4)).block < _; rw [add_block]; exact hSA)]
                  have := cell_at 2 (by omega) (hcellS j3 2 hjt3 (by omega))
                  simpa [sloF, hjt3] using this
                have v3 : wt.cell? { block := (SA.add (j3 * 4)).block, off := (SA.add (j3 * 4)).off + 3 } = some (.slice qf L.classes[m3].slots[j3].fs.length cf) := by
                  rw [HWT.out.cell (p := ⟨(SA.add (j3 * 4)).block, (SA.add (j3 * 4)).off + 3, none⟩) (by show (SA.add (j3 * 4)).block < _; rw [add_block]; exact hSA)]
                  have := cell_at 3 (by omega) (hcellS j3 3 hjt3 (by omega))
                  simpa [sloF, hjt3, hfv] using this
                have HRD := Lib.hid (hfv ▸ hfr)
                clear hcellS hfr hfv
                have hne : w.heap.size + 1 < wt.heap.size := by have := HGT.out.size; omega
                have hne2 : wt.heap.size ≠ w.heap.size + 1 := by omega
                have n1 := alloc_cell (.cells #[.int .i64 L.classes[m3].slots[j3].cut, .string L.classes[m3].slots[j3].pre, .string L.classes[m3].slots[j3].add, .slice qf L.classes[m3].slots[j3].fs.length cf] 69) n0
                have f1 := old_frozen (.cells #[.int .i64 L.classes[m3].slots[j3].cut, .string L.classes[m3].slots[j3].pre, .string L.classes[m3].slots[j3].add, .slice qf L.classes[m3].slots[j3].fs.length cf] 69) f0 hne
                have u1 : (wt.alloc (.cells #[.int .i64 L.classes[m3].slots[j3].cut, .string L.classes[m3].slots[j3].pre, .string L.classes[m3].slots[j3].add, .slice qf L.classes[m3].slots[j3].fs.length cf] 69)).cell? ⟨wt.heap.size, 1, none⟩ = some (.string L.classes[m3].slots[j3].pre) := by rw [World.cell?_alloc_new]; rfl
                have u2 : (wt.alloc (.cells #[.int .i64 L.classes[m3].slots[j3].cut, .string L.classes[m3].slots[j3].pre, .string L.classes[m3].slots[j3].add, .slice qf L.classes[m3].slots[j3].fs.length cf] 69)).cell? ⟨wt.heap.size, 2, none⟩ = some (.string L.classes[m3].slots[j3].add) := by rw [World.cell?_alloc_new]; rfl
                have u3 : (wt.alloc (.cells #[.int .i64 L.classes[m3].slots[j3].cut, .string L.classes[m3].slots[j3].pre, .string L.classes[m3].slots[j3].add, .slice qf L.classes[m3].slots[j3].fs.length cf] 69)).cell? ⟨wt.heap.size, 3, none⟩ = some (.slice qf L.classes[m3].slots[j3].fs.length cf) := by rw [World.cell?_alloc_new]; rfl
                have s3 : ∀ x : Int, ((wt.alloc (.cells #[.int .i64 L.classes[m3].slots[j3].cut, .string L.classes[m3].slots[j3].pre, .string L.classes[m3].slots[j3].add, .slice qf L.classes[m3].slots[j3].fs.length cf] 69)).setCell ⟨w.heap.size + 1, 0, none⟩ (.int .i64 x)).cell? ⟨wt.heap.size, 3, none⟩ = some (.slice qf L.classes[m3].slots[j3].fs.length cf) := fun x => set_other u3 hne2 _
                go_wp2_with (go_at_call 32; refine (GreatAt.feats ((HGT.out.set _).alloc _) HRD.out).mono ?_; rintro e w7 ⟨rfl, hg7, _⟩; have HG7 := Lib.hid hg7; clear hg7)
                go_roundw
                case rel => exact ⟨j3 + 1, by omega, by go_num, HG7.out⟩
                case measure => simp [intOf]; omega
              · go_wp2
                go_roundw
                case rel => exact ⟨m3 + 1, by omega, by go_num, HGT.out⟩
                case measure => simp [intOf]; omega
          have g3 : ¬ (60 : Int) < (L.classes[m3].slots.length : Int) := by omega
          go_wp2
          go_still_tail 10, (by kernel_rfl)
          go_wp2
          clear x2 n0 f0 t1 t2
          go_loopw [8] (fun i wt => ∃ j3 : Nat, j3 ≤ L.classes[m3].slots.length ∧ i = .int .i64 j3 ∧ GreatAt L w wt) (fun i _ => L.classes[m3].slots.length - (intOf i).toNat)
          case atStart => exact ⟨0, by omega, rfl, by first | exact (HGm3.out.set _).drew1 | exact (HGm3.out.drew1.set _).drew1⟩
          case round =>
            obtain ⟨j3, hj3, rfl, hg3⟩ := hrel
            rename World => wt
            have HGT := Lib.hid hg3; clear hg3
            have HWT := Lib.hid HGT.out.below
            have x2 : wt.cell? ⟨w.heap.size, 2, none⟩ = some (.slice (some CA) L.classes.length c2) := by rw [HGT.out.box 2, e2]; rfl
            have t2 : wt.cell? { block := (CA.add (m3 * 2)).block, off := (CA.add (m3 * 2)).off + 1 } = some (.slice pS L.classes[m3].slots.length cS) := by
              rw [HWT.out.cell (p := ⟨(CA.add (m3 * 2)).block, (CA.add (m3 * 2)).off + 1, none⟩) HCA.out]; exact C1.out
            obtain ⟨yt, hyt⟩ := HGT.out.2
            have n0 := hyt.cell
            have f0 := hyt.frozen
            clear hyt
            by_cases hjt3 : j3 < L.classes[m3].slots.length
            · obtain ⟨SA, rfl, hSA, hcellS⟩ := HRS.out (by omega)
              obtain ⟨hfr, _, _⟩ := HVS.out L.classes[m3].slots[j3] (List.getElem_mem _)
              obtain ⟨qf, cf, hfv, _, _, _⟩ := open_row hfr
              have v0 : wt.cell? (SA.add (j3 * 4)) = some (.int .i64 L.classes[m3].slots[j3].cut) := by
                rw [HWT.out.cell (p := SA.add (j3 * 4)) (by rw [add_block]; exact hSA)]
                have := hcellS j3 0 hjt3 (by omega)
                simpa [sloF, hjt3] using this
              have v1 : wt.cell? { block := (SA.add (j3 * 4)).block, off := (SA.add (j3 * 4)).off + 1 } = some (.string L.classes[m3].slots[j3].pre) := by
                rw [HWT.out.cell (p := ⟨(SA.add (j3 * 4)).block, (SA.add (j3 * 4)).off + 1, none⟩) (by show (SA.add (j3 * 4)).block < _; rw [add_block]; exact hSA)]
                have := cell_at 1 (by omega) (hcellS j3 1 hjt3 (by omega))
                simpa [sloF, hjt3] using this
              have v2 : wt.cell? { block := (SA.add (j3 * 4)).block, off := (SA.add (j3 * 4)).off + 2 } = some (.string L.classes[m3].slots[j3].add) := by
                rw [HWT.out.cell (p := ⟨(SA.add (j3 * 4)).block, (SA.add (j3 * 4)).off + 2, none⟩) (by show (SA.add (j3 * 4)).block < _; rw [add_block]; exact hSA)]
                have := cell_at 2 (by omega) (hcellS j3 2 hjt3 (by omega))
                simpa [sloF, hjt3] using this
              have v3 : wt.cell? { block := (SA.add (j3 * 4)).block, off := (SA.add (j3 * 4)).off + 3 } = some (.slice qf L.classes[m3].slots[j3].fs.length cf) := by
                rw [HWT.out.cell (p := ⟨(SA.add (j3 * 4)).block, (SA.add (j3 * 4)).off + 3, none⟩) (by show (SA.add (j3 * 4)).block < _; rw [add_block]; exact hSA)]
                have := cell_at 3 (by omega) (hcellS j3 3 hjt3 (by omega))
                simpa [sloF, hjt3, hfv] using this
              have HRD := Lib.hid (hfv ▸ hfr)
              clear hcellS hfr hfv
              have hne : w.heap.size + 1 < wt.heap.size := by have := HGT.out.size; omega
              have hne2 : wt.heap.size ≠ w.heap.size + 1 := by omega
              have n1 := alloc_cell (.cells #[.int .i64 L.classes[m3].slots[j3].cut, .string L.classes[m3].slots[j3].pre, .string L.classes[m3].slots[j3].add, .slice qf L.classes[m3].slots[j3].fs.length cf] 69) n0
              have f1 := old_frozen (.cells #[.int .i64 L.classes[m3].slots[j3].cut, .string L.classes[m3].slots[j3].pre, .string L.classes[m3].slots[j3].add, .slice qf L.classes[m3].slots[j3].fs.length cf] 69) f0 hne
              have u1 : (wt.alloc (.cells #[.int .i64 L.classes[m3].slots[j3].cut, .string L.classes[m3].slots[j3].pre, .string L.classes[m3].slots[j3].add, .slice qf L.classes[m3].slots[j3].fs.length cf] 69)).cell? ⟨wt.heap.size, 1, none⟩ = some (.string L.classes[m3].slots[j3].pre) := by rw [World.cell?_alloc_new]; rfl
              have u2 : (wt.alloc (.cells #[.int .i64 L.classes[m3].slots[j3].cut, .string L.classes[m3].slots[j3].pre, .string L.classes[m3].slots[j3].add, .slice qf L.classes[m3].slots[j3].fs.length cf] 69)).cell? ⟨wt.heap.size, 2, none⟩ = some (.string L.classes[m3].slots[j3].add) := by rw [World.cell?_alloc_new]; rfl
              have u3 : (wt.alloc (.cells #[.int .i64 L.classes[m3].slots[j3].cut, .string L.classes[m3].slots[j3].pre, .string L.classes[m3].slots[j3].add, .slice qf L.classes[m3].slots[j3].fs.length cf] 69)).cell? ⟨wt.heap.size, 3, none⟩ = some (.slice qf L.classes[m3].slots[j3].fs.length cf) := by rw [World.cell?_alloc_new]; rfl
              have s3 : ∀ x : Int, ((wt.alloc (.cells #[.int .i64 L.classes[m3].slots[j3].cut, .string L.classes[m3].slots[j3].pre, .string L.classes[m3].slots[j3].add, .slice qf L.classes[m3].slots[j3].fs.length cf] 69)).setCell ⟨w.heap.size + 1, 0, none⟩ (.int .i64 x)).cell? ⟨wt.heap.size, 3, none⟩ = some (.slice qf L.classes[m3].slots[j3].fs.length cf) := fun x => set_other u3 hne2 _
              go_wp2_with (go_at_call 32; refine (GreatAt.feats ((HGT.out.set _).alloc _) HRD.out).mono ?_; rintro e w7 ⟨rfl, hg7, _⟩; have HG7 := Lib.hid hg7; clear hg7)
              go_roundw
              case rel => exact ⟨j3 + 1, by omega, by go_num, HG7.out⟩
              case measure => simp [intOf]; omega
            · go_wp2
              go_roundw
              case rel => exact ⟨m3 + 1, by omega, by go_num, HGT.out⟩
              case measure => simp [intOf]; omega
        · have HGX := HGm3
          go_wp2
          clear x2 n0 f0
          go_loopw [10] (fun i we => ∃ m4 : Nat, m4 ≤ L.entries.length ∧ i = .int .i64 m4 ∧ GreatAt L w we) (fun i _ => L.entries.length - (intOf i).toNat)
          case atStart => exact ⟨0, by omega, rfl, HGX.out⟩
          case round =>
            obtain ⟨m4, hm4, rfl, hgm4⟩ := hrel
            rename World => we
            have HGm4 := Lib.hid hgm4; clear hgm4
            have HWm4 := Lib.hid HGm4.out.below
            have x3 : we.cell? ⟨w.heap.size, 3, none⟩ = some (.slice p3 L.entries.length c3) := by rw [HGm4.out.box 3, e3]; rfl
            obtain ⟨y4, hy4⟩ := HGm4.out.2
            have n0 := hy4.cell
            have f0 := hy4.frozen
            clear hy4
            by_cases hlt4 : m4 < L.entries.length
            · obtain ⟨_, _, eE, _, _, hrowE⟩ := (e3 ▸ HL.out.ents.1)
              cases eE
              obtain ⟨EA, rfl, hEA, hcellE⟩ := hrowE (by omega)
              obtain ⟨hfr, hir, _, _, _⟩ := HL.out.ents.2 L.entries[m4] (List.getElem_mem _)
              obtain ⟨qf, cf, hfv, _, _, _⟩ := open_row hfr
              obtain ⟨qm, cm, hmv, hcm1, hcm2⟩ := hir.form
              unfold maxLen at hcm2
              have v0 : we.cell? (EA.add (m4 * 4)) = some (.string L.entries[m4].lem) := by
                rw [HWm4.out.cell (p := EA.add (m4 * 4)) (by rw [add_block]; exact hEA)]
                have := hcellE m4 0 hlt4 (by omega)
                simpa [entF, hlt4] using this
              have v1 : we.cell? { block := (EA.add (m4 * 4)).block, off := (EA.add (m4 * 4)).off + 1 } = some (.string L.entries[m4].cls) := by
                rw [HWm4.out.cell (p := ⟨(EA.add (m4 * 4)).block, (EA.add (m4 * 4)).off + 1, none⟩) (by show (EA.add (m4 * 4)).block < _; rw [add_block]; exact hEA)]
                have := cell_at 1 (by omega) (hcellE m4 1 hlt4 (by omega))
                simpa [entF, hlt4] using this
              have v2 : we.cell? { block := (EA.add (m4 * 4)).block, off := (EA.add (m4 * 4)).off + 2 } = some (.slice qf L.entries[m4].fs.length cf) := by
                rw [HWm4.out.cell (p := ⟨(EA.add (m4 * 4)).block, (EA.add (m4 * 4)).off + 2, none⟩) (by show (EA.add (m4 * 4)).block < _; rw [add_block]; exact hEA)]
                have := cell_at 2 (by omega) (hcellE m4 2 hlt4 (by omega))
                simpa [entF, hlt4, hfv] using this
              have v3 : we.cell? { block := (EA.add (m4 * 4)).block, off := (EA.add (m4 * 4)).off + 3 } = some (.slice qm L.entries[m4].forms.length cm) := by
                rw [HWm4.out.cell (p := ⟨(EA.add (m4 * 4)).block, (EA.add (m4 * 4)).off + 3, none⟩) (by show (EA.add (m4 * 4)).block < _; rw [add_block]; exact hEA)]
                have := cell_at 3 (by omega) (hcellE m4 3 hlt4 (by omega))
                simpa [entF, hlt4, hmv] using this
              have HRD := Lib.hid (hfv ▸ hfr)
              have HIR := Lib.hid (hmv ▸ hir)
              clear hcellE hrowE hfr hfv hir hmv
              have hne : w.heap.size + 1 < we.heap.size := by have := HGm4.out.size; omega
              have hne2 : we.heap.size ≠ w.heap.size + 1 := by omega
              have n1 := alloc_cell (.cells #[.string L.entries[m4].lem, .string L.entries[m4].cls, .slice qf L.entries[m4].fs.length cf, .slice qm L.entries[m4].forms.length cm] 72) n0
              have f1 := old_frozen (.cells #[.string L.entries[m4].lem, .string L.entries[m4].cls, .slice qf L.entries[m4].fs.length cf, .slice qm L.entries[m4].forms.length cm] 72) f0 hne
              have u0 : (we.alloc (.cells #[.string L.entries[m4].lem, .string L.entries[m4].cls, .slice qf L.entries[m4].fs.length cf, .slice qm L.entries[m4].forms.length cm] 72)).cell? ⟨we.heap.size, 0, none⟩ = some (.string L.entries[m4].lem) := by rw [World.cell?_alloc_new]; rfl
              have u1 : (we.alloc (.cells #[.string L.entries[m4].lem, .string L.entries[m4].cls, .slice qf L.entries[m4].fs.length cf, .slice qm L.entries[m4].forms.length cm] 72)).cell? ⟨we.heap.size, 1, none⟩ = some (.string L.entries[m4].cls) := by rw [World.cell?_alloc_new]; rfl
              have u2 : (we.alloc (.cells #[.string L.entries[m4].lem, .string L.entries[m4].cls, .slice qf L.entries[m4].fs.length cf, .slice qm L.entries[m4].forms.length cm] 72)).cell? ⟨we.heap.size, 2, none⟩ = some (.slice qf L.entries[m4].fs.length cf) := by rw [World.cell?_alloc_new]; rfl
              have u3 : (we.alloc (.cells #[.string L.entries[m4].lem, .string L.entries[m4].cls, .slice qf L.entries[m4].fs.length cf, .slice qm L.entries[m4].forms.length cm] 72)).cell? ⟨we.heap.size, 3, none⟩ = some (.slice qm L.entries[m4].forms.length cm) := by rw [World.cell?_alloc_new]; rfl
              have s2 : ∀ x : Int, ((we.alloc (.cells #[.string L.entries[m4].lem, .string L.entries[m4].cls, .slice qf L.entries[m4].fs.length cf, .slice qm L.entries[m4].forms.length cm] 72)).setCell ⟨w.heap.size + 1, 0, none⟩ (.int .i64 x)).cell? ⟨we.heap.size, 2, none⟩ = some (.slice qf L.entries[m4].fs.length cf) := fun x => set_other u2 hne2 _
              have S3 := Lib.hid (show ∀ x : Int, ((we.setCell ⟨w.heap.size + 1, 0, none⟩ (.int .i64 x)).alloc (.cells #[.string L.entries[m4].lem, .string L.entries[m4].cls, .slice qf L.entries[m4].fs.length cf, .slice qm L.entries[m4].forms.length cm] 72)).cell? ⟨we.heap.size, 3, none⟩ = some (.slice qm L.entries[m4].forms.length cm) from fun x => set_new _ _ _ _ rfl)
              go_wp2_with (go_at_call 32; refine (GreatAt.feats ((HGm4.out.set _).alloc _) HRD.out).mono ?_; rintro e w7 ⟨rfl, hg7, hgr⟩; have HG7 := Lib.hid hg7; have HC7 := Lib.hid (grown_cell (S3.out _) hgr hne2); clear hg7 hgr)
              clear x3 n0 f0 v0 v1 v2 v3 n1 f1 u0 u1 u2 u3 s2
              go_loopw [12] (fun i wf => ∃ j4 : Nat, j4 ≤ L.entries[m4].forms.length ∧ i = .int .i64 j4 ∧ GreatAt L w wf ∧ wf.cell? ⟨we.heap.size, 3, none⟩ = some (.slice qm L.entries[m4].forms.length cm)) (fun i _ => L.entries[m4].forms.length - (intOf i).toNat)
              case atStart => exact ⟨0, by omega, rfl, HG7.out, HC7.out⟩
              case round =>
                obtain ⟨j4, hj4, rfl, hg4, hc4'⟩ := hrel
                rename World => wf
                have HGF := Lib.hid hg4; clear hg4
                have HWF := Lib.hid HGF.out.below
                obtain ⟨yf, hyf⟩ := HGF.out.2
                have n0 := hyf.cell
                have f0 := hyf.frozen
                clear hyf
                have HCS := Lib.hid (fun v => set_other hc4' hne2 v)
                by_cases hjt4 : j4 < L.entries[m4].forms.length
                · by_cases h100 : (j4 : Int) < 100
                  · obtain ⟨_, _, eI, _, _, hrowI⟩ := HIR.out
                    cases eI
                    obtain ⟨IA, rfl, hIA, hcellI⟩ := hrowI (by omega)
                    have i1 : wf.cell? { block := (IA.add (j4 * 2)).block, off := (IA.add (j4 * 2)).off + 1 } = some (.string L.entries[m4].forms[j4].word) := by
                      rw [HWF.out.cell (p := ⟨(IA.add (j4 * 2)).block, (IA.add (j4 * 2)).off + 1, none⟩) (by show (IA.add (j4 * 2)).block < _; rw [add_block]; exact hIA)]
                      have := cell_at 1 (by omega) (hcellI j4 1 hjt4 (by omega))
                      simpa [irrF, hjt4] using this
                    clear hcellI hrowI
                    go_wp2
                    go_still_tail 9, (by kernel_rfl)
                    go_wp2
                    go_roundw
                    case rel => exact ⟨j4 + 1, by omega, by go_num, (HGF.out.set _).drew1, HCS.out _⟩
                    case measure => simp [intOf]; omega
                  · go_wp2
                    go_roundw
                    case rel => exact ⟨m4 + 1, by omega, by go_num, HGF.out⟩
                    case measure => simp [intOf]; omega
                · go_wp2
                  go_roundw
                  case rel => exact ⟨m4 + 1, by omega, by go_num, HGF.out⟩
                  case measure => simp [intOf]; omega
            · have HGX := HGm4
              go_wp2
              clear x3 n0 f0
              go_loopw [13] (fun i ws => ∃ m5 : Nat, m5 ≤ L.spells.length ∧ i = .int .i64 m5 ∧ GreatAt L w ws) (fun i _ => L.spells.length - (intOf i).toNat)
              case atStart => exact ⟨0, by omega, rfl, HGX.out⟩
              case round =>
                obtain ⟨m5, hm5, rfl, hgm5⟩ := hrel
                rename World => ws
                have HGm5 := Lib.hid hgm5; clear hgm5
                have HWm5 := Lib.hid HGm5.out.below
                have x4 : ws.cell? ⟨w.heap.size, 4, none⟩ = some (.slice p4 L.spells.length c4) := by rw [HGm5.out.box 4, e4]; rfl
                obtain ⟨y5, hy5⟩ := HGm5.out.2
                have n0 := hy5.cell
                have f0 := hy5.frozen
                clear hy5
                by_cases hlt5 : m5 < L.spells.length
                · obtain ⟨_, _, eS, _, _, hrowS⟩ := (e4 ▸ HL.out.spes.1)
                  cases eS
                  obtain ⟨SA, rfl, hSA, hcellS⟩ := hrowS (by omega)
                  have v0 : ws.cell? (SA.add (m5 * 4)) = some (.string L.spells[m5].frm) := by
                    rw [HWm5.out.cell (p := SA.add (m5 * 4)) (by rw [add_block]; exact hSA)]
                    have := hcellS m5 0 hlt5 (by omega)
                    simpa [speF, hlt5] using this
                  have v1 : ws.cell? { block := (SA.add (m5 * 4)).block, off := (SA.add (m5 * 4)).off + 1 } = some (.string L.spells[m5].to) := by
                    rw [HWm5.out.cell (p := ⟨(SA.add (m5 * 4)).block, (SA.add (m5 * 4)).off + 1, none⟩) (by show (SA.add (m5 * 4)).block < _; rw [add_block]; exact hSA)]
                    have := cell_at 1 (by omega) (hcellS m5 1 hlt5 (by omega))
                    simpa [speF, hlt5] using this
                  have v2 : ws.cell? { block := (SA.add (m5 * 4)).block, off := (SA.add (m5 * 4)).off + 2 } = some (.string L.spells[m5].left) := by
                    rw [HWm5.out.cell (p := ⟨(SA.add (m5 * 4)).block, (SA.add (m5 * 4)).off + 2, none⟩) (by show (SA.add (m5 * 4)).block < _; rw [add_block]; exact hSA)]
                    have := cell_at 2 (by omega) (hcellS m5 2 hlt5 (by omega))
                    simpa [speF, hlt5] using this
                  have v3 : ws.cell? { block := (SA.add (m5 * 4)).block, off := (SA.add (m5 * 4)).off + 3 } = some (.string L.spells[m5].right) := by
                    rw [HWm5.out.cell (p := ⟨(SA.add (m5 * 4)).block, (SA.add (m5 * 4)).off + 3, none⟩) (by show (SA.add (m5 * 4)).block < _; rw [add_block]; exact hSA)]
                    have := cell_at 3 (by omega) (hcellS m5 3 hlt5 (by omega))
                    simpa [speF, hlt5] using this
                  clear hcellS hrowS
                  go_wp2
                  go_still_tail 33, (by kernel_rfl)
                  go_wp2
                  go_roundw
                  case rel => exact ⟨m5 + 1, by omega, by go_num, (HGm5.out.set _).drew1⟩
                  case measure => simp [intOf]; omega
                · have HGX := HGm5
                  go_wp2
                  clear x4 n0 f0
                  go_loopw [14] (fun i wl => ∃ m6 : Nat, m6 ≤ L.links.length ∧ i = .int .i64 m6 ∧ GreatAt L w wl) (fun i _ => L.links.length - (intOf i).toNat)
                  case atStart => exact ⟨0, by omega, rfl, HGX.out⟩
                  case round =>
                    obtain ⟨m6, hm6, rfl, hgm6⟩ := hrel
                    rename World => wl
                    have HGm6 := Lib.hid hgm6; clear hgm6
                    have HWm6 := Lib.hid HGm6.out.below
                    have x5 : wl.cell? ⟨w.heap.size, 5, none⟩ = some (.slice p5 L.links.length c5) := by rw [HGm6.out.box 5, e5]; rfl
                    obtain ⟨y6, hy6⟩ := HGm6.out.2
                    have n0 := hy6.cell
                    have f0 := hy6.frozen
                    clear hy6
                    by_cases hlt6 : m6 < L.links.length
                    · obtain ⟨_, _, eK, _, _, hrowK⟩ := (e5 ▸ HL.out.lins.1)
                      cases eK
                      obtain ⟨KA, rfl, hKA, hcellK⟩ := hrowK (by omega)
                      obtain ⟨hfr, hcls, hglue⟩ := HL.out.lins.2 L.links[m6] (List.getElem_mem _)
                      obtain ⟨qf, cf, hfv, _, _, _⟩ := open_row hfr
                      have v0 : wl.cell? (KA.add (m6 * 3)) = some (.string L.links[m6].cls) := by
                        rw [HWm6.out.cell (p := KA.add (m6 * 3)) (by rw [add_block]; exact hKA)]
                        have := hcellK m6 0 hlt6 (by omega)
                        simpa [linF, hlt6] using this
                      have v1 : wl.cell? { block := (KA.add (m6 * 3)).block, off := (KA.add (m6 * 3)).off + 1 } = some (.string L.links[m6].glue) := by
                        rw [HWm6.out.cell (p := ⟨(KA.add (m6 * 3)).block, (KA.add (m6 * 3)).off + 1, none⟩) (by show (KA.add (m6 * 3)).block < _; rw [add_block]; exact hKA)]
                        have := cell_at 1 (by omega) (hcellK m6 1 hlt6 (by omega))
                        simpa [linF, hlt6] using this
                      have hkb : (KA.add (m6 * 3)).block < w.heap.size := by rw [add_block]; exact hKA
                      have V2 := Lib.hid (show w.cell? { block := (KA.add (m6 * 3)).block, off := (KA.add (m6 * 3)).off + 2 } = some (.slice qf L.links[m6].fs.length cf) by
                        have := cell_at 2 (by omega) (hcellK m6 2 hlt6 (by omega))
                        simpa [linF, hlt6, hfv] using this)
                      have HRD := Lib.hid (hfv ▸ hfr)
                      clear hcellK hrowK hfr hfv
                      have X5 : ∀ x : Int, (wl.setCell ⟨w.heap.size + 1, 0, none⟩ (.int .i64 x)).drew.cell? ⟨w.heap.size, 5, none⟩ = some (.slice (some KA) L.links.length c5) := fun x => by rw [((HGm6.out.set x).drew1).box 5, e5]; rfl
                      have W2 : ∀ x : Int, (wl.setCell ⟨w.heap.size + 1, 0, none⟩ (.int .i64 x)).drew.cell? { block := (KA.add (m6 * 3)).block, off := (KA.add (m6 * 3)).off + 2 } = some (.slice qf L.links[m6].fs.length cf) := fun x => by
                        rw [((HGm6.out.set x).drew1).below.cell (p := ⟨(KA.add (m6 * 3)).block, (KA.add (m6 * 3)).off + 2, none⟩) hkb]; exact V2.out
                      have HKB := Lib.hid hkb; clear hkb
                      go_wp2
                      go_still_tail 17, (by kernel_rfl)
                      go_wp2_with (go_at_call 32; refine (GreatAt.feats ((HGm6.out.set _).drew1) HRD.out).mono ?_; rintro e w7 ⟨rfl, hg7, _⟩; have HG7 := Lib.hid hg7; clear hg7)
                      go_roundw
                      case rel => exact ⟨m6 + 1, by omega, by go_num, HG7.out⟩
                      case measure => simp [intOf]; omega
                    · go_wp2
                      go_ret
                      exact ⟨BoolEnd.mk _, HWm6.out⟩
end Go.Proofs.YtgddmegjncbndaaGreatDoor
