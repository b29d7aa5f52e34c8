/- The program's searches among entries, irregular forms and slots. -/
import Derived.Test.YtgddmegjncbndaaGreatDoorLexA
import Derived.Test.YtgddmegjncbndaaGreatDoorRefUnify
namespace Go.Proofs.YtgddmegjncbndaaGreatDoor
open Go Go.RowKit
def entQ (E : List Ent) (s c : ByteArray) (k : Nat) : Bool := match E[k]? with | some x => (x.lem.toList == s.toList) && (x.cls.toList == c.toList) | none => false
def irrQ (I : List Irr) (s : Int) (k : Nat) : Bool := match I[k]? with | some x => decide (x.slot = s) | none => false
def sloQ (b : List Ft) (S : List Slo) (k : Nat) : Bool := match S[k]? with | some x => (unify b x.fs).isNone | none => false
theorem entQ_at {E : List Ent} {s c : ByteArray} {k : Nat} {b : Bool} (hk : k < E.length) (h : ((E[k].lem.toList == s.toList) && (E[k].cls.toList == c.toList)) = b) : entQ E s c k = b := by
  unfold entQ; rw [List.getElem?_eq_getElem hk]; exact h
theorem irrQ_at {I : List Irr} {s : Int} {k : Nat} {b : Bool} (hk : k < I.length) (h : decide (I[k].slot = s) = b) : irrQ I s k = b := by
  unfold irrQ; rw [List.getElem?_eq_getElem hk]; exact h
theorem sloQ_at {f : List Ft} {S : List Slo} {k : Nat} {b : Bool} (hk : k < S.length) (h : (unify f S[k].fs).isNone = b) : sloQ f S k = b := by
  unfold sloQ; rw [List.getElem?_eq_getElem hk]; exact h
def entIdx (E : List Ent) (n : Nat) (s c : ByteArray) : Int := idxOf n (entQ E s c)
def irrIdx (I : List Irr) (n : Nat) (s : Int) : Int := idxOf n (irrQ I s)
def sloIdx (b : List Ft) (S : List Slo) : Int := idxOf S.length (sloQ b S)
theorem find_eq (lem cls : ByteArray) (p p' : Option Addr) (n cap n' cap' : Nat) (s c : ByteArray) (a a' : Addr) (w : World) (hc : w.cell? a = some (.string s)) (hc' : w.cell? a' = some (.string c)) :
    Calls Tryz.prog 93 #[.agg #[.string lem, .string cls, .slice p n cap, .slice p' n' cap'], .pointer (some a), .pointer (some a')] w fun e w' => e = .returned (.bool ((lem.toList == s.toList) && (cls.toList == c.toList))) ∧ Below w.heap.size w w' := by
  have hd := alloc_cell (.cells #[.string lem, .string cls, .slice p n cap, .slice p' n' cap'] 72) hc
  have hd' := alloc_cell (.cells #[.string lem, .string cls, .slice p n cap, .slice p' n' cap'] 72) hc'
  have hlt := World.block_lt_of_cell? w _ hc
  have hlt' := World.block_lt_of_cell? w _ hc'
  cases hq : (lem.toList == s.toList) <;> cases hq' : (cls.toList == c.toList)
  all_goals
    go_enter Tryz.func93, Tryz.ntmps93
    go_wp2
    go_ret
    exact ⟨rfl, below_one _ _⟩
theorem irr_eq (slot : Int) (word : ByteArray) (s : Int) (a : Addr) (w : World) (hc : w.cell? a = some (.int .i64 s)) :
    Calls Tryz.prog 116 #[.agg #[.int .i64 slot, .string word], .pointer (some a)] w fun e w' => e = .returned (.bool (decide (slot = s))) ∧ Below w.heap.size w w' := by
  have hd := alloc_cell (.cells #[.int .i64 slot, .string word] 74) hc
  have hlt := World.block_lt_of_cell? w _ hc
  by_cases hq : slot = s
  · have HD := Lib.hid (decide_eq_true hq)
    go_enter Tryz.func116, Tryz.ntmps116
    go_wp2
    go_ret
    exact ⟨ret_bool (by first | exact HD.out.symm | simp [hq]), below_one _ _⟩
  · have HD := Lib.hid (decide_eq_false hq)
    go_enter Tryz.func116, Tryz.ntmps116
    go_wp2
    go_ret
    exact ⟨ret_bool (by first | exact HD.out.symm | simp [hq]), below_one _ _⟩
set_option maxHeartbeats 800000 in
theorem slo_eq (b : List Ft) (s : Slo) (q : Option Addr) (cq : Nat) (bv : Value) (a : Addr) (w : World) (hq : s.fv = .slice q s.fs.length cq) (hc : w.cell? a = some bv) (hb : ReadsIn w.heap.size w bv b) (hf : ReadsIn w.heap.size w s.fv s.fs) (hl : b.length ≤ 100) (hm : s.fs.length ≤ 100) :
    Calls Tryz.prog 108 #[.agg #[.int .i64 s.cut, .string s.pre, .string s.add, .slice q s.fs.length cq], .pointer (some a)] w fun e w' => e = .returned (.bool ((unify b s.fs).isNone)) ∧ Below w.heap.size w w' := by
  obtain ⟨pb, cb, rfl, _, _, _⟩ := open_row hb
  have hd := alloc_cell (.cells #[.int .i64 s.cut, .string s.pre, .string s.add, .slice q s.fs.length cq] 69) hc
  have hlt := World.block_lt_of_cell? w _ hc
  have HB := Lib.hid (below_one w (.cells #[.int .i64 s.cut, .string s.pre, .string s.add, .slice q s.fs.length cq] 69))
  have HU := Lib.hid (reads_step HB.out hb)
  have HV := Lib.hid (reads_step HB.out (hq ▸ hf))
  clear hb hf hq
  cases hun : unify b s.fs with
  | none =>
    have HN := Lib.hid hun
    go_enter Tryz.func108, Tryz.ntmps108
    go_wp2_with (go_at_call 86; refine (unify_any _ _ b s.fs _ hl hm HU.out HV.out).mono ?_; rintro e w1 ⟨hb1, ⟨_, rfl⟩ | ⟨r, v1, h1, _, _⟩⟩; rotate_left; exact absurd (HN.out.symm.trans h1) (by simp); have HB1 := Lib.hid hb1; clear hb1)
    go_ret
    exact ⟨rfl, HB.out.trans (HB1.out.mono HB.out.size)⟩
  | some r0 =>
    have HN := Lib.hid hun
    go_enter Tryz.func108, Tryz.ntmps108
    go_wp2_with (go_at_call 86; refine (unify_any _ _ b s.fs _ hl hm HU.out HV.out).mono ?_; rintro e w1 ⟨hb1, ⟨h1, _⟩ | ⟨r, v1, h1, rfl, _⟩⟩; exact absurd (HN.out.symm.trans h1) (by simp); have HB1 := Lib.hid hb1; clear hb1 h1)
    go_ret
    exact ⟨rfl, HB.out.trans (HB1.out.mono HB.out.size)⟩
set_option maxHeartbeats 800000 in
theorem entry_index (T : List Ent) (n : Nat) (v : Value) (s c : ByteArray) (a a' : Addr) (w : World) (hv : SliceAt w.heap.size w v n 4 (entF T)) (hn : n ≤ T.length) (hE : ∀ t ∈ T, (∃ p m c, t.fv = .slice p m c) ∧ ∃ p m c, t.mv = .slice p m c) (hc : w.cell? a = some (.string s)) (hc' : w.cell? a' = some (.string c)) :
    Calls Tryz.prog 92 #[v, .func (.func 93) #[] #[.pointer (some a), .pointer (some a')]] w fun e w' => e = .returned (.int .i64 (idxOf n (entQ T s c))) ∧ Below w.heap.size w w' := by
  obtain ⟨p, cap, rfl, hcap, hmax, hrow⟩ := hv
  unfold maxLen at hmax
  have HR := Lib.hid hrow; clear hrow
  have HC := Lib.hid hc
  have HL := Lib.hid (World.block_lt_of_cell? w _ hc); clear hc
  have HC2 := Lib.hid hc'
  have HL2 := Lib.hid (World.block_lt_of_cell? w _ hc'); clear hc'
  have HE := Lib.hid hE; clear hE
  go_enter Tryz.func92, Tryz.ntmps92
  go_wp2
  go_loopw [8] (fun i wr => ∃ k : Nat, k ≤ n ∧ i = .int .i64 k ∧ (∀ j, j < k → entQ T s c j = false) ∧ Below w.heap.size w wr) (fun i _ => n - (intOf i).toNat)
  case atStart => exact ⟨0, by omega, rfl, fun i h => by omega, Below.refl _ _⟩
  case round =>
    obtain ⟨k, hk, rfl, hq, hB⟩ := hrel
    have HQ := Lib.hid hq; clear hq
    have HB := Lib.hid hB; clear hB
    by_cases hlt : k < n
    · obtain ⟨A, rfl, hA, hcell⟩ := HR.out (by omega)
      rename World => wr
      have hkT : k < T.length := by omega
      obtain ⟨⟨p1, m1, c1, hf1⟩, p2, m2, c2, hf2⟩ := HE.out T[k] (List.getElem_mem _)
      have HCW := Lib.hid (show wr.cell? a = some (.string s) by rw [HB.out.cell (p := a) HL.out]; exact HC.out)
      have HCW2 := Lib.hid (show wr.cell? a' = some (.string c) by rw [HB.out.cell (p := a') HL2.out]; exact HC2.out)
      have x0 : wr.cell? (A.add (k * 4)) = some (.string T[k].lem) := by
        rw [HB.out.cell (p := A.add (k * 4)) (by rw [add_block]; exact hA)]
        have := hcell k 0 hlt (by omega)
        simpa [entF, hkT] using this
      have x1 : wr.cell? { block := (A.add (k * 4)).block, off := (A.add (k * 4)).off + 1 } = some (.string T[k].cls) := by
        rw [HB.out.cell (p := ⟨(A.add (k * 4)).block, (A.add (k * 4)).off + 1, none⟩) (by show (A.add (k * 4)).block < _; rw [add_block]; exact hA)]
        have := cell_at 1 (by omega) (hcell k 1 hlt (by omega))
        simpa [entF, hkT] using this
      have x2 : wr.cell? { block := (A.add (k * 4)).block, off := (A.add (k * 4)).off + 2 } = some (.slice p1 m1 c1) := by
        rw [HB.out.cell (p := ⟨(A.add (k * 4)).block, (A.add (k * 4)).off + 2, none⟩) (by show (A.add (k * 4)).block < _; rw [add_block]; exact hA)]
        have := cell_at 2 (by omega) (hcell k 2 hlt (by omega))
        simpa [entF, hkT, hf1] using this
      have x3 : wr.cell? { block := (A.add (k * 4)).block, off := (A.add (k * 4)).off + 3 } = some (.slice p2 m2 c2) := by
        rw [HB.out.cell (p := ⟨(A.add (k * 4)).block, (A.add (k * 4)).off + 3, none⟩) (by show (A.add (k * 4)).block < _; rw [add_block]; exact hA)]
        have := cell_at 3 (by omega) (hcell k 3 hlt (by omega))
        simpa [entF, hkT, hf2] using this
      have ag := Tryz.isAgg72
      have zg := Tryz.sizeOf72
      clear hcell
      cases hx : ((T[k].lem.toList == s.toList) && (T[k].cls.toList == c.toList))
      · have HX := Lib.hid hx
        go_wp2_with (go_at_call 93; refine (find_eq _ _ _ _ _ _ _ _ s c a a' wr HCW.out HCW2.out).mono ?_; rintro e w' ⟨rfl, hb'⟩; have HB' := Lib.hid hb'; clear hb')
        go_roundw
        case rel => exact ⟨k + 1, by omega, by go_num, none_succ' HQ.out (entQ_at hkT HX.out), HB.out.trans (HB'.out.mono HB.out.size)⟩
        case measure => simp [intOf]; omega
      · have HX := Lib.hid hx
        go_wp2_with (go_at_call 93; refine (find_eq _ _ _ _ _ _ _ _ s c a a' wr HCW.out HCW2.out).mono ?_; rintro e w' ⟨rfl, hb'⟩; have HB' := Lib.hid hb'; clear hb')
        go_ret
        exact ⟨ret_i (idxOf_at hlt HQ.out (entQ_at hkT HX.out)), HB.out.trans (HB'.out.mono HB.out.size)⟩
    · go_wp2
      go_ret
      exact ⟨ret_i (idxOf_none fun j hj => HQ.out j (by omega)), HB.out⟩
set_option maxHeartbeats 800000 in
theorem irr_index (T : List Irr) (n : Nat) (v : Value) (s : Int) (a : Addr) (w : World) (hv : SliceAt w.heap.size w v n 2 (irrF T)) (hn : n ≤ T.length) (hc : w.cell? a = some (.int .i64 s)) :
    Calls Tryz.prog 115 #[v, .func (.func 116) #[] #[.pointer (some a)]] w fun e w' => e = .returned (.int .i64 (idxOf n (irrQ T s))) ∧ Below w.heap.size w w' := by
  obtain ⟨p, cap, rfl, hcap, hmax, hrow⟩ := hv
  unfold maxLen at hmax
  have HR := Lib.hid hrow; clear hrow
  have HC := Lib.hid hc
  have HL := Lib.hid (World.block_lt_of_cell? w _ hc); clear hc
  go_enter Tryz.func115, Tryz.ntmps115
  go_wp2
  go_loopw [8] (fun i wr => ∃ k : Nat, k ≤ n ∧ i = .int .i64 k ∧ (∀ j, j < k → irrQ T s j = false) ∧ Below w.heap.size w wr) (fun i _ => n - (intOf i).toNat)
  case atStart => exact ⟨0, by omega, rfl, fun i h => by omega, Below.refl _ _⟩
  case round =>
    obtain ⟨k, hk, rfl, hq, hB⟩ := hrel
    have HQ := Lib.hid hq; clear hq
    have HB := Lib.hid hB; clear hB
    by_cases hlt : k < n
    · obtain ⟨A, rfl, hA, hcell⟩ := HR.out (by omega)
      rename World => wr
      have hkT : k < T.length := by omega
      have HCW := Lib.hid (show wr.cell? a = some (.int .i64 s) by rw [HB.out.cell (p := a) HL.out]; exact HC.out)
      have x0 : wr.cell? (A.add (k * 2)) = some (.int .i64 T[k].slot) := by
        rw [HB.out.cell (p := A.add (k * 2)) (by rw [add_block]; exact hA)]
        have := hcell k 0 hlt (by omega)
        simpa [irrF, hkT] using this
      have x1 : wr.cell? { block := (A.add (k * 2)).block, off := (A.add (k * 2)).off + 1 } = some (.string T[k].word) := by
        rw [HB.out.cell (p := ⟨(A.add (k * 2)).block, (A.add (k * 2)).off + 1, none⟩) (by show (A.add (k * 2)).block < _; rw [add_block]; exact hA)]
        have := cell_at 1 (by omega) (hcell k 1 hlt (by omega))
        simpa [irrF, hkT] using this
      have ag := Tryz.isAgg74
      have zg := Tryz.sizeOf74
      clear hcell
      cases hx : (decide (T[k].slot = s))
      · have HX := Lib.hid hx
        go_wp2_with (go_at_call 116; refine (irr_eq _ _ s a wr HCW.out).mono ?_; rintro e w' ⟨rfl, hb'⟩; have HB' := Lib.hid hb'; clear hb')
        go_roundw
        case rel => exact ⟨k + 1, by omega, by go_num, none_succ' HQ.out (irrQ_at hkT HX.out), HB.out.trans (HB'.out.mono HB.out.size)⟩
        case measure => simp [intOf]; omega
      · have HX := Lib.hid hx
        go_wp2_with (go_at_call 116; refine (irr_eq _ _ s a wr HCW.out).mono ?_; rintro e w' ⟨rfl, hb'⟩; have HB' := Lib.hid hb'; clear hb')
        go_ret
        exact ⟨ret_i (idxOf_at hlt HQ.out (irrQ_at hkT HX.out)), HB.out.trans (HB'.out.mono HB.out.size)⟩
    · go_wp2
      go_ret
      exact ⟨ret_i (idxOf_none fun j hj => HQ.out j (by omega)), HB.out⟩
set_option maxHeartbeats 800000 in
theorem slo_index (T : List Slo) (n : Nat) (v : Value) (b : List Ft) (bv : Value) (a : Addr) (w : World) (hv : SliceAt w.heap.size w v n 4 (sloF T)) (hn : n ≤ T.length) (hS : ∀ s ∈ T, ReadsIn w.heap.size w s.fv s.fs ∧ s.fs.length ≤ 100) (hb : ReadsIn w.heap.size w bv b) (hl : b.length ≤ 100) (hc : w.cell? a = some bv) :
    Calls Tryz.prog 132 #[v, .func (.func 108) #[] #[.pointer (some a)]] w fun e w' => e = .returned (.int .i64 (idxOf n (sloQ b T))) ∧ Below w.heap.size w w' := by
  obtain ⟨p, cap, rfl, hcap, hmax, hrow⟩ := hv
  unfold maxLen at hmax
  have HR := Lib.hid hrow; clear hrow
  have HC := Lib.hid hc
  have HL := Lib.hid (World.block_lt_of_cell? w _ hc); clear hc
  have HS := Lib.hid hS; clear hS
  have HBV := Lib.hid hb; clear hb
  go_enter Tryz.func132, Tryz.ntmps132
  go_wp2
  go_loopw [8] (fun i wr => ∃ k : Nat, k ≤ n ∧ i = .int .i64 k ∧ (∀ j, j < k → sloQ b T j = false) ∧ Below w.heap.size w wr) (fun i _ => n - (intOf i).toNat)
  case atStart => exact ⟨0, by omega, rfl, fun i h => by omega, Below.refl _ _⟩
  case round =>
    obtain ⟨k, hk, rfl, hq, hB⟩ := hrel
    have HQ := Lib.hid hq; clear hq
    have HB := Lib.hid hB; clear hB
    by_cases hlt : k < n
    · obtain ⟨A, rfl, hA, hcell⟩ := HR.out (by omega)
      rename World => wr
      have hkT : k < T.length := by omega
      obtain ⟨hfr, hfl⟩ := HS.out T[k] (List.getElem_mem _)
      obtain ⟨q, cq, hfv, _, _, _⟩ := open_row hfr
      have HCW := Lib.hid (show wr.cell? a = some bv by rw [HB.out.cell (p := a) HL.out]; exact HC.out)
      have HSE := Lib.hid (slo_eq b T[k] q cq bv a wr hfv HCW.out (readsIn_mono HB.out.size (readsIn_below HB.out HBV.out)) (readsIn_mono HB.out.size (readsIn_below HB.out hfr)) hl hfl)
      have x0 : wr.cell? (A.add (k * 4)) = some (.int .i64 T[k].cut) := by
        rw [HB.out.cell (p := A.add (k * 4)) (by rw [add_block]; exact hA)]
        have := hcell k 0 hlt (by omega)
        simpa [sloF, hkT] using this
      have x1 : wr.cell? { block := (A.add (k * 4)).block, off := (A.add (k * 4)).off + 1 } = some (.string T[k].pre) := by
        rw [HB.out.cell (p := ⟨(A.add (k * 4)).block, (A.add (k * 4)).off + 1, none⟩) (by show (A.add (k * 4)).block < _; rw [add_block]; exact hA)]
        have := cell_at 1 (by omega) (hcell k 1 hlt (by omega))
        simpa [sloF, hkT] using this
      have x2 : wr.cell? { block := (A.add (k * 4)).block, off := (A.add (k * 4)).off + 2 } = some (.string T[k].add) := by
        rw [HB.out.cell (p := ⟨(A.add (k * 4)).block, (A.add (k * 4)).off + 2, none⟩) (by show (A.add (k * 4)).block < _; rw [add_block]; exact hA)]
        have := cell_at 2 (by omega) (hcell k 2 hlt (by omega))
        simpa [sloF, hkT] using this
      have x3 : wr.cell? { block := (A.add (k * 4)).block, off := (A.add (k * 4)).off + 3 } = some (.slice q T[k].fs.length cq) := by
        rw [HB.out.cell (p := ⟨(A.add (k * 4)).block, (A.add (k * 4)).off + 3, none⟩) (by show (A.add (k * 4)).block < _; rw [add_block]; exact hA)]
        have := cell_at 3 (by omega) (hcell k 3 hlt (by omega))
        simpa [sloF, hkT, hfv] using this
      have ag := Tryz.isAgg69
      have zg := Tryz.sizeOf69
      clear hcell
      cases hx : (unify b T[k].fs).isNone
      · have HX := Lib.hid hx
        go_wp2_with (go_at_call 108; refine (HSE.out).mono ?_; rintro e w' ⟨rfl, hb'⟩; have HB' := Lib.hid hb'; clear hb')
        go_roundw
        case rel => exact ⟨k + 1, by omega, by go_num, none_succ' HQ.out (sloQ_at hkT HX.out), HB.out.trans (HB'.out.mono HB.out.size)⟩
        case measure => simp [intOf]; omega
      · have HX := Lib.hid hx
        go_wp2_with (go_at_call 108; refine (HSE.out).mono ?_; rintro e w' ⟨rfl, hb'⟩; have HB' := Lib.hid hb'; clear hb')
        go_ret
        exact ⟨ret_i (idxOf_at hlt HQ.out (sloQ_at hkT HX.out)), HB.out.trans (HB'.out.mono HB.out.size)⟩
    · go_wp2
      go_ret
      exact ⟨ret_i (idxOf_none fun j hj => HQ.out j (by omega)), HB.out⟩
theorem find_any (E : List Ent) (n : Nat) (v : Value) (s c : ByteArray) (w : World) (hv : SliceAt w.heap.size w v n 4 (entF E)) (hn : n ≤ E.length) (hE : ∀ t ∈ E, (∃ p m c, t.fv = .slice p m c) ∧ ∃ p m c, t.mv = .slice p m c) :
    Calls Tryz.prog 63 #[v, .string s, .string c] w fun e w' => e = .returned (.int .i64 (entIdx E n s c)) ∧ Below w.heap.size w w' := by
  have HB := Lib.hid ((below_one w (.cells #[.string s] 9)).alloc (below_one w (.cells #[.string s] 9)).size (.cells #[.string c] 9))
  have HV := Lib.hid (hv.step HB.out); clear hv
  have h1 : ((w.alloc (.cells #[.string s] 9)).alloc (.cells #[.string c] 9)).cell? ⟨w.heap.size, 0, none⟩ = some (.string s) := alloc_cell _ (by rw [World.cell?_alloc_new]; rfl)
  have h2 : ((w.alloc (.cells #[.string s] 9)).alloc (.cells #[.string c] 9)).cell? ⟨w.heap.size + 1, 0, none⟩ = some (.string c) := by
    have e : w.heap.size + 1 = (w.alloc (.cells #[.string s] 9)).heap.size := by simp
    rw [e, World.cell?_alloc_new]; rfl
  have HC := Lib.hid h1; clear h1
  have HC2 := Lib.hid h2; clear h2
  have HE := Lib.hid hE; clear hE
  go_enter Tryz.func63, Tryz.ntmps63
  go_wp2_with (go_at_call 92; refine (entry_index E n v s c _ _ _ HV.out hn HE.out HC.out HC2.out).mono ?_; rintro e w' ⟨rfl, hb'⟩)
  go_ret
  exact ⟨rfl, HB.out.trans (hb'.mono HB.out.size)⟩
theorem irregularOf_any (I : List Irr) (n : Nat) (v : Value) (s : Int) (w : World) (hv : SliceAt w.heap.size w v n 2 (irrF I)) (hn : n ≤ I.length) :
    Calls Tryz.prog 88 #[v, .int .i64 s] w fun e w' => e = .returned (.int .i64 (irrIdx I n s)) ∧ Below w.heap.size w w' := by
  have HB := Lib.hid (below_one w (.cells #[.int .i64 s] 3))
  have HV := Lib.hid (hv.step HB.out); clear hv
  have HC := Lib.hid (show (w.alloc (.cells #[.int .i64 s] 3)).cell? ⟨w.heap.size, 0, none⟩ = some (.int .i64 s) by rw [World.cell?_alloc_new]; rfl)
  go_enter Tryz.func88, Tryz.ntmps88
  go_wp2_with (go_at_call 115; refine (irr_index I n v s _ _ HV.out hn HC.out).mono ?_; rintro e w' ⟨rfl, hb'⟩)
  go_ret
  exact ⟨rfl, HB.out.trans (hb'.mono HB.out.size)⟩
theorem containsSlot_any (S : List Slo) (v : Value) (b : List Ft) (bv : Value) (a : Addr) (w : World) (hv : SliceAt w.heap.size w v S.length 4 (sloF S)) (hS : ∀ s ∈ S, ReadsIn w.heap.size w s.fv s.fs ∧ s.fs.length ≤ 100) (hb : ReadsIn w.heap.size w bv b) (hl : b.length ≤ 100) (hc : w.cell? a = some bv) :
    Calls Tryz.prog 107 #[v, .func (.func 108) #[] #[.pointer (some a)]] w fun e w' => e = .returned (.bool (decide (0 ≤ sloIdx b S))) ∧ Below w.heap.size w w' := by
  have HV := Lib.hid hv; clear hv
  have HS := Lib.hid hS; clear hS
  have HB := Lib.hid hb; clear hb
  have HC := Lib.hid hc; clear hc
  go_enter Tryz.func107, Tryz.ntmps107
  go_wp2_with (go_at_call 132; refine (slo_index S S.length v b bv a w HV.out (Nat.le_refl _) HS.out HB.out hl HC.out).mono ?_; rintro e w' ⟨rfl, hb'⟩)
  go_ret
  exact ⟨by first | rfl | simp [sloIdx], hb'⟩
theorem contradict_any (S : List Slo) (v : Value) (b : List Ft) (bv : Value) (w : World) (hv : SliceAt w.heap.size w v S.length 4 (sloF S)) (hS : ∀ s ∈ S, ReadsIn w.heap.size w s.fv s.fs ∧ s.fs.length ≤ 100) (hb : ReadsIn w.heap.size w bv b) (hl : b.length ≤ 100) :
    Calls Tryz.prog 76 #[bv, v] w fun e w' => e = .returned (.bool (decide (0 ≤ sloIdx b S))) ∧ Below w.heap.size w w' := by
  obtain ⟨pb, cb, rfl, _, _, _⟩ := open_row hb
  have HB := Lib.hid (below_one w (.cells #[.slice pb b.length cb] 29))
  have HV := Lib.hid (hv.step HB.out); clear hv
  have HS := Lib.hid (show ∀ s ∈ S, ReadsIn _ _ s.fv s.fs ∧ s.fs.length ≤ 100 from fun s hs => ⟨reads_step HB.out (hS s hs).1, (hS s hs).2⟩); clear hS
  have HBV := Lib.hid (reads_step HB.out hb); clear hb
  have HC := Lib.hid (show (w.alloc (.cells #[.slice pb b.length cb] 29)).cell? ⟨w.heap.size, 0, none⟩ = some (.slice pb b.length cb) by rw [World.cell?_alloc_new]; rfl)
  go_enter Tryz.func76, Tryz.ntmps76
  go_wp2_with (go_at_call 107; refine (containsSlot_any S v b _ _ _ HV.out HS.out HBV.out hl HC.out).mono ?_; rintro e w' ⟨rfl, hb'⟩)
  go_ret
  exact ⟨rfl, HB.out.trans (hb'.mono HB.out.size)⟩
end Go.Proofs.YtgddmegjncbndaaGreatDoor
