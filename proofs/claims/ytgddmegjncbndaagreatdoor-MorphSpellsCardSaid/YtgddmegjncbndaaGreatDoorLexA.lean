/- Lexicons as data, and what makes them valid, told once for the program and the specification. The program's searches in the parts of a lexicon. The program's check of a bundle. The program's checks of patterns, slots and traits. The program's check of classes. -/
import Derived.Test.YtgddmegjncbndaaGreatDoorNamesA
import Derived.Test.YtgddmegjncbndaaGreatDoorFeatsA
import Derived.StillTailTactics
import Derived.Sort.Walk0
import Derived.Deep.RegionHeld3
namespace Go.Proofs.YtgddmegjncbndaaGreatDoor
open Go Go.RowKit
/-- The first number below n that is wanted; -1 if there is none. -/
def idxOf (n : Nat) (q : Nat → Bool) : Int := match (List.range n).find? q with
  | some i => (i : Int)
  | none => -1
theorem idxOf_none {n : Nat} {q : Nat → Bool} (h : ∀ i, i < n → q i = false) : idxOf n q = -1 := by
  unfold idxOf
  have : (List.range n).find? q = none := by
    rw [List.find?_eq_none]
    intro x hx
    simp [h x (List.mem_range.1 hx)]
  rw [this]
theorem find_range_at {n k : Nat} {q : Nat → Bool} (hk : k < n) (h : ∀ i, i < k → q i = false) (hq : q k = true) : (List.range n).find? q = some k := by
  rw [List.find?_eq_some_iff_getElem]
  refine ⟨hq, k, by simpa using hk, by simp, fun j hj => ?_⟩
  simp [h j hj]
theorem idxOf_at {n k : Nat} {q : Nat → Bool} (hk : k < n) (h : ∀ i, i < k → q i = false) (hq : q k = true) : idxOf n q = (k : Int) := by
  unfold idxOf
  rw [find_range_at hk h hq]
theorem idxOf_cases (n : Nat) (q : Nat → Bool) : (idxOf n q = -1 ∧ ∀ i, i < n → q i = false) ∨ ∃ k, k < n ∧ (∀ i, i < k → q i = false) ∧ q k = true ∧ idxOf n q = (k : Int) := by
  by_cases h : ∀ i, i < n → q i = false
  · exact .inl ⟨idxOf_none h, h⟩
  · right
    have : ∃ i, i < n ∧ q i = true := by
      rcases Classical.not_forall.1 h with ⟨i, hi⟩
      rcases Classical.not_imp.1 hi with ⟨h1, h2⟩
      exact ⟨i, h1, by simpa using h2⟩
    obtain ⟨i, hi, hq⟩ := this
    clear h
    induction i using Nat.strongRecOn with
    | ind i ih =>
      by_cases hp : ∀ j, j < i → q j = false
      · exact ⟨i, hi, hp, hq, idxOf_at hi hp hq⟩
      · rcases Classical.not_forall.1 hp with ⟨j, hj⟩
        rcases Classical.not_imp.1 hj with ⟨h1, h2⟩
        exact ih j h1 (by omega) (by simpa using h2)
/-- The first error of the first n. -/
def errOf (n : Nat) (f : Nat → Int) : Int := match (List.range n).find? fun i => f i != 0 with
  | some i => f i
  | none => 0
theorem errOf_none {n : Nat} {f : Nat → Int} (h : ∀ i, i < n → f i = 0) : errOf n f = 0 := by
  unfold errOf
  have : ((List.range n).find? fun i => f i != 0) = none := by
    rw [List.find?_eq_none]
    intro x hx
    simp [h x (List.mem_range.1 hx)]
  rw [this]
theorem errOf_at {n k : Nat} {f : Nat → Int} (hk : k < n) (h : ∀ i, i < k → f i = 0) (hf : f k ≠ 0) : errOf n f = f k := by
  unfold errOf
  rw [find_range_at hk (fun i hi => by simp [h i hi]) (by simpa using hf)]
theorem below_succ {k : Nat} {f : Nat → Int} (h : ∀ i, i < k → f i = 0) (hk : f k = 0) : ∀ i, i < k + 1 → f i = 0 := by
  intro i hi
  by_cases e : i = k
  · subst e; exact hk
  · exact h i (by omega)
theorem none_succ' {k : Nat} {q : Nat → Bool} (h : ∀ i, i < k → q i = false) (hk : q k = false) : ∀ i, i < k + 1 → q i = false := by
  intro i hi
  by_cases e : i = k
  · subst e; exact hk
  · exact h i (by omega)

/-! ### A lexicon -/

structure Tra where
  name : ByteArray
  vv : Value
  vs : List ByteArray
structure Slo where
  cut : Int
  pre : ByteArray
  add : ByteArray
  fv : Value
  fs : List Ft
structure Cla where
  name : ByteArray
  sv : Value
  slots : List Slo
structure Irr where
  slot : Int
  word : ByteArray
structure Ent where
  lem : ByteArray
  cls : ByteArray
  fv : Value
  fs : List Ft
  mv : Value
  forms : List Irr
structure Spe where
  frm : ByteArray
  to : ByteArray
  left : ByteArray
  right : ByteArray
structure Lin where
  cls : ByteArray
  glue : ByteArray
  fv : Value
  fs : List Ft
structure Lex where
  vowels : ByteArray
  tv : Value
  traits : List Tra
  cv : Value
  classes : List Cla
  ev : Value
  entries : List Ent
  sv : Value
  spells : List Spe
  lv : Value
  links : List Lin
def Lex.val (L : Lex) : Value := .agg #[.string L.vowels, L.tv, L.cv, L.ev, L.sv, L.lv]

/-- A slice of n elements of some cells each. -/
def SliceAt (B : Nat) (w : World) (v : Value) (n sz : Nat) (f : Nat → Nat → Value) : Prop :=
  ∃ (p : Option Addr) (cap : Nat), v = .slice p n cap ∧ n ≤ cap ∧ cap ≤ maxLen ∧
    (0 < n → ∃ A, p = some A ∧ A.block < B ∧ ∀ i j, i < n → j < sz → w.cell? (A.add (i * sz + j)) = some (f i j))
theorem SliceAt.below {B : Nat} {w w' : World} {v : Value} {n sz : Nat} {f : Nat → Nat → Value} (hb : Below B w w') (h : SliceAt B w v n sz f) : SliceAt B w' v n sz f := by
  obtain ⟨p, cap, e, h1, h2, h3⟩ := h
  refine ⟨p, cap, e, h1, h2, fun hn => ?_⟩
  obtain ⟨A, e, hA, hc⟩ := h3 hn
  exact ⟨A, e, hA, fun i j hi hj => by rw [hb.cell (by rw [add_block]; exact hA)]; exact hc i j hi hj⟩
theorem SliceAt.mono {B B' : Nat} {w : World} {v : Value} {n sz : Nat} {f : Nat → Nat → Value} (hB : B ≤ B') (h : SliceAt B w v n sz f) : SliceAt B' w v n sz f := by
  obtain ⟨p, cap, e, h1, h2, h3⟩ := h
  refine ⟨p, cap, e, h1, h2, fun hn => ?_⟩
  obtain ⟨A, e, hA, hc⟩ := h3 hn
  exact ⟨A, e, by omega, hc⟩
theorem SliceAt.upto {B : Nat} {w : World} {p : Option Addr} {cap n k sz : Nat} {f : Nat → Nat → Value} (h : SliceAt B w (.slice p n cap) n sz f) (hk : k ≤ n) : SliceAt B w (.slice p k cap) k sz f := by
  obtain ⟨p', cap', e, h1, h2, h3⟩ := h
  cases e
  refine ⟨p, cap, rfl, by omega, h2, fun hn => ?_⟩
  obtain ⟨A, e, hA, hc⟩ := h3 (by omega)
  exact ⟨A, e, hA, fun i j hi hj => hc i j (by omega) hj⟩

def strF (l : List ByteArray) (i : Nat) (_ : Nat) : Value := .string (l.getD i ⟨#[]⟩)
def featF (l : List Ft) (i j : Nat) : Value := match l[i]? with
  | some x => if j = 0 then .string x.1 else .string x.2
  | none => undef
def traF (l : List Tra) (i j : Nat) : Value := match l[i]? with
  | some x => if j = 0 then .string x.name else x.vv
  | none => undef
def sloF (l : List Slo) (i j : Nat) : Value := match l[i]? with
  | some x => if j = 0 then .int .i64 x.cut else if j = 1 then .string x.pre else if j = 2 then .string x.add else x.fv
  | none => undef
def claF (l : List Cla) (i j : Nat) : Value := match l[i]? with
  | some x => if j = 0 then .string x.name else x.sv
  | none => undef
def irrF (l : List Irr) (i j : Nat) : Value := match l[i]? with
  | some x => if j = 0 then .int .i64 x.slot else .string x.word
  | none => undef
def entF (l : List Ent) (i j : Nat) : Value := match l[i]? with
  | some x => if j = 0 then .string x.lem else if j = 1 then .string x.cls else if j = 2 then x.fv else x.mv
  | none => undef
def speF (l : List Spe) (i j : Nat) : Value := match l[i]? with
  | some x => if j = 0 then .string x.frm else if j = 1 then .string x.to else if j = 2 then .string x.left else .string x.right
  | none => undef
def linF (l : List Lin) (i j : Nat) : Value := match l[i]? with
  | some x => if j = 0 then .string x.cls else if j = 1 then .string x.glue else x.fv
  | none => undef

/-! ### What makes a lexicon valid -/

def traQ (T : List Tra) (s : ByteArray) (k : Nat) : Bool := match T[k]? with | some t => t.name.toList == s.toList | none => false
def claQ (C : List Cla) (s : ByteArray) (k : Nat) : Bool := match C[k]? with | some t => t.name.toList == s.toList | none => false
def strQ (V : List ByteArray) (s : ByteArray) (k : Nat) : Bool := match V[k]? with | some t => s.toList == t.toList | none => false
theorem traQ_at {T : List Tra} {s : ByteArray} {k : Nat} {b : Bool} (hk : k < T.length) (h : (T[k].name.toList == s.toList) = b) : traQ T s k = b := by
  unfold traQ; rw [List.getElem?_eq_getElem hk]; exact h
theorem claQ_at {C : List Cla} {s : ByteArray} {k : Nat} {b : Bool} (hk : k < C.length) (h : (C[k].name.toList == s.toList) = b) : claQ C s k = b := by
  unfold claQ; rw [List.getElem?_eq_getElem hk]; exact h
theorem strQ_at {V : List ByteArray} {s : ByteArray} {k : Nat} {b : Bool} (hk : k < V.length) (h : (s.toList == V[k].toList) = b) : strQ V s k = b := by
  unfold strQ; rw [List.getElem?_eq_getElem hk]; exact h
def traitIdx (T : List Tra) (n : Nat) (s : ByteArray) : Int := idxOf n (traQ T s)
def classIdx (C : List Cla) (n : Nat) (s : ByteArray) : Int := idxOf n (claQ C s)
def strIdx (V : List ByteArray) (n : Nat) (s : ByteArray) : Int := idxOf n (strQ V s)
def valueErr (V : List ByteArray) (k : Nat) : Int := match V[k]? with
  | some v => if nameB v = false then 5 else if 0 ≤ strIdx V k v then 6 else 0
  | none => 0
def valuesErr (V : List ByteArray) : Int := if 8 < V.length then 3 else if V.length = 0 then 1 else errOf V.length (valueErr V)
def traitErr (T : List Tra) (i : Nat) : Int := match T[i]? with
  | some t => if nameB t.name = false then 5 else if 0 ≤ traitIdx T i t.name then 6 else valuesErr t.vs
  | none => 0
def traitsErr (T : List Tra) : Int := if 8 < T.length then 3 else errOf T.length (traitErr T)
def featErr (T : List Tra) (b : List Ft) (i : Nat) : Int := match b[i]? with
  | some f => match T[(traitIdx T T.length f.1).toNat]? with
    | some t => if traitIdx T T.length f.1 < 0 then 5 else if strIdx t.vs t.vs.length f.2 < 0 then 1
      else if 0 < i ∧ ((b.getD (i - 1) (⟨#[]⟩, ⟨#[]⟩)).1.toList == f.1.toList) = true then 6
      else if 0 < i ∧ Op.bytesLess f.1.toList (b.getD (i - 1) (⟨#[]⟩, ⟨#[]⟩)).1.toList = true then 1 else 0
    | none => 5
  | none => 0
def bundleErr (T : List Tra) (b : List Ft) : Int := if 8 < b.length then 3 else errOf b.length (featErr T b)
end Go.Proofs.YtgddmegjncbndaaGreatDoor
namespace Go.Proofs.YtgddmegjncbndaaGreatDoor
open Go Go.RowKit
theorem alloc_cell {w : World} {a : Addr} {v : Value} (o : Obj) (h : w.cell? a = some v) : (w.alloc o).cell? a = some v := by
  rw [((Below.refl w.heap.size w).alloc (Nat.le_refl _) o).cell (p := a) (World.block_lt_of_cell? w _ h)]; exact h
theorem ret_i {k : IntKind} {a b : Int} (h : a = b) : Ending.returned (.int k b) = Ending.returned (.int k a) := by rw [h]
theorem below_one (w : World) (o : Obj) : Below w.heap.size w (w.alloc o) := (Below.refl _ _).alloc (Nat.le_refl _) _
theorem SliceAt.step {w w' : World} {v : Value} {n sz : Nat} {f : Nat → Nat → Value} (hb : Below w.heap.size w w') (h : SliceAt w.heap.size w v n sz f) : SliceAt w'.heap.size w' v n sz f := (h.below hb).mono hb.size
theorem trait_eq (nm : ByteArray) (p : Option Addr) (n cap : Nat) (s : ByteArray) (a : Addr) (w : World) (hc : w.cell? a = some (.string s)) :
    Calls Tryz.prog 104 #[.agg #[.string nm, .slice p n cap], .pointer (some a)] w fun e w' => e = .returned (.bool (nm.toList == s.toList)) ∧ Below w.heap.size w w' := by
  have hc' := alloc_cell (.cells #[.string nm, .slice p n cap] 64) hc
  have hlt := World.block_lt_of_cell? w _ hc
  cases hq : (nm.toList == s.toList)
  all_goals
    go_enter Tryz.func104, Tryz.ntmps104
    go_wp2
    go_ret
    exact ⟨rfl, below_one _ _⟩
theorem class_eq (nm : ByteArray) (p : Option Addr) (n cap : Nat) (s : ByteArray) (a : Addr) (w : World) (hc : w.cell? a = some (.string s)) :
    Calls Tryz.prog 106 #[.agg #[.string nm, .slice p n cap], .pointer (some a)] w fun e w' => e = .returned (.bool (nm.toList == s.toList)) ∧ Below w.heap.size w w' := by
  have hc' := alloc_cell (.cells #[.string nm, .slice p n cap] 67) hc
  have hlt := World.block_lt_of_cell? w _ hc
  cases hq : (nm.toList == s.toList)
  all_goals
    go_enter Tryz.func106, Tryz.ntmps106
    go_wp2
    go_ret
    exact ⟨rfl, below_one _ _⟩
set_option maxHeartbeats 800000 in
theorem trait_index (T : List Tra) (n : Nat) (v : Value) (a : Addr) (s : ByteArray) (w : World) (hv : SliceAt w.heap.size w v n 2 (traF T)) (hn : n ≤ T.length) (hE : ∀ t ∈ T, ∃ p m c, t.vv = .slice p m c) (hc : w.cell? a = some (.string s)) :
    Calls Tryz.prog 103 #[v, .func (.func 104) #[] #[.pointer (some a)]] w fun e w' => e = .returned (.int .i64 (traitIdx T n s)) ∧ Below w.heap.size w w' := by
  obtain ⟨p, cap, rfl, hcap, hmax, hrow⟩ := hv
  unfold maxLen at hmax
  have HR := Lib.hid hrow; clear hrow
  have HC := Lib.hid hc
  have HL := Lib.hid (World.block_lt_of_cell? w _ hc); clear hc
  have HE := Lib.hid hE; clear hE
  go_enter Tryz.func103, Tryz.ntmps103
  go_wp2
  go_loopw [8] (fun i wr => ∃ k : Nat, k ≤ n ∧ i = .int .i64 k ∧ (∀ j, j < k → traQ T s j = false) ∧ Below w.heap.size w wr) (fun i _ => n - (intOf i).toNat)
  case atStart => exact ⟨0, by omega, rfl, fun i h => by omega, Below.refl _ _⟩
  case round =>
    obtain ⟨k, hk, rfl, hq, hB⟩ := hrel
    have HQ := Lib.hid hq; clear hq
    have HB := Lib.hid hB; clear hB
    by_cases hlt : k < n
    · obtain ⟨A, rfl, hA, hcell⟩ := HR.out (by omega)
      rename World => wr
      have hkT : k < T.length := by omega
      obtain ⟨p', m', c', hvv⟩ := HE.out T[k] (List.getElem_mem _)
      have e1 : wr.cell? (A.add (k * 2)) = some (.string T[k].name) := by
        rw [HB.out.cell (p := A.add (k * 2)) (by rw [add_block]; exact hA)]
        have := hcell k 0 hlt (by omega)
        simpa [traF, hkT] using this
      have e2 : wr.cell? { block := (A.add (k * 2)).block, off := (A.add (k * 2)).off + 1 } = some (.slice p' m' c') := by
        rw [HB.out.cell (p := ⟨(A.add (k * 2)).block, (A.add (k * 2)).off + 1, none⟩) (by show (A.add (k * 2)).block < _; rw [add_block]; exact hA)]
        have := cell_next (hcell k 1 hlt (by omega))
        simpa [traF, hkT, hvv] using this
      have HCW := Lib.hid (show wr.cell? a = some (.string s) by rw [HB.out.cell (p := a) HL.out]; exact HC.out)
      have ag := Tryz.isAgg64
      have zg := Tryz.sizeOf64
      clear hcell hvv
      cases hx : (T[k].name.toList == s.toList)
      · have HX := Lib.hid hx
        go_wp2_with (go_at_call 104; refine (trait_eq _ _ _ _ s a wr HCW.out).mono ?_; rintro e w' ⟨rfl, hb'⟩; have HB' := Lib.hid hb'; clear hb')
        go_roundw
        case rel => exact ⟨k + 1, by omega, by go_num, none_succ' HQ.out (traQ_at hkT HX.out), HB.out.trans (HB'.out.mono HB.out.size)⟩
        case measure => simp [intOf]; omega
      · have HX := Lib.hid hx
        go_wp2_with (go_at_call 104; refine (trait_eq _ _ _ _ s a wr HCW.out).mono ?_; rintro e w' ⟨rfl, hb'⟩; have HB' := Lib.hid hb'; clear hb')
        go_ret
        exact ⟨ret_i (by unfold traitIdx; exact idxOf_at hlt HQ.out (traQ_at hkT HX.out)), HB.out.trans (HB'.out.mono HB.out.size)⟩
    · go_wp2
      go_ret
      exact ⟨ret_i (by unfold traitIdx; exact idxOf_none fun j hj => HQ.out j (by omega)), HB.out⟩
set_option maxHeartbeats 800000 in
theorem class_index (T : List Cla) (n : Nat) (v : Value) (a : Addr) (s : ByteArray) (w : World) (hv : SliceAt w.heap.size w v n 2 (claF T)) (hn : n ≤ T.length) (hE : ∀ t ∈ T, ∃ p m c, t.sv = .slice p m c) (hc : w.cell? a = some (.string s)) :
    Calls Tryz.prog 105 #[v, .func (.func 106) #[] #[.pointer (some a)]] w fun e w' => e = .returned (.int .i64 (classIdx T n s)) ∧ Below w.heap.size w w' := by
  obtain ⟨p, cap, rfl, hcap, hmax, hrow⟩ := hv
  unfold maxLen at hmax
  have HR := Lib.hid hrow; clear hrow
  have HC := Lib.hid hc
  have HL := Lib.hid (World.block_lt_of_cell? w _ hc); clear hc
  have HE := Lib.hid hE; clear hE
  go_enter Tryz.func105, Tryz.ntmps105
  go_wp2
  go_loopw [8] (fun i wr => ∃ k : Nat, k ≤ n ∧ i = .int .i64 k ∧ (∀ j, j < k → claQ T s j = false) ∧ Below w.heap.size w wr) (fun i _ => n - (intOf i).toNat)
  case atStart => exact ⟨0, by omega, rfl, fun i h => by omega, Below.refl _ _⟩
  case round =>
    obtain ⟨k, hk, rfl, hq, hB⟩ := hrel
    have HQ := Lib.hid hq; clear hq
    have HB := Lib.hid hB; clear hB
    by_cases hlt : k < n
    · obtain ⟨A, rfl, hA, hcell⟩ := HR.out (by omega)
      rename World => wr
      have hkT : k < T.length := by omega
      obtain ⟨p', m', c', hvv⟩ := HE.out T[k] (List.getElem_mem _)
      have e1 : wr.cell? (A.add (k * 2)) = some (.string T[k].name) := by
        rw [HB.out.cell (p := A.add (k * 2)) (by rw [add_block]; exact hA)]
        have := hcell k 0 hlt (by omega)
        simpa [claF, hkT] using this
      have e2 : wr.cell? { block := (A.add (k * 2)).block, off := (A.add (k * 2)).off + 1 } = some (.slice p' m' c') := by
        rw [HB.out.cell (p := ⟨(A.add (k * 2)).block, (A.add (k * 2)).off + 1, none⟩) (by show (A.add (k * 2)).block < _; rw [add_block]; exact hA)]
        have := cell_next (hcell k 1 hlt (by omega))
        simpa [claF, hkT, hvv] using this
      have HCW := Lib.hid (show wr.cell? a = some (.string s) by rw [HB.out.cell (p := a) HL.out]; exact HC.out)
      have ag := Tryz.isAgg67
      have zg := Tryz.sizeOf67
      clear hcell hvv
      cases hx : (T[k].name.toList == s.toList)
      · have HX := Lib.hid hx
        go_wp2_with (go_at_call 106; refine (class_eq _ _ _ _ s a wr HCW.out).mono ?_; rintro e w' ⟨rfl, hb'⟩; have HB' := Lib.hid hb'; clear hb')
        go_roundw
        case rel => exact ⟨k + 1, by omega, by go_num, none_succ' HQ.out (claQ_at hkT HX.out), HB.out.trans (HB'.out.mono HB.out.size)⟩
        case measure => simp [intOf]; omega
      · have HX := Lib.hid hx
        go_wp2_with (go_at_call 106; refine (class_eq _ _ _ _ s a wr HCW.out).mono ?_; rintro e w' ⟨rfl, hb'⟩; have HB' := Lib.hid hb'; clear hb')
        go_ret
        exact ⟨ret_i (by unfold classIdx; exact idxOf_at hlt HQ.out (claQ_at hkT HX.out)), HB.out.trans (HB'.out.mono HB.out.size)⟩
    · go_wp2
      go_ret
      exact ⟨ret_i (by unfold classIdx; exact idxOf_none fun j hj => HQ.out j (by omega)), HB.out⟩
theorem traitOf_any (T : List Tra) (n : Nat) (v : Value) (s : ByteArray) (w : World) (hv : SliceAt w.heap.size w v n 2 (traF T)) (hn : n ≤ T.length) (hE : ∀ t ∈ T, ∃ p m c, t.vv = .slice p m c) :
    Calls Tryz.prog 71 #[v, .string s] w fun e w' => e = .returned (.int .i64 (traitIdx T n s)) ∧ Below w.heap.size w w' := by
  have HB := Lib.hid (below_one w (.cells #[.string s] 9))
  have HV := Lib.hid (hv.step HB.out); clear hv
  have HC := Lib.hid (show (w.alloc (.cells #[.string s] 9)).cell? ⟨w.heap.size, 0, none⟩ = some (.string s) by rw [World.cell?_alloc_new]; rfl)
  have HE := Lib.hid hE; clear hE
  go_enter Tryz.func71, Tryz.ntmps71
  go_wp2_with (go_at_call 103; refine (trait_index T n v _ s _ HV.out hn HE.out HC.out).mono ?_; rintro e w' ⟨rfl, hb'⟩)
  go_ret
  exact ⟨rfl, HB.out.trans (hb'.mono HB.out.size)⟩
theorem classOf_any (T : List Cla) (n : Nat) (v : Value) (s : ByteArray) (w : World) (hv : SliceAt w.heap.size w v n 2 (claF T)) (hn : n ≤ T.length) (hE : ∀ t ∈ T, ∃ p m c, t.sv = .slice p m c) :
    Calls Tryz.prog 73 #[v, .string s] w fun e w' => e = .returned (.int .i64 (classIdx T n s)) ∧ Below w.heap.size w w' := by
  have HB := Lib.hid (below_one w (.cells #[.string s] 9))
  have HV := Lib.hid (hv.step HB.out); clear hv
  have HC := Lib.hid (show (w.alloc (.cells #[.string s] 9)).cell? ⟨w.heap.size, 0, none⟩ = some (.string s) by rw [World.cell?_alloc_new]; rfl)
  have HE := Lib.hid hE; clear hE
  go_enter Tryz.func73, Tryz.ntmps73
  go_wp2_with (go_at_call 105; refine (class_index T n v _ s _ HV.out hn HE.out HC.out).mono ?_; rintro e w' ⟨rfl, hb'⟩)
  go_ret
  exact ⟨rfl, HB.out.trans (hb'.mono HB.out.size)⟩
set_option maxHeartbeats 800000 in
theorem str_index (V : List ByteArray) (n : Nat) (v : Value) (s : ByteArray) (w : World) (hv : SliceAt w.heap.size w v n 1 (strF V)) (hn : n ≤ V.length) :
    Calls Tryz.prog 95 #[v, .string s] w fun e w' => e = .returned (.int .i64 (strIdx V n s)) ∧ w' = w := by
  obtain ⟨p, cap, rfl, hcap, hmax, hrow⟩ := hv
  unfold maxLen at hmax
  have HR := Lib.hid hrow; clear hrow
  go_enter Tryz.func95, Tryz.ntmps95
  go_wp2
  go_loopw [8] (fun i wr => ∃ k : Nat, k ≤ n ∧ i = .int .i64 k ∧ (∀ j, j < k → strQ V s j = false) ∧ wr = w) (fun i _ => n - (intOf i).toNat)
  case atStart => exact ⟨0, by omega, rfl, fun i h => by omega, rfl⟩
  case round =>
    obtain ⟨k, hk, rfl, hq, rfl⟩ := hrel
    have HQ := Lib.hid hq; clear hq
    by_cases hlt : k < n
    · obtain ⟨A, rfl, hA, hcell⟩ := HR.out (by omega)
      have hkT : k < V.length := by omega
      have e1 := hcell k 0 hlt (by omega)
      simp [strF, hkT] at e1
      clear hcell
      cases hx : (s.toList == V[k].toList)
      · have HX := Lib.hid hx
        go_wp2
        go_roundw
        case rel => exact ⟨k + 1, by omega, by go_num, none_succ' HQ.out (strQ_at hkT HX.out), by first | rfl | trivial⟩
        case measure => simp [intOf]; omega
      · have HX := Lib.hid hx
        go_wp2
        go_ret
        exact ⟨ret_i (by unfold strIdx; exact idxOf_at hlt HQ.out (strQ_at hkT HX.out)), rfl⟩
    · go_wp2
      go_ret
      exact ⟨ret_i (by unfold strIdx; exact idxOf_none fun j hj => HQ.out j (by omega)), rfl⟩
theorem str_contains (V : List ByteArray) (n : Nat) (v : Value) (s : ByteArray) (w : World) (hv : SliceAt w.heap.size w v n 1 (strF V)) (hn : n ≤ V.length) :
    Calls Tryz.prog 65 #[v, .string s] w fun e w' => e = .returned (.bool (decide (0 ≤ strIdx V n s))) ∧ w' = w := by
  have HV := Lib.hid hv; clear hv
  go_enter Tryz.func65, Tryz.ntmps65
  go_wp2_with (go_at_call 95; refine (str_index V n v s w HV.out hn).mono ?_; rintro e w' ⟨rfl, rfl⟩)
  go_ret
  exact ⟨by first | rfl | simp, rfl⟩
set_option maxHeartbeats 1600000 in
theorem checkValues_any (V : List ByteArray) (v : Value) (w : World) (hv : SliceAt w.heap.size w v V.length 1 (strF V)) (hs : ∀ x ∈ V, x.size ≤ maxLen) :
    Calls Tryz.prog 72 #[v] w fun e w' => e = .returned (.int .u8 (valuesErr V)) ∧ w' = w := by
  have hv0 := hv
  obtain ⟨p, cap, rfl, hcap, hmax, hrow⟩ := hv
  unfold maxLen at hmax
  have HV := Lib.hid hv0; clear hv0
  have HR := Lib.hid hrow; clear hrow
  have HS := Lib.hid hs; clear hs
  by_cases h8 : (8 : Int) < (V.length : Int)
  · go_enter Tryz.func72, Tryz.ntmps72
    go_wp2
    go_ret
    exact ⟨ret_i (by unfold valuesErr; rw [if_pos (by omega)]), rfl⟩
  by_cases h0 : (V.length : Int) = 0
  · have h0' : V.length = 0 := by omega
    go_enter Tryz.func72, Tryz.ntmps72
    go_wp2
    go_ret
    exact ⟨ret_i (by unfold valuesErr; rw [if_neg (by omega), if_pos h0']), rfl⟩
  have HE : Hid (valuesErr V = errOf V.length (valueErr V)) := Lib.hid (by unfold valuesErr; rw [if_neg (by omega), if_neg (by omega)])
  go_enter Tryz.func72, Tryz.ntmps72
  go_wp2
  go_loopw [13] (fun i wr => ∃ k : Nat, k ≤ V.length ∧ i = .int .i64 k ∧ (∀ j, j < k → valueErr V j = 0) ∧ wr = w) (fun i _ => V.length - (intOf i).toNat)
  case atStart => exact ⟨0, by omega, rfl, fun i h => by omega, rfl⟩
  case round =>
    obtain ⟨k, hk, rfl, hq, rfl⟩ := hrel
    have HQ := Lib.hid hq; clear hq
    by_cases hlt : k < V.length
    · obtain ⟨A, rfl, hA, hcell⟩ := HR.out (by omega)
      have e1 := hcell k 0 hlt (by omega)
      simp [strF, hlt] at e1
      clear hcell
      have HP := Lib.hid (HV.out.upto (k := k) (by omega))
      have hsz := HS.out V[k] (List.getElem_mem _)
      have hcapk : (k : Int) ≤ (cap : Int) := by omega
      cases hnm : nameB V[k]
      · have HX := Lib.hid (show valueErr V k = 5 by unfold valueErr; rw [List.getElem?_eq_getElem hlt]; simp [hnm])
        go_wp2_with (go_at_call 70; refine (name_any _ _ hsz).mono ?_; rintro e w' ⟨rfl, rfl⟩)
        go_ret
        exact ⟨ret_i (by rw [HE.out, errOf_at hlt HQ.out (by rw [HX.out]; decide), HX.out]), rfl⟩
      · by_cases hin : 0 ≤ strIdx V k V[k]
        · have HX := Lib.hid (show valueErr V k = 6 by unfold valueErr; rw [List.getElem?_eq_getElem hlt]; simp [hnm, hin])
          go_wp2_with (first
            | (go_at_call 70; refine (name_any _ _ hsz).mono ?_; rintro e w' ⟨rfl, rfl⟩)
            | (go_at_call 65; refine (str_contains V k _ V[k] _ HP.out (by omega)).mono ?_; rintro e w' ⟨rfl, rfl⟩))
          go_ret
          exact ⟨ret_i (by rw [HE.out, errOf_at hlt HQ.out (by rw [HX.out]; decide), HX.out]), rfl⟩
        · have HX := Lib.hid (show valueErr V k = 0 by unfold valueErr; rw [List.getElem?_eq_getElem hlt]; simp [hnm, hin])
          go_wp2_with (first
            | (go_at_call 70; refine (name_any _ _ hsz).mono ?_; rintro e w' ⟨rfl, rfl⟩)
            | (go_at_call 65; refine (str_contains V k _ V[k] _ HP.out (by omega)).mono ?_; rintro e w' ⟨rfl, rfl⟩))
          go_roundw
          case rel => exact ⟨k + 1, by omega, by go_num, below_succ HQ.out HX.out, by first | rfl | trivial⟩
          case measure => simp [intOf]; omega
    · go_wp2
      go_ret
      exact ⟨ret_i (by rw [HE.out, errOf_none fun j hj => HQ.out j (by omega)]), rfl⟩
end Go.Proofs.YtgddmegjncbndaaGreatDoor
namespace Go.Proofs.YtgddmegjncbndaaGreatDoor
open Go Go.RowKit
/-- The traits of a lexicon, where they lie. -/
def TrasAt (w : World) (v : Value) (T : List Tra) : Prop := SliceAt w.heap.size w v T.length 2 (traF T) ∧ ∀ t ∈ T, SliceAt w.heap.size w t.vv t.vs.length 1 (strF t.vs) ∧ t.name.size ≤ maxLen ∧ ∀ x ∈ t.vs, x.size ≤ maxLen
theorem TrasAt.step {w w' : World} {v : Value} {T : List Tra} (hb : Below w.heap.size w w') (h : TrasAt w v T) : TrasAt w' v T :=
  ⟨h.1.step hb, fun t ht => ⟨(h.2 t ht).1.step hb, (h.2 t ht).2⟩⟩
theorem TrasAt.forms {w : World} {v : Value} {T : List Tra} (h : TrasAt w v T) : ∀ t ∈ T, ∃ p m c, t.vv = .slice p m c := fun t ht => by
  obtain ⟨p, c, e, _⟩ := (h.2 t ht).1
  exact ⟨p, _, c, e⟩
theorem reads_step {w w' : World} {v : Value} {l : List Ft} (hb : Below w.heap.size w w') (h : ReadsIn w.heap.size w v l) : ReadsIn w'.heap.size w' v l := readsIn_mono hb.size (readsIn_below hb h)
theorem open_row {B : Nat} {w : World} {v : Value} {l : List Ft} (h : ReadsIn B w v l) :
    ∃ (p : Option Addr) (cap : Nat), v = .slice p l.length cap ∧ l.length ≤ cap ∧ cap ≤ maxLen ∧ (0 < l.length → ∃ A, p = some A ∧ A.block < B ∧ RowAt w A l) := by
  rcases h with ⟨rfl, rfl⟩ | ⟨A, cap, rfl, h1, h2, h3, h4⟩
  · exact ⟨none, 0, rfl, by simp, by simp, fun h => by simp at h⟩
  · exact ⟨some A, cap, rfl, h1, h2, fun h0 => ⟨A, rfl, h3 h0, h4⟩⟩
theorem lt_flip {x y : List UInt8} (hn : (x == y) = false) : Op.bytesLess x y = !Op.bytesLess y x := by
  rw [bytesLess_eq, bytesLess_eq]
  have hn' : x ≠ y := by simpa using hn
  by_cases h : x < y
  · have h2 : ¬ y < x := fun h' => List.lt_irrefl _ (List.lt_trans h h')
    simp [h, h2]
  · have h2 : y < x := by
      rcases List.le_iff_lt_or_eq.1 (List.not_lt.1 h) with h1 | h1
      · exact h1
      · exact absurd h1.symm hn'
    simp [h, h2]
theorem featErr_name {T : List Tra} {b : List Ft} {k : Nat} (hk : k < b.length) (h : traitIdx T T.length b[k].1 = -1) : featErr T b k = 5 := by
  unfold featErr
  rw [List.getElem?_eq_getElem hk]
  simp only [h]
  split <;> rfl
theorem featErr_at {T : List Tra} {b : List Ft} {k t : Nat} (hk : k < b.length) (ht : t < T.length) (h : traitIdx T T.length b[k].1 = (t : Int)) :
    featErr T b k = if strIdx T[t].vs T[t].vs.length b[k].2 < 0 then 1
      else if 0 < k ∧ ((b.getD (k - 1) (⟨#[]⟩, ⟨#[]⟩)).1.toList == b[k].1.toList) = true then 6
      else if 0 < k ∧ Op.bytesLess b[k].1.toList (b.getD (k - 1) (⟨#[]⟩, ⟨#[]⟩)).1.toList = true then 1 else 0 := by
  unfold featErr
  rw [List.getElem?_eq_getElem hk]
  simp only [h, Int.toNat_natCast, List.getElem?_eq_getElem ht]
  rw [if_neg (by omega)]
set_option maxHeartbeats 4000000 in
theorem checkBundle_any (T : List Tra) (b : List Ft) (tv bv : Value) (w : World) (hT : TrasAt w tv T) (hb : ReadsIn w.heap.size w bv b) :
    Calls Tryz.prog 46 #[tv, bv] w fun e w' => e = .returned (.int .u8 (bundleErr T b)) ∧ Below w.heap.size w w' := by
  obtain ⟨⟨p, capT, rfl, hcT, hmT, hrT⟩, hE0⟩ := id hT
  obtain ⟨q, capB, rfl, hcB, hmB, hrB⟩ := open_row hb
  unfold maxLen at hmT hmB
  have HT := Lib.hid hT; clear hT
  have HRT := Lib.hid hrT; clear hrT
  have HRB := Lib.hid hrB; clear hrB hb hE0
  by_cases h8 : (8 : Int) < (b.length : Int)
  · go_enter Tryz.func46, Tryz.ntmps46
    go_wp2
    go_ret
    exact ⟨ret_i (by unfold bundleErr; rw [if_pos (by omega)]), Below.refl _ _⟩
  have HE : Hid (bundleErr T b = errOf b.length (featErr T b)) := Lib.hid (by unfold bundleErr; rw [if_neg (by omega)])
  go_enter Tryz.func46, Tryz.ntmps46
  go_wp2
  go_loopw [13] (fun i wr => ∃ k : Nat, k ≤ b.length ∧ i = .int .i64 k ∧ (∀ j, j < k → featErr T b j = 0) ∧ Below w.heap.size w wr) (fun i _ => b.length - (intOf i).toNat)
  case atStart => exact ⟨0, by omega, rfl, fun i h => by omega, Below.refl _ _⟩
  case round =>
    obtain ⟨k, hk, rfl, hq, hB⟩ := hrel
    have HQ := Lib.hid hq; clear hq
    have HB := Lib.hid hB; clear hB
    by_cases hlt : k < b.length
    · obtain ⟨B, rfl, hbB, RB⟩ := HRB.out (by omega)
      rename World => wr
      have R2 := rowAt_below HB.out (fun _ => hbB) RB
      obtain ⟨y1, y2⟩ := R2 k hlt
      replace y2 := cell_next y2
      clear R2
      have a61 := Tryz.isAgg61
      have z61 := Tryz.sizeOf61
      have HX := Lib.hid (HB.out.alloc HB.out.size (.cells #[.string b[k].1, .string b[k].2] 61))
      have HTX := Lib.hid (HT.out.step HX.out)
      rcases idxOf_cases T.length (traQ T b[k].1) with ⟨hneg, _⟩ | ⟨t, ht, _, _, heq⟩
      · have HI : Hid (traitIdx T T.length b[k].1 = -1) := Lib.hid hneg
        have HF := Lib.hid (featErr_name hlt HI.out)
        clear hneg
        go_wp2_with (go_at_call 71; refine (traitOf_any T T.length _ b[k].1 _ HTX.out.1 (Nat.le_refl _) HTX.out.forms).mono ?_; rintro e w2 ⟨he, hb2⟩; rw [HI.out] at he; subst he; have HB2 := Lib.hid (HX.out.trans (hb2.mono HX.out.size)); clear hb2)
        go_ret
        exact ⟨ret_i (by rw [HE.out, errOf_at hlt HQ.out (by rw [HF.out]; decide), HF.out]), HB2.out⟩
      · have HI : Hid (traitIdx T T.length b[k].1 = (t : Int)) := Lib.hid heq
        have HF := Lib.hid (featErr_at hlt ht HI.out)
        clear heq
        have ht1 : (t : Int) < (T.length : Int) := by omega
        have ht0 : ¬ ((t : Int) < 0) := by omega
        have ht2 : (0 : Int) ≤ (t : Int) := by omega
        obtain ⟨A, rfl, hbA, RA⟩ := HRT.out (by omega)
        obtain ⟨⟨p', c', hvv, hc', hm', _⟩, _⟩ := HT.out.2 T[t] (List.getElem_mem _)
        have HA1 := Lib.hid (show w.cell? { block := (A.add (t * 2)).block, off := (A.add (t * 2)).off + 1 } = some (.slice p' T[t].vs.length c') by
          have := cell_next (RA t 1 ht (by omega))
          simpa [traF, ht, hvv] using this)
        have HAB := Lib.hid (show (A.add (t * 2)).block < w.heap.size by rw [add_block]; exact hbA)
        go_wp2_with (go_at_call 71; refine (traitOf_any T T.length _ b[k].1 _ HTX.out.1 (Nat.le_refl _) HTX.out.forms).mono ?_; rintro e w2 ⟨he, hb2⟩; rw [HI.out] at he; subst he; have HB2 := Lib.hid (HX.out.trans (hb2.mono HX.out.size)); have HBX := Lib.hid hb2; clear hb2)
        have f0 : w2.cell? ⟨wr.heap.size, 0, none⟩ = some (.string b[k].1) := by
          rw [HBX.out.cell (p := ⟨wr.heap.size, 0, none⟩) (by simp), World.cell?_alloc_new]; rfl
        have f1 : w2.cell? ⟨wr.heap.size, 1, none⟩ = some (.string b[k].2) := by
          rw [HBX.out.cell (p := ⟨wr.heap.size, 1, none⟩) (by simp), World.cell?_alloc_new]; rfl
        have a1 : w2.cell? { block := (A.add (t * 2)).block, off := (A.add (t * 2)).off + 1 } = some (.slice p' T[t].vs.length c') := by
          rw [HB2.out.cell (p := ⟨(A.add (t * 2)).block, (A.add (t * 2)).off + 1, none⟩) HAB.out]; exact HA1.out
        have HVS := Lib.hid (hvv ▸ (HT.out.2 T[t] (List.getElem_mem _)).1.step HB2.out)
        clear hvv
        by_cases hin : strIdx T[t].vs T[t].vs.length b[k].2 < 0
        · have hd : decide (0 ≤ strIdx T[t].vs T[t].vs.length b[k].2) = false := decide_eq_false (by omega)
          have HF1 := Lib.hid (show featErr T b k = 1 by rw [HF.out, if_pos hin])
          go_wp2
          go_quiet ((go_at_call 65; refine Calls.quiet_of_same (str_contains _ _ _ _ _ (HVS.out.step (below_drewN _ (Below.refl _ _))) (Nat.le_refl _))))
          go_wp2
          go_ret
          exact ⟨ret_i (by rw [HE.out, errOf_at hlt HQ.out (by rw [HF1.out]; decide), HF1.out]), below_drewN _ HB2.out⟩
        · have hd : decide (0 ≤ strIdx T[t].vs T[t].vs.length b[k].2) = true := decide_eq_true (by omega)
          have HF1 := Lib.hid (HF.out.trans (if_neg hin)); clear HF
          by_cases hk0 : k = 0
          · have HF2 := Lib.hid (HF1.out.trans ((if_neg (by omega)).trans (if_neg (by omega)))); clear HF1
            subst hk0
            go_wp2
            go_quiet ((go_at_call 65; refine Calls.quiet_of_same (str_contains _ _ _ _ _ (HVS.out.step (below_drewN _ (Below.refl _ _))) (Nat.le_refl _))))
            go_wp2
            go_quiet (fail)
            go_wp2
            go_quiet (fail)
            go_wp2
            go_roundw
            case rel => exact ⟨1, by omega, by go_num, below_succ HQ.out HF2.out, by repeat (first | exact HB2.out | apply below_drewN)⟩
            case measure => simp [intOf]; omega
          · have hk1 : 0 < k := by omega
            have hdk : decide (0 < k) = true := decide_eq_true hk1
            have hk2 : (0 : Int) ≤ (k : Int) - 1 := by omega
            have hk3 : (k : Int) - 1 < (b.length : Int) := by omega
            have p1 : w2.cell? (B.add ((k - 1) * 2)) = some (.string b[k - 1].1) := by
              rw [HB2.out.cell (p := B.add ((k - 1) * 2)) (by rw [add_block]; exact hbB)]; exact (RB (k - 1) (by omega)).1
            have hg : b.getD (k - 1) (⟨#[]⟩, ⟨#[]⟩) = b[k - 1] := by rw [List.getD_eq_getElem?_getD, List.getElem?_eq_getElem (by omega)]; rfl
            have HG := Lib.hid hg; clear hg
            cases hn : (b[k - 1].1.toList == b[k].1.toList)
            · cases hl : Op.bytesLess b[k].1.toList b[k - 1].1.toList
              · have HF2 := Lib.hid (HF1.out.trans ((if_neg (by rw [HG.out, hn]; simp)).trans (if_neg (by rw [HG.out, hl]; simp)))); clear HF1
                have hl2 : Op.bytesLess b[k - 1].1.toList b[k].1.toList = true := by rw [lt_flip hn, hl]; rfl
                go_wp2
                go_quiet ((go_at_call 65; refine Calls.quiet_of_same (str_contains _ _ _ _ _ (HVS.out.step (below_drewN _ (Below.refl _ _))) (Nat.le_refl _))))
                go_wp2
                go_quiet (fail)
                go_wp2
                go_quiet (fail)
                go_wp2
                go_roundw
                case rel => exact ⟨k + 1, by omega, by go_num, below_succ HQ.out HF2.out, by repeat (first | exact HB2.out | apply below_drewN)⟩
                case measure => simp [intOf]; omega
              · have HF2 := Lib.hid (HF1.out.trans ((if_neg (by rw [HG.out, hn]; simp)).trans (if_pos ⟨by omega, by rw [HG.out, hl]⟩))); clear HF1
                have hl2 : Op.bytesLess b[k - 1].1.toList b[k].1.toList = false := by rw [lt_flip hn, hl]; rfl
                go_wp2
                go_quiet ((go_at_call 65; refine Calls.quiet_of_same (str_contains _ _ _ _ _ (HVS.out.step (below_drewN _ (Below.refl _ _))) (Nat.le_refl _))))
                go_wp2
                go_quiet (fail)
                go_wp2
                go_quiet (fail)
                go_wp2
                go_ret
                exact ⟨ret_i (by rw [HE.out, errOf_at hlt HQ.out (by rw [HF2.out]; decide), HF2.out]), by repeat (first | exact HB2.out | apply below_drewN)⟩
            · have HF2 := Lib.hid (HF1.out.trans (if_pos ⟨by omega, by rw [HG.out, hn]⟩)); clear HF1
              go_wp2
              go_quiet ((go_at_call 65; refine Calls.quiet_of_same (str_contains _ _ _ _ _ (HVS.out.step (below_drewN _ (Below.refl _ _))) (Nat.le_refl _))))
              go_wp2
              go_quiet (fail)
              go_wp2
              go_ret
              exact ⟨ret_i (by rw [HE.out, errOf_at hlt HQ.out (by rw [HF2.out]; decide), HF2.out]), by repeat (first | exact HB2.out | apply below_drewN)⟩
    · go_wp2
      go_ret
      exact ⟨ret_i (by rw [HE.out, errOf_none fun j hj => HQ.out j (by omega)]), HB.out⟩
end Go.Proofs.YtgddmegjncbndaaGreatDoor
namespace Go.Proofs.YtgddmegjncbndaaGreatDoor
open Go Go.RowKit
def patB (p : Int → Bool) (s : ByteArray) : Bool := decide (s.size ≤ 6) && allB p s
def slotErr (T : List Tra) (s : Slo) : Int := if s.cut < 0 ∨ 24 < s.cut ∨ patB isL s.pre = false ∨ patB isL s.add = false then 1 else bundleErr T s.fs
def classErr (T : List Tra) (C : List Cla) (i : Nat) : Int := match C[i]? with
  | some c => if nameB c.name = false then 5 else if 0 ≤ classIdx C i c.name then 6 else if 24 < c.slots.length then 3 else if c.slots.length = 0 then 1
    else errOf c.slots.length fun k => match c.slots[k]? with | some s => slotErr T s | none => 0
  | none => 0
def classesErr (T : List Tra) (C : List Cla) : Int := if 16 < C.length then 3 else errOf C.length (classErr T C)
def SlosAt (w : World) (v : Value) (l : List Slo) : Prop := SliceAt w.heap.size w v l.length 4 (sloF l) ∧ ∀ s ∈ l, ReadsIn w.heap.size w s.fv s.fs ∧ s.pre.size ≤ maxLen ∧ s.add.size ≤ maxLen
theorem SlosAt.step {w w' : World} {v : Value} {l : List Slo} (hb : Below w.heap.size w w') (h : SlosAt w v l) : SlosAt w' v l := ⟨h.1.step hb, fun s hs => ⟨reads_step hb (h.2 s hs).1, (h.2 s hs).2⟩⟩
def ClasAt (w : World) (v : Value) (C : List Cla) : Prop := SliceAt w.heap.size w v C.length 2 (claF C) ∧ ∀ c ∈ C, SlosAt w c.sv c.slots ∧ c.name.size ≤ maxLen
theorem ClasAt.step {w w' : World} {v : Value} {C : List Cla} (hb : Below w.heap.size w w') (h : ClasAt w v C) : ClasAt w' v C := ⟨h.1.step hb, fun c hc => ⟨(h.2 c hc).1.step hb, (h.2 c hc).2⟩⟩
theorem ClasAt.forms {w : World} {v : Value} {C : List Cla} (h : ClasAt w v C) : ∀ c ∈ C, ∃ p m k, c.sv = .slice p m k := fun c hc => by
  obtain ⟨p, k, e, _⟩ := (h.2 c hc).1.1
  exact ⟨p, _, k, e⟩
def EntsAt (w : World) (v : Value) (l : List Ent) : Prop := SliceAt w.heap.size w v l.length 4 (entF l) ∧ ∀ x ∈ l, ReadsIn w.heap.size w x.fv x.fs ∧ SliceAt w.heap.size w x.mv x.forms.length 2 (irrF x.forms) ∧ x.lem.size ≤ maxLen ∧ x.cls.size ≤ maxLen ∧ ∀ f ∈ x.forms, f.word.size ≤ maxLen
theorem EntsAt.step {w w' : World} {v : Value} {l : List Ent} (hb : Below w.heap.size w w') (h : EntsAt w v l) : EntsAt w' v l := ⟨h.1.step hb, fun x hx => ⟨reads_step hb (h.2 x hx).1, (h.2 x hx).2.1.step hb, (h.2 x hx).2.2⟩⟩
def SpesAt (w : World) (v : Value) (l : List Spe) : Prop := SliceAt w.heap.size w v l.length 4 (speF l) ∧ ∀ x ∈ l, x.frm.size ≤ maxLen ∧ x.to.size ≤ maxLen ∧ x.left.size ≤ maxLen ∧ x.right.size ≤ maxLen
theorem SpesAt.step {w w' : World} {v : Value} {l : List Spe} (hb : Below w.heap.size w w') (h : SpesAt w v l) : SpesAt w' v l := ⟨h.1.step hb, h.2⟩
def LinsAt (w : World) (v : Value) (l : List Lin) : Prop := SliceAt w.heap.size w v l.length 3 (linF l) ∧ ∀ x ∈ l, ReadsIn w.heap.size w x.fv x.fs ∧ x.cls.size ≤ maxLen ∧ x.glue.size ≤ maxLen
theorem LinsAt.step {w w' : World} {v : Value} {l : List Lin} (hb : Below w.heap.size w w') (h : LinsAt w v l) : LinsAt w' v l := ⟨h.1.step hb, fun x hx => ⟨reads_step hb (h.2 x hx).1, (h.2 x hx).2⟩⟩
structure LexAt (w : World) (L : Lex) : Prop where
  vow : L.vowels.size ≤ maxLen
  tras : TrasAt w L.tv L.traits
  clas : ClasAt w L.cv L.classes
  ents : EntsAt w L.ev L.entries
  spes : SpesAt w L.sv L.spells
  lins : LinsAt w L.lv L.links
theorem LexAt.step {w w' : World} {L : Lex} (hb : Below w.heap.size w w') (h : LexAt w L) : LexAt w' L := ⟨h.vow, h.tras.step hb, h.clas.step hb, h.ents.step hb, h.spes.step hb, h.lins.step hb⟩
theorem SliceAt.form {B : Nat} {w : World} {v : Value} {n sz : Nat} {f : Nat → Nat → Value} (h : SliceAt B w v n sz f) : ∃ p c, v = .slice p n c ∧ n ≤ c ∧ c ≤ maxLen := by
  obtain ⟨p, c, e, h1, h2, _⟩ := h
  exact ⟨p, c, e, h1, h2⟩
theorem isPattern_letters (s : ByteArray) (w : World) (hs : s.size ≤ maxLen) :
    Calls Tryz.prog 78 #[.string s, .func (.func 69) #[] #[]] w fun e w' => e = .returned (.bool (patB isL s)) ∧ w' = w := by
  by_cases h : s.size ≤ 6
  · have hp : patB isL s = allB isL s := by unfold patB; simp [h]
    have HP := Lib.hid hp; clear hp
    have h' : (s.size : Int) ≤ 6 := by omega
    go_enter Tryz.func78, Tryz.ntmps78
    go_wp2_with (go_at_call 47; refine (allAre37 s _ hs).mono ?_; rintro e w' ⟨rfl, rfl⟩)
    go_ret
    exact ⟨ret_bool HP.out.symm, rfl⟩
  · have hp : patB isL s = false := by unfold patB; simp [h]
    have HP := Lib.hid hp; clear hp
    have h' : ¬ (s.size : Int) ≤ 6 := by omega
    go_enter Tryz.func78, Tryz.ntmps78
    go_wp2
    go_ret
    exact ⟨ret_bool HP.out.symm, rfl⟩
set_option maxHeartbeats 2000000 in
theorem checkSlot_any (T : List Tra) (s : Slo) (tv : Value) (w : World) (hT : TrasAt w tv T) (hf : ReadsIn w.heap.size w s.fv s.fs) (hp : s.pre.size ≤ maxLen) (ha : s.add.size ≤ maxLen) :
    Calls Tryz.prog 74 #[tv, .agg #[.int .i64 s.cut, .string s.pre, .string s.add, s.fv]] w fun e w' => e = .returned (.int .u8 (slotErr T s)) ∧ Below w.heap.size w w' := by
  obtain ⟨q, c, hq, _, _, _⟩ := open_row hf
  have HB := Lib.hid (below_one w (.cells #[.int .i64 s.cut, .string s.pre, .string s.add, .slice q s.fs.length c] 69))
  have HT := Lib.hid (hT.step HB.out)
  have HF := Lib.hid (reads_step HB.out (hq ▸ hf)); clear hf hT
  rw [hq]
  clear hq
  have ag := Tryz.isAgg69
  have zg := Tryz.sizeOf69
  by_cases h1 : s.cut < 0
  · go_enter Tryz.func74, Tryz.ntmps74
    go_wp2
    go_ret
    exact ⟨ret_i (by unfold slotErr; rw [if_pos (.inl h1)]), HB.out⟩
  by_cases h2 : 24 < s.cut
  · go_enter Tryz.func74, Tryz.ntmps74
    go_wp2
    go_ret
    exact ⟨ret_i (by unfold slotErr; rw [if_pos (.inr (.inl h2))]), HB.out⟩
  cases h3 : patB isL s.pre
  · have HX := Lib.hid (show slotErr T s = 1 by unfold slotErr; rw [if_pos (.inr (.inr (.inl h3)))])
    go_enter Tryz.func74, Tryz.ntmps74
    go_wp2_with (go_at_call 78; with_reducible refine (isPattern_letters s.pre _ hp).mono ?_; rintro e w' ⟨rfl, rfl⟩)
    go_ret
    exact ⟨ret_i HX.out, HB.out⟩
  cases h4 : patB isL s.add
  · have HX := Lib.hid (show slotErr T s = 1 by unfold slotErr; rw [if_pos (.inr (.inr (.inr h4)))])
    go_enter Tryz.func74, Tryz.ntmps74
    go_wp2_with (first | (go_at_call 78; with_reducible refine (isPattern_letters s.pre _ hp).mono ?_; rintro e w' ⟨rfl, rfl⟩) | (go_at_call 78; with_reducible refine (isPattern_letters s.add _ ha).mono ?_; rintro e w' ⟨rfl, rfl⟩))
    go_ret
    exact ⟨ret_i HX.out, HB.out⟩
  have HX := Lib.hid (show slotErr T s = bundleErr T s.fs by unfold slotErr; rw [if_neg (by rw [h3, h4]; simp; omega)])
  go_enter Tryz.func74, Tryz.ntmps74
  go_wp2_with (first
    | (go_at_call 78; with_reducible refine (isPattern_letters s.pre _ hp).mono ?_; rintro e w' ⟨rfl, rfl⟩)
    | (go_at_call 78; with_reducible refine (isPattern_letters s.add _ ha).mono ?_; rintro e w' ⟨rfl, rfl⟩)
    | (go_at_call 46; refine (checkBundle_any T s.fs _ _ _ HT.out HF.out).mono ?_; rintro e w' ⟨rfl, hb'⟩; have HB2 := Lib.hid hb'; clear hb'))
  go_ret
  exact ⟨ret_i HX.out, HB.out.trans (HB2.out.mono HB.out.size)⟩
theorem lex_forms {w : World} {L : Lex} (h : LexAt w L) : ∃ p1 c1 p2 c2 p3 c3 p4 c4 p5 c5, L.tv = .slice p1 L.traits.length c1 ∧ L.cv = .slice p2 L.classes.length c2 ∧ L.ev = .slice p3 L.entries.length c3 ∧ L.sv = .slice p4 L.spells.length c4 ∧ L.lv = .slice p5 L.links.length c5 ∧
    (L.traits.length ≤ c1 ∧ c1 ≤ maxLen ∧ L.classes.length ≤ c2 ∧ c2 ≤ maxLen ∧ L.entries.length ≤ c3 ∧ c3 ≤ maxLen ∧ L.spells.length ≤ c4 ∧ c4 ≤ maxLen ∧ L.links.length ≤ c5 ∧ c5 ≤ maxLen) := by
  obtain ⟨p1, c1, e1, a1, b1⟩ := h.tras.1.form
  obtain ⟨p2, c2, e2, a2, b2⟩ := h.clas.1.form
  obtain ⟨p3, c3, e3, a3, b3⟩ := h.ents.1.form
  obtain ⟨p4, c4, e4, a4, b4⟩ := h.spes.1.form
  obtain ⟨p5, c5, e5, a5, b5⟩ := h.lins.1.form
  exact ⟨p1, c1, p2, c2, p3, c3, p4, c4, p5, c5, e1, e2, e3, e4, e5, a1, b1, a2, b2, a3, b3, a4, b4, a5, b5⟩
/-- A lexicon laid in a block of the call's own. -/
def boxed (L : Lex) : Obj := .cells #[.string L.vowels, L.tv, L.cv, L.ev, L.sv, L.lv] 28
theorem boxed_at (w : World) (L : Lex) {wr : World} (hb : Below (w.alloc (boxed L)).heap.size (w.alloc (boxed L)) wr) (i : Nat) : wr.cell? ⟨w.heap.size, i, none⟩ = (#[.string L.vowels, L.tv, L.cv, L.ev, L.sv, L.lv] : Array Value)[i]? := by
  rw [hb.cell (p := ⟨w.heap.size, i, none⟩) (by simp)]
  exact World.cell?_alloc_new w _ _ _
set_option maxRecDepth 100000 in
set_option maxHeartbeats 4000000 in
theorem checkTraits_any (L : Lex) (w : World) (hL : LexAt w L) :
    Calls Tryz.prog 35 #[L.val] w fun e w' => e = .returned (.int .u8 (traitsErr L.traits)) ∧ Below w.heap.size w w' := by
  obtain ⟨p1, c1, p2, c2, p3, c3, p4, c4, p5, c5, e1, e2, e3, e4, e5, hc1, hm1, _⟩ := lex_forms hL
  have HL := Lib.hid hL; clear hL
  have hval : L.val = .agg #[.string L.vowels, .slice p1 L.traits.length c1, .slice p2 L.classes.length c2, .slice p3 L.entries.length c3, .slice p4 L.spells.length c4, .slice p5 L.links.length c5] := by unfold Lex.val; rw [e1, e2, e3, e4, e5]
  have HO := Lib.hid (show boxed L = .cells #[.string L.vowels, .slice p1 L.traits.length c1, .slice p2 L.classes.length c2, .slice p3 L.entries.length c3, .slice p4 L.spells.length c4, .slice p5 L.links.length c5] 28 by unfold boxed; rw [e1, e2, e3, e4, e5])
  rw [hval]
  unfold maxLen at hm1
  have ag := Tryz.isAgg64
  have zg := Tryz.sizeOf64
  by_cases h8 : (8 : Int) < (L.traits.length : Int)
  · go_enter Tryz.func35, Tryz.ntmps35
    go_wp2
    go_ret
    exact ⟨ret_i (by unfold traitsErr; rw [if_pos (by omega)]), below_one _ _⟩
  have HE : Hid (traitsErr L.traits = errOf L.traits.length (traitErr L.traits)) := Lib.hid (by unfold traitsErr; rw [if_neg (by omega)])
  go_enter Tryz.func35, Tryz.ntmps35
  go_wp2
  go_loopw [13] (fun i wr => ∃ k : Nat, k ≤ L.traits.length ∧ i = .int .i64 k ∧ (∀ j, j < k → traitErr L.traits j = 0) ∧ Below (w.alloc (boxed L)).heap.size (w.alloc (boxed L)) wr) (fun i _ => L.traits.length - (intOf i).toNat)
  case atStart => exact ⟨0, by omega, rfl, fun i h => by omega, by rw [HO.out]; exact Below.refl _ _⟩
  case round =>
    obtain ⟨k, hk, rfl, hq, hB⟩ := hrel
    have HQ := Lib.hid hq; clear hq
    have HB := Lib.hid hB; clear hB
    by_cases hlt : k < L.traits.length
    · rename World => wr
      have HW := Lib.hid ((below_one w (boxed L)).trans (HB.out.mono (by simp)))
      obtain ⟨q1, d1, e1', hd1, hd1', hrow⟩ := (HL.out.tras.step HW.out).1
      obtain ⟨rfl, rfl⟩ : q1 = p1 ∧ d1 = c1 := by rw [e1] at e1'; cases e1'; exact ⟨rfl, rfl⟩
      obtain ⟨A, rfl, hA, hcell⟩ := hrow (by omega)
      obtain ⟨⟨p', c', hvv, hc', hm', _⟩, hnm, hvs⟩ := HL.out.tras.2 L.traits[k] (List.getElem_mem _)
      have b1 : wr.cell? ⟨w.heap.size, 1, none⟩ = some (.slice (some A) L.traits.length d1) := by rw [boxed_at w L HB.out 1, e1]; rfl
      have t1 : wr.cell? (A.add (k * 2)) = some (.string L.traits[k].name) := by
        have := hcell k 0 hlt (by omega)
        simpa [traF, hlt] using this
      have t2 : wr.cell? { block := (A.add (k * 2)).block, off := (A.add (k * 2)).off + 1 } = some (.slice p' L.traits[k].vs.length c') := by
        have := cell_next (hcell k 1 hlt (by omega))
        simpa [traF, hlt, hvv] using this
      have hkc : (k : Int) ≤ (d1 : Int) := by omega
      have hws : w.heap.size < wr.heap.size := by have := HB.out.size; simp at this; omega
      have hwn : w.heap.size ≠ wr.heap.size := by omega
      clear hcell hrow
      cases hname : nameB L.traits[k].name
      · have HX := Lib.hid (show traitErr L.traits k = 5 by unfold traitErr; rw [List.getElem?_eq_getElem hlt]; simp [hname])
        go_wp2_with (go_at_call 70; refine (name_any _ _ hnm).mono ?_; rintro e w' ⟨rfl, rfl⟩)
        go_ret
        exact ⟨ret_i (by rw [HE.out, errOf_at hlt HQ.out (by rw [HX.out]; decide), HX.out]), HW.out.alloc HW.out.size _⟩
      · go_wp2_with (go_at_call 70; refine (name_any _ _ hnm).mono ?_; rintro e w' ⟨rfl, rfl⟩)
        have hx1 : (wr.alloc (.cells #[.string L.traits[k].name, .slice p' L.traits[k].vs.length c'] 64)).cell? ⟨w.heap.size, 1, none⟩ = some (.slice (some A) L.traits.length d1) := alloc_cell _ b1
        have hx2 : (wr.alloc (.cells #[.string L.traits[k].name, .slice p' L.traits[k].vs.length c'] 64)).cell? ⟨wr.heap.size, 0, none⟩ = some (.string L.traits[k].name) := by rw [World.cell?_alloc_new]; rfl
        have hbx : Below (w.alloc (boxed L)).heap.size (w.alloc (boxed L)) (wr.alloc (.cells #[.string L.traits[k].name, .slice p' L.traits[k].vs.length c'] 64)) := HB.out.alloc HB.out.size _
        have hbw : Below w.heap.size w (wr.alloc (.cells #[.string L.traits[k].name, .slice p' L.traits[k].vs.length c'] 64)) := HW.out.alloc HW.out.size _
        have hlt3 : wr.heap.size < (wr.alloc (.cells #[.string L.traits[k].name, .slice p' L.traits[k].vs.length c'] 64)).heap.size := by simp
        have hx3 : (wr.alloc (.cells #[.string L.traits[k].name, .slice p' L.traits[k].vs.length c'] 64)).cell? ⟨wr.heap.size, 1, none⟩ = some (.slice p' L.traits[k].vs.length c') := by rw [World.cell?_alloc_new]; rfl
        generalize wr.alloc (.cells #[.string L.traits[k].name, .slice p' L.traits[k].vs.length c'] 64) = wx at hx1 hx2 hx3 hbx hbw hlt3 ⊢
        have HBX := Lib.hid hbx; clear hbx
        have HBW := Lib.hid hbw; clear hbw
        have HUP := Lib.hid ((e1 ▸ (HL.out.tras.step HBW.out).1).upto (k := k) (by omega))
        have HFO := Lib.hid (HL.out.tras.forms)
        go_region_held3 (fun w' => w'.cell? ⟨w.heap.size, 1, none⟩ = some (.slice (some A) L.traits.length d1) ∧ w'.cell? ⟨wr.heap.size, 0, none⟩ = some (.string L.traits[k].name))
          (first
            | go_keep
            | (refine ⟨?_, ?_⟩
               · (rw [hb2.cell (p := ⟨w.heap.size, 1, none⟩) (by simp; omega)]; assumption)
               · (rw [hb2.cell (p := ⟨wr.heap.size, 0, none⟩) (by simp; omega)]; assumption)))
          ((go_simp; go_at_call 71; refine (traitOf_any L.traits k _ L.traits[k].name _ (by exact HUP.out) (by omega) HFO.out).mono ?_; rintro e w2 ⟨rfl, hb2⟩))
        rename_i hHeld
        have HBW2 := Lib.hid (HBW.out.drew.trans (hb2.mono HBW.out.size))
        have HBX2 := Lib.hid (HBX.out.drew.trans (hb2.mono HBX.out.size))
        have x3 : w2.cell? ⟨wr.heap.size, 1, none⟩ = some (.slice p' L.traits[k].vs.length c') := by
          rw [hb2.cell (p := ⟨wr.heap.size, 1, none⟩) hlt3]; exact hx3
        clear hHeld hx1 hx2 hx3 b1 t1 t2 hb2
        have HVS := Lib.hid (hvv ▸ (HL.out.tras.2 L.traits[k] (List.getElem_mem _)).1.step HBW2.out)
        by_cases hi : 0 ≤ traitIdx L.traits k L.traits[k].name
        · have HX := Lib.hid (show traitErr L.traits k = 6 by unfold traitErr; rw [List.getElem?_eq_getElem hlt]; simp [hname, hi])
          go_wp2
          go_ret
          exact ⟨ret_i (by rw [HE.out, errOf_at hlt HQ.out (by rw [HX.out]; decide), HX.out]), HBW2.out⟩
        · by_cases hve : valuesErr L.traits[k].vs = 0
          · have HX := Lib.hid (show traitErr L.traits k = 0 by unfold traitErr; rw [List.getElem?_eq_getElem hlt]; simp [hname, hi, hve])
            go_wp2_with (go_at_call 72; refine (checkValues_any L.traits[k].vs _ w2 HVS.out hvs).mono ?_; rintro e w' ⟨rfl, rfl⟩)
            go_roundw
            case rel => exact ⟨k + 1, by omega, by go_num, below_succ HQ.out HX.out, HBX2.out⟩
            case measure => simp [intOf]; omega
          · have HX := Lib.hid (show traitErr L.traits k = valuesErr L.traits[k].vs by unfold traitErr; rw [List.getElem?_eq_getElem hlt]; simp [hname, hi])
            have HY := Lib.hid hve
            go_wp2_with (go_at_call 72; refine (checkValues_any L.traits[k].vs _ w2 HVS.out hvs).mono ?_; rintro e w' ⟨rfl, rfl⟩)
            go_ret
            exact ⟨ret_i (by rw [HE.out, errOf_at hlt HQ.out (by rw [HX.out]; exact HY.out), HX.out]), HBW2.out⟩
    · go_wp2
      go_ret
      exact ⟨ret_i (by rw [HE.out, errOf_none fun j hj => HQ.out j (by omega)]), (below_one w (boxed L)).trans (HB.out.mono (by simp))⟩
end Go.Proofs.YtgddmegjncbndaaGreatDoor
namespace Go.Proofs.YtgddmegjncbndaaGreatDoor
open Go Go.RowKit
theorem cell_at {w : World} {a : Addr} {n : Nat} {v : Value} (i : Nat) (hi : 0 < i) (h : w.cell? (a.add (n + i)) = some v) : w.cell? { block := (a.add n).block, off := (a.add n).off + i } = some v := by
  have e : ({ block := (a.add n).block, off := (a.add n).off + i } : Addr) = a.add (n + i) := by
    unfold Addr.add
    by_cases h0 : n = 0
    · subst h0; simp; omega
    · simp [h0]; omega
  rw [e]; exact h
def slotsErr (T : List Tra) (S : List Slo) (j : Nat) : Int := match S[j]? with | some s => slotErr T s | none => 0
theorem classErr_at {T : List Tra} {C : List Cla} {k : Nat} (hk : k < C.length) : classErr T C k = if nameB C[k].name = false then 5 else if 0 ≤ classIdx C k C[k].name then 6 else if 24 < C[k].slots.length then 3 else if C[k].slots.length = 0 then 1
    else errOf C[k].slots.length (slotsErr T C[k].slots) := by
  unfold classErr
  rw [List.getElem?_eq_getElem hk]
  rfl
set_option maxRecDepth 100000 in
set_option maxHeartbeats 4000000 in
theorem checkClasses_any (L : Lex) (w : World) (hL : LexAt w L) :
    Calls Tryz.prog 36 #[L.val] w fun e w' => e = .returned (.int .u8 (classesErr L.traits L.classes)) ∧ Below w.heap.size w w' := by
  obtain ⟨p1, c1, p2, c2, p3, c3, p4, c4, p5, c5, e1, e2, e3, e4, e5, _, _, hc1, hm1, _⟩ := lex_forms hL
  have HL := Lib.hid hL; clear hL
  have hval : L.val = .agg #[.string L.vowels, .slice p1 L.traits.length c1, .slice p2 L.classes.length c2, .slice p3 L.entries.length c3, .slice p4 L.spells.length c4, .slice p5 L.links.length c5] := by unfold Lex.val; rw [e1, e2, e3, e4, e5]
  have HO := Lib.hid (show boxed L = .cells #[.string L.vowels, .slice p1 L.traits.length c1, .slice p2 L.classes.length c2, .slice p3 L.entries.length c3, .slice p4 L.spells.length c4, .slice p5 L.links.length c5] 28 by unfold boxed; rw [e1, e2, e3, e4, e5])
  rw [hval]
  unfold maxLen at hm1
  have ag := Tryz.isAgg67
  have zg := Tryz.sizeOf67
  have ag2 := Tryz.isAgg69
  have zg2 := Tryz.sizeOf69
  by_cases h8 : (16 : Int) < (L.classes.length : Int)
  · go_enter Tryz.func36, Tryz.ntmps36
    go_wp2
    go_ret
    exact ⟨ret_i (by unfold classesErr; rw [if_pos (by omega)]), below_one _ _⟩
  have HE : Hid (classesErr L.traits L.classes = errOf L.classes.length (classErr L.traits L.classes)) := Lib.hid (by unfold classesErr; rw [if_neg (by omega)])
  go_enter Tryz.func36, Tryz.ntmps36
  go_wp2
  go_loopw [15] (fun i wr => ∃ k : Nat, k ≤ L.classes.length ∧ i = .int .i64 k ∧ (∀ j, j < k → classErr L.traits L.classes j = 0) ∧ Below (w.alloc (boxed L)).heap.size (w.alloc (boxed L)) wr) (fun i _ => L.classes.length - (intOf i).toNat)
  case atStart => exact ⟨0, by omega, rfl, fun i h => by omega, by rw [HO.out]; exact Below.refl _ _⟩
  case round =>
    obtain ⟨k, hk, rfl, hq, hB⟩ := hrel
    have HQ := Lib.hid hq; clear hq
    have HB := Lib.hid hB; clear hB
    by_cases hlt : k < L.classes.length
    · rename World => wr
      have HW := Lib.hid ((below_one w (boxed L)).trans (HB.out.mono (by simp)))
      obtain ⟨q1, d1, e2', hd1, hd1', hrow⟩ := (HL.out.clas.step HW.out).1
      obtain ⟨rfl, rfl⟩ : q1 = p2 ∧ d1 = c2 := by rw [e2] at e2'; cases e2'; exact ⟨rfl, rfl⟩
      obtain ⟨A, rfl, hA, hcell⟩ := hrow (by omega)
      obtain ⟨⟨⟨p', c', hvv, hc', hm', _⟩, _⟩, hnm⟩ := HL.out.clas.2 L.classes[k] (List.getElem_mem _)
      have b1 : wr.cell? ⟨w.heap.size, 2, none⟩ = some (.slice (some A) L.classes.length d1) := by rw [boxed_at w L HB.out 2, e2]; rfl
      have t1 : wr.cell? (A.add (k * 2)) = some (.string L.classes[k].name) := by
        have := hcell k 0 hlt (by omega)
        simpa [claF, hlt] using this
      have t2 : wr.cell? { block := (A.add (k * 2)).block, off := (A.add (k * 2)).off + 1 } = some (.slice p' L.classes[k].slots.length c') := by
        have := cell_next (hcell k 1 hlt (by omega))
        simpa [claF, hlt, hvv] using this
      have hkc : (k : Int) ≤ (d1 : Int) := by omega
      have hws : w.heap.size < wr.heap.size := by have := HB.out.size; simp at this; omega
      have HCE := Lib.hid (classErr_at (T := L.traits) hlt)
      clear hcell hrow
      cases hname : nameB L.classes[k].name
      · have HX := Lib.hid (HCE.out.trans (if_pos hname)); clear HCE
        go_wp2_with (go_at_call 70; refine (name_any _ _ hnm).mono ?_; rintro e w' ⟨rfl, rfl⟩)
        go_ret
        exact ⟨ret_i (by rw [HE.out, errOf_at hlt HQ.out (by rw [HX.out]; decide), HX.out]), HW.out.alloc HW.out.size _⟩
      · have HCE2 := Lib.hid (HCE.out.trans (if_neg (by rw [hname]; simp))); clear HCE
        go_wp2_with (go_at_call 70; refine (name_any _ _ hnm).mono ?_; rintro e w' ⟨rfl, rfl⟩)
        have hx1 : (wr.alloc (.cells #[.string L.classes[k].name, .slice p' L.classes[k].slots.length c'] 67)).cell? ⟨w.heap.size, 2, none⟩ = some (.slice (some A) L.classes.length d1) := alloc_cell _ b1
        have hx2 : (wr.alloc (.cells #[.string L.classes[k].name, .slice p' L.classes[k].slots.length c'] 67)).cell? ⟨wr.heap.size, 0, none⟩ = some (.string L.classes[k].name) := by rw [World.cell?_alloc_new]; rfl
        have hbx : Below (w.alloc (boxed L)).heap.size (w.alloc (boxed L)) (wr.alloc (.cells #[.string L.classes[k].name, .slice p' L.classes[k].slots.length c'] 67)) := HB.out.alloc HB.out.size _
        have hbw : Below w.heap.size w (wr.alloc (.cells #[.string L.classes[k].name, .slice p' L.classes[k].slots.length c'] 67)) := HW.out.alloc HW.out.size _
        have hlt3 : wr.heap.size < (wr.alloc (.cells #[.string L.classes[k].name, .slice p' L.classes[k].slots.length c'] 67)).heap.size := by simp
        have hx3 : (wr.alloc (.cells #[.string L.classes[k].name, .slice p' L.classes[k].slots.length c'] 67)).cell? ⟨wr.heap.size, 1, none⟩ = some (.slice p' L.classes[k].slots.length c') := by rw [World.cell?_alloc_new]; rfl
        generalize wr.alloc (.cells #[.string L.classes[k].name, .slice p' L.classes[k].slots.length c'] 67) = wx at hx1 hx2 hx3 hbx hbw hlt3 ⊢
        have HBX := Lib.hid hbx; clear hbx
        have HBW := Lib.hid hbw; clear hbw
        have HUP := Lib.hid ((e2 ▸ (HL.out.clas.step HBW.out).1).upto (k := k) (by omega))
        have HFO := Lib.hid (HL.out.clas.forms)
        go_region_held3 (fun w' => w'.cell? ⟨w.heap.size, 2, none⟩ = some (.slice (some A) L.classes.length d1) ∧ w'.cell? ⟨wr.heap.size, 0, none⟩ = some (.string L.classes[k].name))
          (first
            | go_keep
            | (refine ⟨?_, ?_⟩
               · (rw [hb2.cell (p := ⟨w.heap.size, 2, none⟩) (by simp; omega)]; assumption)
               · (rw [hb2.cell (p := ⟨wr.heap.size, 0, none⟩) (by simp; omega)]; assumption)))
          ((go_simp; go_at_call 73; refine (classOf_any L.classes k _ L.classes[k].name _ (by exact HUP.out) (by omega) HFO.out).mono ?_; rintro e w2 ⟨rfl, hb2⟩))
        rename_i hHeld
        have HBW2 := Lib.hid (HBW.out.drew.trans (hb2.mono HBW.out.size))
        have HBX2 := Lib.hid (HBX.out.drew.trans (hb2.mono HBX.out.size))
        have x3 : w2.cell? ⟨wr.heap.size, 1, none⟩ = some (.slice p' L.classes[k].slots.length c') := by
          rw [hb2.cell (p := ⟨wr.heap.size, 1, none⟩) hlt3]; exact hx3
        clear hHeld hx1 hx2 hx3 b1 t1 t2 hb2
        have HSL := Lib.hid (hvv ▸ (HL.out.clas.2 L.classes[k] (List.getElem_mem _)).1)
        have HS := Lib.hid (HL.out.clas.2 L.classes[k] (List.getElem_mem _)).1.2
        by_cases hi : 0 ≤ classIdx L.classes k L.classes[k].name
        · have HX := Lib.hid (HCE2.out.trans (if_pos hi)); clear HCE2
          go_wp2
          go_ret
          exact ⟨ret_i (by rw [HE.out, errOf_at hlt HQ.out (by rw [HX.out]; decide), HX.out]), HBW2.out⟩
        have HCE3 := Lib.hid (HCE2.out.trans (if_neg hi)); clear HCE2
        by_cases h24 : (24 : Int) < (L.classes[k].slots.length : Int)
        · have HX := Lib.hid (HCE3.out.trans (if_pos (by omega))); clear HCE3
          go_wp2
          go_ret
          exact ⟨ret_i (by rw [HE.out, errOf_at hlt HQ.out (by rw [HX.out]; decide), HX.out]), HBW2.out⟩
        have HCE4 := Lib.hid (HCE3.out.trans (if_neg (by omega))); clear HCE3
        by_cases h0 : (L.classes[k].slots.length : Int) = 0
        · have HX := Lib.hid (HCE4.out.trans (if_pos (by omega))); clear HCE4
          have h0' : L.classes[k].slots.length = 0 := by omega
          go_wp2
          go_ret
          exact ⟨ret_i (by rw [HE.out, errOf_at hlt HQ.out (by rw [HX.out]; decide), HX.out]), HBW2.out⟩
        have HCE5 := Lib.hid (HCE4.out.trans (if_neg (by omega))); clear HCE4
        have h00 : ¬ L.classes[k].slots.length = 0 := by omega
        go_wp2
        go_loopw [43] (fun i wi => ∃ j : Nat, j ≤ L.classes[k].slots.length ∧ i = .int .i64 j ∧ (∀ i', i' < j → slotsErr L.traits L.classes[k].slots i' = 0) ∧ Below (w.alloc (boxed L)).heap.size (w.alloc (boxed L)) wi) (fun i _ => L.classes[k].slots.length - (intOf i).toNat)
        case atStart => exact ⟨0, by omega, rfl, fun i h => by omega, HBX2.out⟩
        case round =>
          clear x3 hlt3 HBX2 HBW2
          obtain ⟨j, hj, rfl, hq2, hB2⟩ := hrel
          have HQ2 := Lib.hid hq2; clear hq2
          have HB2 := Lib.hid hB2; clear hB2
          by_cases hjt : j < L.classes[k].slots.length
          · rename World => wi
            have HWi := Lib.hid ((below_one w (boxed L)).trans (HB2.out.mono (by simp)))
            have b1 : wi.cell? ⟨w.heap.size, 1, none⟩ = some (.slice p1 L.traits.length c1) := by rw [boxed_at w L HB2.out 1, e1]; rfl
            obtain ⟨q1, d2, es, _, _, hrow⟩ := HSL.out.1.step HWi.out
            obtain ⟨rfl, rfl⟩ : q1 = p' ∧ d2 = c' := by cases es; exact ⟨rfl, rfl⟩
            obtain ⟨S, rfl, hS, hcell⟩ := hrow (by omega)
            obtain ⟨hfr, hpre, hadd⟩ := HS.out L.classes[k].slots[j] (List.getElem_mem _)
            obtain ⟨q, cq, hfv, _, _, _⟩ := open_row hfr
            have s0 : wi.cell? (S.add (j * 4)) = some (.int .i64 L.classes[k].slots[j].cut) := by
              have := hcell j 0 hjt (by omega)
              simpa [sloF, hjt] using this
            have s1 : wi.cell? { block := (S.add (j * 4)).block, off := (S.add (j * 4)).off + 1 } = some (.string L.classes[k].slots[j].pre) := by
              have := cell_at 1 (by omega) (hcell j 1 hjt (by omega))
              simpa [sloF, hjt] using this
            have s2 : wi.cell? { block := (S.add (j * 4)).block, off := (S.add (j * 4)).off + 2 } = some (.string L.classes[k].slots[j].add) := by
              have := cell_at 2 (by omega) (hcell j 2 hjt (by omega))
              simpa [sloF, hjt] using this
            have s3 : wi.cell? { block := (S.add (j * 4)).block, off := (S.add (j * 4)).off + 3 } = some (.slice q L.classes[k].slots[j].fs.length cq) := by
              have := cell_at 3 (by omega) (hcell j 3 hjt (by omega))
              simpa [sloF, hjt, hfv] using this
            clear hcell hrow
            have hws2 : w.heap.size < wi.heap.size := by have := HB2.out.size; simp at this; omega
            have hbx : Below (w.alloc (boxed L)).heap.size (w.alloc (boxed L)) (wi.alloc (.cells #[.int .i64 L.classes[k].slots[j].cut, .string L.classes[k].slots[j].pre, .string L.classes[k].slots[j].add, .slice q L.classes[k].slots[j].fs.length cq] 69)) := HB2.out.alloc HB2.out.size _
            have hbw : Below w.heap.size w (wi.alloc (.cells #[.int .i64 L.classes[k].slots[j].cut, .string L.classes[k].slots[j].pre, .string L.classes[k].slots[j].add, .slice q L.classes[k].slots[j].fs.length cq] 69)) := HWi.out.alloc HWi.out.size _
            have HBX := Lib.hid hbx; clear hbx
            have HBW := Lib.hid hbw; clear hbw
            have HCS := Lib.hid (hfv ▸ checkSlot_any L.traits L.classes[k].slots[j] _ (wi.alloc (.cells #[.int .i64 L.classes[k].slots[j].cut, .string L.classes[k].slots[j].pre, .string L.classes[k].slots[j].add, .slice q L.classes[k].slots[j].fs.length cq] 69)) (e1 ▸ HL.out.tras.step HBW.out) (reads_step HBW.out hfr) hpre hadd)
            have HSE := Lib.hid (show slotsErr L.traits L.classes[k].slots j = slotErr L.traits L.classes[k].slots[j] by unfold slotsErr; rw [List.getElem?_eq_getElem hjt])
            clear hfr hfv
            by_cases hse : slotErr L.traits L.classes[k].slots[j] = 0
            · have HX := Lib.hid (HSE.out.trans hse)
              go_wp2_with (go_at_call 74; refine HCS.out.mono ?_; rintro e w' ⟨rfl, hb3⟩; have HB3 := Lib.hid (HBX.out.trans (hb3.mono HBX.out.size)); clear hb3)
              go_roundw
              case rel => exact ⟨j + 1, by omega, by go_num, below_succ HQ2.out HX.out, HB3.out⟩
              case measure => simp [intOf]; omega
            · have HX := Lib.hid (HCE5.out.trans (errOf_at hjt HQ2.out (by rw [HSE.out]; exact hse)))
              have HNZ := Lib.hid hse
              go_wp2_with (go_at_call 74; refine HCS.out.mono ?_; rintro e w' ⟨rfl, hb3⟩; have HB3 := Lib.hid (HBW.out.trans (hb3.mono HBW.out.size)); clear hb3)
              go_ret
              exact ⟨ret_i (by rw [HE.out, errOf_at hlt HQ.out (by rw [HX.out, HSE.out]; exact HNZ.out), HX.out, HSE.out]), HB3.out⟩
          · have HX := Lib.hid (HCE5.out.trans (errOf_none fun i' hi' => HQ2.out i' (by omega)))
            go_wp2
            go_roundw
            case rel => exact ⟨k + 1, by omega, by go_num, below_succ HQ.out HX.out, HB2.out⟩
            case measure => simp [intOf]; omega
    · go_wp2
      go_ret
      exact ⟨ret_i (by rw [HE.out, errOf_none fun j hj => HQ.out j (by omega)]), (below_one w (boxed L)).trans (HB.out.mono (by simp))⟩
end Go.Proofs.YtgddmegjncbndaaGreatDoor
