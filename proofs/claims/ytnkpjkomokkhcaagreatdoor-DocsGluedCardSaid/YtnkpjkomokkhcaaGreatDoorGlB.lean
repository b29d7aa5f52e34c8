/- Glue: what parts are glued together, as data. No run of any program here. Lists of lists of pieces in memory; rows of words that are turned round. Glue: what one part closes for now is what the next one opens once more, by the program. Glue: what one part closes for now is what the next one opens once more, by the program. Glue: what one part closes for now is what the next one opens once more, by the program: the whole. Glue, by the program. -/
import Derived.Test.YtnkpjkomokkhcaaGreatDoorHtA
namespace Go.Proofs.YtnkpjkomokkhcaaGreatDoor
open Go Go.RowKit Go.Lib
set_option maxRecDepth 100000
def closesL (l : List Pc) : List ByteArray := (l.filter ccB).map Pc.s
def opensL (l : List Pc) : List ByteArray := (l.filter coB).map Pc.s
/-- what one part closes for now is what the next one opens once more -/
def fitB (a b : List Pc) : Bool := decide (closesL a = (opensL b).reverse)
/-- what a part has between parts: it is not glued -/
def innerB (n i : Nat) (x : Pc) : Bool := (coB x && decide (0 < i)) || (ccB x && decide (i + 1 < n))
/-- the first error of the first k parts -/
def checkPs (ps : List (List Pc)) : Nat → Int
  | 0 => 0
  | k + 1 => if checkPs ps k ≠ 0 then checkPs ps k else checkE (ps.getD k [])
/-- the first k pairs of neighbours fit -/
def fitPs (ps : List (List Pc)) : Nat → Bool
  | 0 => true
  | k + 1 => fitPs ps k && fitB (ps.getD k []) (ps.getD (k + 1) [])
def gAdd (n i : Nat) (o : List Pc) (x : Pc) : List Pc := if innerB n i x = true then o else addP o x
def jAdd (n i : Nat) (st : Js) (x : Pc) : Js := if innerB n i x = true then st else js3 x st
def gPart (n i : Nat) (o l : List Pc) (k : Nat) : List Pc := (l.take k).foldl (gAdd n i) o
def jPart (n i : Nat) (st : Js) (l : List Pc) (k : Nat) : Js := (l.take k).foldl (jAdd n i) st
def gTo (ps : List (List Pc)) : Nat → List Pc
  | 0 => []
  | i + 1 => gPart ps.length i (gTo ps i) (ps.getD i []) (ps.getD i []).length
def js0 : Js := ⟨[], [], nil, false⟩
def jgTo (ps : List (List Pc)) : Nat → Js
  | 0 => js0
  | i + 1 => jPart ps.length i (jgTo ps i) (ps.getD i []) (ps.getD i []).length
theorem gPart_succ {n i : Nat} {o l : List Pc} {k : Nat} (h : k < l.length) : gPart n i o l (k + 1) = gAdd n i (gPart n i o l k) (l.getD k nil) := by
  unfold gPart
  rw [take_succ_getD l k h, List.foldl_append]; rfl
theorem jPart_succ {n i : Nat} {st : Js} {l : List Pc} {k : Nat} (h : k < l.length) : jPart n i st l (k + 1) = jAdd n i (jPart n i st l k) (l.getD k nil) := by
  unfold jPart
  rw [take_succ_getD l k h, List.foldl_append]; rfl
/-- both ways to keep what has been glued -/
def JG (o : List Pc) (st : Js) : Prop := o = st.o ++ flush st.t ∧ ∀ y, st.o.getLast? = some y → y.k ≠ 1
/-- a piece that is one: a text is not empty, and is not carried -/
def fineP (x : Pc) : Prop := x.k = 1 → x = ⟨1, x.s, false⟩ ∧ 0 < x.s.size
theorem fine_of {x : Pc} (h : pieceE x = 0) : fineP x := by
  intro hk
  obtain ⟨k, s, c⟩ := x
  dsimp only at hk
  subst hk
  unfold pieceE at h
  cases c
  · refine ⟨rfl, ?_⟩
    have hs : ¬ (s.size = 0 ∨ textB s = false) := fun e => by
      dsimp only at h
      rw [if_neg (by omega), if_neg (by simp), if_pos rfl, if_pos e] at h
      cases h
    show 0 < s.size
    omega
  · simp at h
theorem JG.add {n i : Nat} {o : List Pc} {st : Js} {x : Pc} (h : JG o st) (hx : fineP x) : JG (gAdd n i o x) (jAdd n i st x) := by
  unfold gAdd jAdd
  by_cases hi : innerB n i x = true
  · rw [if_pos hi, if_pos hi]; exact h
  · rw [if_neg hi, if_neg hi]
    have := js3_add h.2 hx
    exact ⟨by rw [h.1, this.1], this.2.1⟩
theorem JG.part {n i : Nat} {l : List Pc} (hl : ∀ k, k < l.length → fineP (l.getD k nil)) {o : List Pc} {st : Js} (h : JG o st) : ∀ k, k ≤ l.length → JG (gPart n i o l k) (jPart n i st l k)
  | 0, _ => h
  | k + 1, hk => by
    rw [gPart_succ hk, jPart_succ hk]
    exact (JG.part hl h k (by omega)).add (hl k hk)
theorem checkPs_zero {ps : List (List Pc)} : ∀ {n : Nat}, checkPs ps n = 0 → ∀ k, k < n → checkE (ps.getD k []) = 0
  | n + 1, h, k, hk => by
    simp only [checkPs] at h
    by_cases h0 : checkPs ps n = 0
    · rw [if_neg (by rw [h0]; simp)] at h
      rcases Nat.lt_succ_iff_lt_or_eq.1 hk with hk | rfl
      · exact checkPs_zero h0 k hk
      · exact h
    · rw [if_pos h0] at h
      exact absurd h h0
theorem checkPs_stuck {ps : List (List Pc)} {k : Nat} (h : checkPs ps k ≠ 0) : ∀ d, checkPs ps (k + d) = checkPs ps k
  | 0 => rfl
  | d + 1 => by
    have ih := checkPs_stuck h d
    show checkPs ps (k + d + 1) = _
    simp only [checkPs]
    rw [if_pos (by rw [ih]; exact h), ih]
theorem fitPs_stuck {ps : List (List Pc)} {k : Nat} (h : fitPs ps k = false) : ∀ d, fitPs ps (k + d) = false
  | 0 => h
  | d + 1 => by
    show fitPs ps (k + d + 1) = _
    simp only [fitPs]
    rw [fitPs_stuck h d]; rfl
theorem JG.all {ps : List (List Pc)} (hc : ∀ k, k < ps.length → checkE (ps.getD k []) = 0) : ∀ i, i ≤ ps.length → JG (gTo ps i) (jgTo ps i)
  | 0, _ => ⟨rfl, fun y h => by cases h⟩
  | i + 1, hi => JG.part (fun k hk => fine_of (all_valid (hc i hi) k hk)) (JG.all hc i (by omega)) _ (Nat.le_refl _)
/-- the error of Glue, and what it glues -/
def glueE (ps : List (List Pc)) : Int :=
  if ps.length = 0 then 1
  else if checkPs ps ps.length ≠ 0 then checkPs ps ps.length
  else if fitPs ps (ps.length - 1) = false then 10
  else if 512 < (gTo ps ps.length).length then 3 else 0
def glueL (ps : List (List Pc)) : List Pc := if glueE ps = 0 then gTo ps ps.length else []
/-- how many pieces and bytes parts have together -/
def bulkPs (ps : List (List Pc)) : Nat := (ps.map bulk).sum
theorem bulkPs_take_succ {ps : List (List Pc)} {k : Nat} (h : k < ps.length) : bulkPs (ps.take (k + 1)) = bulkPs (ps.take k) + bulk (ps.getD k []) := by
  unfold bulkPs
  rw [List.take_add_one, List.getElem?_eq_getElem h, List.getD_eq_getElem?_getD, List.getElem?_eq_getElem h, List.map_append, List.sum_append]
  rfl
theorem bulkPs_take_le (ps : List (List Pc)) : ∀ d k, k + d = ps.length → bulkPs (ps.take k) ≤ bulkPs ps
  | 0, k, h => by rw [List.take_of_length_le (by omega)]; exact Nat.le_refl _
  | d + 1, k, h => by
    have := bulkPs_take_le ps d (k + 1) (by omega)
    rw [bulkPs_take_succ (by omega)] at this
    omega
theorem bulkPs_get {ps : List (List Pc)} {k : Nat} (h : k < ps.length) : bulk (ps.getD k []) ≤ bulkPs ps := by
  have h1 := bulkPs_take_le ps (ps.length - (k + 1)) (k + 1) (by omega)
  rw [bulkPs_take_succ h] at h1
  omega
theorem gAdd_bulk (n i : Nat) (o : List Pc) (x : Pc) : bulk (gAdd n i o x) ≤ bulk o + x.s.size + 1 := by
  unfold gAdd
  split
  · omega
  · unfold addP
    cases hl : o.getLast? with
    | none => rw [List.getLast?_eq_none_iff.1 hl]; simp [bulk]; omega
    | some y =>
      obtain ⟨o', rfl⟩ : ∃ o', o = o' ++ [y] := by
        rcases List.eq_nil_or_concat o with rfl | ⟨o', z, rfl⟩
        · cases hl
        · rw [List.concat_eq_append] at hl ⊢
          rw [List.getLast?_concat] at hl
          cases hl
          exact ⟨o', rfl⟩
      dsimp only
      split <;> simp [bulk] <;> omega
theorem gPart_bulk (n i : Nat) (o l : List Pc) : ∀ k, k ≤ l.length → bulk (gPart n i o l k) ≤ bulk o + bulk (l.take k)
  | 0, _ => by unfold gPart; simp
  | k + 1, hk => by
    have ih := gPart_bulk n i o l k (by omega)
    have h1 := gAdd_bulk n i (gPart n i o l k) (l.getD k nil)
    rw [gPart_succ hk, take_succ_getD l k hk]
    have e : bulk (l.take k ++ [l.getD k nil]) = bulk (l.take k) + (l.getD k nil).s.size + 1 := by
      unfold bulk
      simp
      omega
    omega
theorem gTo_bulk (ps : List (List Pc)) : ∀ i, i ≤ ps.length → bulk (gTo ps i) ≤ bulkPs (ps.take i)
  | 0, _ => by simp [gTo, bulkPs, bulk]
  | i + 1, hi => by
    have ih := gTo_bulk ps i (by omega)
    have h1 := gPart_bulk ps.length i (gTo ps i) (ps.getD i []) _ (Nat.le_refl _)
    rw [List.take_length] at h1
    rw [bulkPs_take_succ hi]
    show bulk (gPart _ _ _ _ _) ≤ _
    omega
end Go.Proofs.YtnkpjkomokkhcaaGreatDoor
namespace Go.Proofs.YtnkpjkomokkhcaaGreatDoor
open Go Go.RowKit Go.Lib
set_option maxRecDepth 100000
def nilV1 : Value := .slice none 0 0
def ptF (us : List Value) (i _j : Nat) : Value := us.getD i nilV1
/-- lists of pieces lie in memory -/
def PtsAt (w : World) (v : Value) (ps : List (List Pc)) : Prop :=
  ∃ us : List Value, us.length = ps.length ∧ SliceAt w.heap.size w v ps.length 1 (ptF us) ∧ ∀ i, i < ps.length → PcsAt w (us.getD i nilV1) (ps.getD i [])
theorem PtsAt.step {w w' : World} {v : Value} {ps : List (List Pc)} (hb : Below w.heap.size w w') (h : PtsAt w v ps) : PtsAt w' v ps := by
  obtain ⟨us, h1, h2, h3⟩ := h
  exact ⟨us, h1, (SliceAt.below hb h2).mono hb.size, fun i hi => (h3 i hi).step hb⟩
theorem PtsAt.form {w : World} {v : Value} {ps : List (List Pc)} (h : PtsAt w v ps) : ∃ p cap, v = .slice p ps.length cap ∧ ps.length ≤ cap ∧ cap ≤ maxLen := by
  obtain ⟨_, _, ⟨p, cap, e, h1, h2, _⟩, _⟩ := h
  exact ⟨p, cap, e, h1, h2⟩
theorem pts_nil (w : World) : PtsAt w (.slice none 0 0) [] := ⟨[], rfl, ⟨none, 0, rfl, by simp, by simp, fun h => absurd h (by simp)⟩, fun i hi => absurd hi (by simp)⟩
/-- one of the lists, read in a later world -/
theorem PtsAt.part {w W : World} {p : Option Addr} {cap : Nat} {ps : List (List Pc)} (h : PtsAt w (.slice p ps.length cap) ps) (hb : Below w.heap.size w W) {i : Nat} (hi : i < ps.length) :
    ∃ A q c, p = some A ∧ W.cell? (A.add i) = some (.slice q (ps.getD i []).length c) ∧ PcsAt W (.slice q (ps.getD i []).length c) (ps.getD i []) := by
  obtain ⟨us, h1, ⟨p', cap', e, _, _, h2⟩, h3⟩ := h
  obtain ⟨rfl, rfl⟩ : p = p' ∧ cap = cap' := by simpa using e
  obtain ⟨A, rfl, hA, hc⟩ := h2 (by omega)
  have hu := h3 i hi
  have hu2 := hu
  obtain ⟨q, c, e2, _⟩ := hu
  have hcell := hc i 0 hi (by omega)
  rw [show i * 1 + 0 = i by omega] at hcell
  refine ⟨A, q, c, rfl, ?_, ?_⟩
  · rw [hb.cell (by rw [add_block]; exact hA), hcell]
    unfold ptF
    rw [e2]
  · rw [← e2]
    exact hu2.step hb
/-- a row of words of which the first n are known -/
def RowS (w : World) (g n : Nat) (f : Nat → ByteArray) : Prop := ∃ cur : Array Value, w.heap[g]? = some (.cells cur 9 (0, 0)) ∧ n ≤ cur.size ∧ ∀ j, j < n → cur[j]? = some (.string (f j))
theorem RowS.own {w : World} {B g cap : Nat} {l : List ByteArray} (h : OwnS B (.slice (some ⟨g, 0, none⟩) l.length cap) l w) : RowS w g l.length (fun j => l.getD j ByteArray.empty) := by
  rcases h.2 with ⟨h', _⟩ | ⟨g', cap', cur, h', _, hg, hnc, hcm, hcs, htake⟩
  · simp at h'
  · simp only [Value.slice.injEq, Option.some.injEq, Addr.mk.injEq, and_true, true_and] at h'
    obtain ⟨rfl, rfl⟩ := h'
    refine ⟨cur, hg, by omega, fun j hj => ?_⟩
    rw [Nat.mul_one] at htake
    rw [← Array.getElem?_toList]
    have e : (cur.toList.take l.length)[j]? = (l.map Value.string)[j]? := by rw [htake]
    rw [List.getElem?_take_of_lt hj] at e
    show _ = some (Value.string (l.getD j ByteArray.empty))
    rw [e, List.getElem?_map, List.getD_eq_getElem?_getD, List.getElem?_eq_getElem hj]
    rfl
theorem RowS.cell {w : World} {g n : Nat} {f : Nat → ByteArray} (h : RowS w g n f) {j : Nat} (hj : j < n) : w.cell? ⟨g, j, none⟩ = some (.string (f j)) := by
  obtain ⟨cur, h1, _, h3⟩ := h
  simp [World.cell?, h1, h3 j hj]
theorem RowS.frozen {w : World} {g n : Nat} {f : Nat → ByteArray} (h : RowS w g n f) (j : Nat) : w.frozen? ⟨g, j, none⟩ = false := by
  obtain ⟨cur, h1, _⟩ := h
  exact Lib.frozen_of_heap h1 j
theorem RowS.lt {w : World} {g n : Nat} {f : Nat → ByteArray} (h : RowS w g n f) : g < w.heap.size := by
  obtain ⟨cur, h1, _⟩ := h
  exact lt_of_block h1
theorem RowS.congr {w : World} {g n : Nat} {f f' : Nat → ByteArray} (h : RowS w g n f) (e : ∀ j, j < n → f j = f' j) : RowS w g n f' := by
  obtain ⟨cur, h1, h2, h3⟩ := h
  exact ⟨cur, h1, h2, fun j hj => by rw [h3 j hj, e j hj]⟩
theorem RowS.set {w : World} {g n : Nat} {f : Nat → ByteArray} (h : RowS w g n f) (j : Nat) (s : ByteArray) : RowS (w.setCell ⟨g, j, none⟩ (.string s)) g n (fun q => if q = j then s else f q) := by
  obtain ⟨cur, h1, h2, h3⟩ := h
  refine ⟨cur.setIfInBounds j (.string s), cells_setCell h1 j _, by simpa using h2, fun q hq => ?_⟩
  show _ = some (Value.string (if q = j then s else f q))
  by_cases e : q = j
  · subst e
    rw [if_pos rfl, Array.getElem?_setIfInBounds_self_of_lt (by omega)]
  · rw [if_neg e, Array.getElem?_setIfInBounds_ne (Ne.symm e)]
    exact h3 q hq
theorem RowS.drew {w : World} {g n k : Nat} {f : Nat → ByteArray} (h : RowS w g n f) : RowS (w.drewN k) g n f := h
theorem RowS.step {w w' : World} {g n : Nat} {f : Nat → ByteArray} (hb : Below w.heap.size w w') (h : RowS w g n f) : RowS w' g n f := by
  obtain ⟨cur, h1, h2, h3⟩ := h
  exact ⟨cur, (hb.block g (lt_of_block h1)).trans h1, h2, h3⟩
end Go.Proofs.YtnkpjkomokkhcaaGreatDoor
namespace Go.Proofs.YtnkpjkomokkhcaaGreatDoor
open Go Go.RowKit Go.Lib
set_option maxRecDepth 100000
theorem KeptBut.drew {B b : Nat} {a w : World} (h : KeptBut B b a w) : KeptBut B b a w.drew := ⟨h.os, h.tape, h.output, h.size, h.block⟩
theorem reverse_none (w : World) (p : Option Addr) (cap : Nat) : Calls Tryz.prog 82 #[.slice p 0 cap] w fun e w' => e = .returned (.tuple #[]) ∧ w' = w := by
  go_enter Tryz.func82, Tryz.ntmps82
  go_wp2
  go_loopw [2, 3] (fun i j wr => i = .int .i64 0 ∧ j = .int .i64 (-1) ∧ wr = w) (fun _ _ _ => 0)
  case atStart => exact ⟨rfl, rfl, rfl⟩
  case round =>
    obtain ⟨rfl, rfl, rfl⟩ := hrel
    go_wp2
    go_end0
    exact ⟨rfl, rfl⟩
def turned (n k : Nat) (f : Nat → ByteArray) (q : Nat) : ByteArray := if q < k ∨ n - k ≤ q then f (n - 1 - q) else f q
theorem turned_all {n k : Nat} {f : Nat → ByteArray} (h : ¬ k < n - 1 - k) {q : Nat} (hq : q < n) : turned n k f q = f (n - 1 - q) := by
  unfold turned
  split
  · rfl
  · rw [show n - 1 - q = q by omega]
theorem turned_next {n k : Nat} {f : Nat → ByteArray} (h : k < n - 1 - k) {q : Nat} (hq : q < n) :
    (if q = n - 1 - k then turned n k f k else if q = k then turned n k f (n - 1 - k) else turned n k f q) = turned n (k + 1) f q := by
  have e1 : turned n k f k = f k := by unfold turned; rw [if_neg (by omega)]
  have e2 : turned n k f (n - 1 - k) = f (n - 1 - k) := by unfold turned; rw [if_neg (by omega)]
  rw [e1, e2]
  by_cases h1 : q = n - 1 - k
  · rw [if_pos h1]
    unfold turned
    rw [if_pos (by omega), show n - 1 - q = k by omega]
  · rw [if_neg h1]
    by_cases h2 : q = k
    · rw [if_pos h2]
      unfold turned
      rw [if_pos (by omega), h2]
    · rw [if_neg h2]
      unfold turned
      by_cases h3 : q < k ∨ n - k ≤ q
      · rw [if_pos h3, if_pos (by omega)]
      · rw [if_neg h3, if_neg (by omega)]
set_option maxHeartbeats 8000000 in
theorem reverse_any (g n cap : Nat) (f : Nat → ByteArray) (w : World) (hR : RowS w g n f) (h1 : 1 ≤ n) (hn : n ≤ 3000) :
    Calls Tryz.prog 82 #[.slice (some ⟨g, 0, none⟩) n cap] w fun e w' => e = .returned (.tuple #[]) ∧ RowS w' g n (fun q => f (n - 1 - q)) ∧ KeptBut w.heap.size g w w' := by
  have HR0 : Hid (RowS w g n (turned n 0 f)) := hR.congr (fun q hq => by unfold turned; rw [if_neg (by omega)])
  have hw1 : IntKind.i64.wrap ((n : Int) - 1) = ((n - 1 : Nat) : Int) := by rw [IntKind.wrap_i64] <;> omega
  clear hR
  go_enter Tryz.func82, Tryz.ntmps82
  go_wp2
  go_loopw [2, 3] (fun i j wr => ∃ k : Nat, 2 * k ≤ n ∧ i = .int .i64 k ∧ j = .int .i64 ((n - 1 - k : Nat) : Int) ∧ Hid (RowS wr g n (turned n k f)) ∧ Hid (KeptBut w.heap.size g w wr)) (fun i _ _ => n - (RowKit.intOf i).toNat)
  case atStart => exact ⟨0, by omega, rfl, (by first | rfl | (rw [Nat.sub_zero]; go_num)), HR0.out, KeptBut.refl _ _ _⟩
  case round =>
    obtain ⟨k, hk, rfl, rfl, HR, HK⟩ := hrel
    by_cases hlt : k < n - 1 - k
    · have HN := Lib.hid (fun q (hq : q < n) => turned_next (f := f) hlt hq)
      have hm0 : n - 1 - k < n := by omega
      have hkk : 2 * (k + 1) ≤ n := by omega
      have hk0 : k < n := by omega
      have x0 := HR.out.cell hk0
      have x1 := HR.out.cell hm0
      have HM : Hid (n - 1 - (k + 1) = n - 1 - k - 1) := by show _ = _; omega
      obtain ⟨m, hm⟩ : ∃ m, m = n - 1 - k := ⟨_, rfl⟩
      rw [← hm] at hlt hm0 x1 HN HM ⊢
      have hmi : (m : Int) < (n : Int) := by omega
      have hki : (k : Int) < (n : Int) := by omega
      have hkm : (k : Int) < (m : Int) := by omega
      have k0 : (0 : Int) ≤ (k : Int) := by omega
      have m0 : (0 : Int) ≤ (m : Int) := by omega
      generalize hsk : turned n k f k = sk at x0 HN
      generalize hsm : turned n k f m = sm at x1 HN
      clear hsk hsm hm
      go_wp2
      refine wp_region_till (fun w' => w'.cell? ⟨g, k, none⟩ = some (.string sk) ∧ w'.cell? ⟨g, m, none⟩ = some (.string sm)) [12] (by kernel_rfl) ⟨x0, x1⟩ (fun hHeld => ?_)
      refine wpTill_free (i := 0) (v := ?va1x0) rfl (by kernel_rfl) (by kernel_rfl) (by kernel_rfl) (by kernel_rfl) (fun _ _ _ h => h) (Or.inl ⟨by rfl, ?hy1x0⟩) (fun _ => hHeld) ?re1x0
      case hy1x0 => (intro w9 _; go_simp; try with_reducible rfl)
      refine wpTill_free (i := 1) (v := ?va2x1) rfl (by kernel_rfl) (by kernel_rfl) (by kernel_rfl) (by kernel_rfl) (fun _ _ _ h => h) (Or.inl ⟨by rfl, ?hy2x1⟩) (fun _ => hHeld) ?re2x1
      case hy2x1 => (intro w9 _; go_simp; try with_reducible rfl)
      refine wpTill_free (i := 2) (v := ?va3x2) rfl (by kernel_rfl) (by kernel_rfl) (by kernel_rfl) (by kernel_rfl) (fun _ _ _ h => h) (Or.inl ⟨by rfl, ?hy3x2⟩) (fun _ => hHeld) ?re3x2
      case hy3x2 => (intro w9 _; go_simp; try with_reducible rfl)
      refine wpTill_free (i := 3) (v := ?va4x3) rfl (by kernel_rfl) (by kernel_rfl) (by kernel_rfl) (by kernel_rfl) (fun _ _ _ h => h) (Or.inl ⟨by rfl, ?hy4x3⟩) (fun _ => hHeld) ?re4x3
      case hy4x3 => (intro w9 _; go_simp; try with_reducible rfl)
      refine wpTill_free (i := 4) (v := ?va5x4) rfl (by kernel_rfl) (by kernel_rfl) (by kernel_rfl) (by kernel_rfl) (fun _ _ _ h => h) (Or.inl ⟨by rfl, ?hy5x4⟩) (fun _ => hHeld) ?re5x4
      case hy5x4 => (intro w9 _; go_simp; try with_reducible rfl)
      refine wpTill_free (i := 5) (v := ?va6x5) rfl (by kernel_rfl) (by kernel_rfl) (by kernel_rfl) (by kernel_rfl) (fun _ _ _ h => h) (Or.inl ⟨by rfl, ?hy6x5⟩) (fun _ => hHeld) ?re6x5
      case hy6x5 => (intro w9 _; go_simp; try with_reducible rfl)
      refine wpTill_free (i := 6) (v := ?va7x6) rfl (by kernel_rfl) (by kernel_rfl) (by kernel_rfl) (by kernel_rfl) (fun _ _ _ h => h) (Or.inl ⟨by rfl, ?hy7x6⟩) (fun _ => hHeld) ?re7x6
      case hy7x6 => (intro w9 _; go_simp; try with_reducible rfl)
      refine wpTill_take (i := 7) 12 (v := ?va8x7) rfl (by kernel_rfl) (by kernel_rfl) (by kernel_rfl) (by kernel_rfl) (fun _ _ _ h => h) (Or.inl ⟨by rfl, ?hy8x7⟩) hHeld ?re8x7
      case hy8x7 => (intro w9 hSw; (try dsimp only at hSw); go_simp; try with_reducible rfl)
      refine wpTill_free (i := 8) (v := ?va9x8) rfl (by kernel_rfl) (by kernel_rfl) (by kernel_rfl) (by kernel_rfl) (fun _ _ _ h => h) (Or.inl ⟨by rfl, ?hy9x8⟩) (fun _ => hHeld) ?re9x8
      case hy9x8 => (intro w9 _; go_simp; try with_reducible rfl)
      refine wpTill_free (i := 9) (v := ?va10x9) rfl (by kernel_rfl) (by kernel_rfl) (by kernel_rfl) (by kernel_rfl) (fun _ _ _ h => h) (Or.inl ⟨by rfl, ?hy10x9⟩) (fun _ => hHeld) ?re10x9
      case hy10x9 => (intro w9 _; go_simp; try with_reducible rfl)
      refine wpTill_free (i := 10) (v := ?va11x10) rfl (by kernel_rfl) (by kernel_rfl) (by kernel_rfl) (by kernel_rfl) (fun _ _ _ h => h) (Or.inl ⟨by rfl, ?hy11x10⟩) (fun _ => hHeld) ?re11x10
      case hy11x10 => (intro w9 _; go_simp; try with_reducible rfl)
      refine wpTill_take (i := 11) 12 (v := ?va12x11) rfl (by kernel_rfl) (by kernel_rfl) (by kernel_rfl) (by kernel_rfl) (fun _ _ _ h => h) (Or.inl ⟨by rfl, ?hy12x11⟩) hHeld ?re12x11
      case hy12x11 => (intro w9 hSw; (try dsimp only at hSw); go_simp; try with_reducible rfl)
      refine wpTill_next (rs := [12]) (by kernel_rfl) (by simp) ?_
      refine NextTill.cons rfl (fun K hK => ?_) NextTill.nil
      go_simp
      refine hK.out _ _ (fun h => Bool.noConfusion (h.symm.trans (by kernel_rfl : _ = false))) ?_
      clear hK K
      have f0 : wr.frozen? ⟨g, k, none⟩ = false := HR.out.frozen k
      refine wpTill_next (rs := [13]) (by kernel_rfl) (by simp) ?_
      refine NextTill.cons rfl (fun K hK => ?_) NextTill.nil
      go_simp
      refine hK.out _ _ (fun h => Bool.noConfusion (h.symm.trans (by kernel_rfl : _ = false))) ?_
      clear hK K
      refine wpTill_next (rs := [14]) (by kernel_rfl) (by simp) ?_
      refine NextTill.cons rfl (fun K hK => ?_) NextTill.nil
      go_simp
      refine hK.out _ _ (fun h => Bool.noConfusion (h.symm.trans (by kernel_rfl : _ = false))) ?_
      clear hK K
      have HR2 : Hid (RowS (wr.drew.setCell ⟨g, k, none⟩ (.string sm)) g n (fun q => if q = k then sm else turned n k f q)) := RowS.set (w := wr.drew) HR.out k sm
      have x1d := HR2.out.cell hm0
      have f1 : wr.frozen? ⟨g, m, none⟩ = false := HR.out.frozen m
      refine wpTill_next (rs := [15]) (by kernel_rfl) (by simp) ?_
      refine NextTill.cons rfl (fun K hK => ?_) NextTill.nil
      go_simp
      refine hK.out _ _ (fun h => Bool.noConfusion (h.symm.trans (by kernel_rfl : _ = false))) ?_
      clear hK K
      refine wpTill_done (by kernel_rfl) ?_ _
      have HR3 := Lib.hid ((HR2.out.set m sk).congr HN.out)
      have HK3 := Lib.hid ((HK.out.drew.setCell k (.string sm)).setCell m (.string sk))
      go_wp2
      go_roundw
      case rel => exact ⟨k + 1, hkk, by go_num, by rw [HM.out]; go_num, HR3.out, HK3.out⟩
      case measure => simp [RowKit.intOf] <;> omega
    · have HF := Lib.hid (HR.out.congr (fun q hq => turned_all hlt hq))
      obtain ⟨m, hm⟩ : ∃ m, m = n - 1 - k := ⟨_, rfl⟩
      rw [← hm] at hlt ⊢
      have hkm : ¬ (k : Int) < (m : Int) := by omega
      clear hm
      go_wp2
      go_end0
      exact ⟨rfl, HF.out, HK.out⟩
end Go.Proofs.YtnkpjkomokkhcaaGreatDoor
namespace Go.Proofs.YtnkpjkomokkhcaaGreatDoor
open Go Go.RowKit Go.Lib
set_option maxRecDepth 100000
theorem bdN (w : World) (n : Nat) : Below w.heap.size w (w.drewN n) := ⟨rfl, rfl, rfl, Nat.le_refl _, fun _ _ => rfl⟩
theorem boxP_cells {W : World} {Bn : Nat} {x : Pc} (h : W.heap[Bn]? = some (pcC x)) : W.cell? ⟨Bn, 0, none⟩ = some (.int .u8 x.k) ∧ W.cell? ⟨Bn, 1, none⟩ = some (.string x.s) ∧ W.cell? ⟨Bn, 2, none⟩ = some (.bool x.c) :=
  ⟨(Lib.cell_of_heap h 0).trans rfl, (Lib.cell_of_heap h 1).trans rfl, (Lib.cell_of_heap h 2).trans rfl⟩
theorem closesL_succ {l : List Pc} {k : Nat} (h : k < l.length) : closesL (l.take (k + 1)) = closesL (l.take k) ++ (if ccB (l.getD k nil) = true then [(l.getD k nil).s] else []) := by
  unfold closesL
  rw [take_succ_getD l k h, List.filter_append, List.map_append]
  congr 1
  generalize l.getD k nil = x
  by_cases e : ccB x = true
  · rw [if_pos e, List.filter_cons_of_pos e]; rfl
  · rw [if_neg e, List.filter_cons_of_neg e]; rfl
theorem opensL_succ {l : List Pc} {k : Nat} (h : k < l.length) : opensL (l.take (k + 1)) = opensL (l.take k) ++ (if coB (l.getD k nil) = true then [(l.getD k nil).s] else []) := by
  unfold opensL
  rw [take_succ_getD l k h, List.filter_append, List.map_append]
  congr 1
  generalize l.getD k nil = x
  by_cases e : coB x = true
  · rw [if_pos e, List.filter_cons_of_pos e]; rfl
  · rw [if_neg e, List.filter_cons_of_neg e]; rfl
theorem closesL_len (l : List Pc) : (closesL l).length ≤ l.length := by unfold closesL; rw [List.length_map]; exact List.length_filter_le _ _
theorem opensL_len (l : List Pc) : (opensL l).length ≤ l.length := by unfold opensL; rw [List.length_map]; exact List.length_filter_le _ _
/-- words in memory, told by their places -/
def WsAt (w : World) (v : Value) (n : Nat) (f : Nat → ByteArray) : Prop := SliceAt w.heap.size w v n 1 (fun i _ => .string (f i))
theorem WsAt.step {w w' : World} {v : Value} {n : Nat} {f : Nat → ByteArray} (hb : Below w.heap.size w w') (h : WsAt w v n f) : WsAt w' v n f := (SliceAt.below hb h).mono hb.size
theorem WsAt.own {w : World} {B : Nat} {v : Value} {l : List ByteArray} (h : OwnS B v l w) : WsAt w v l.length (fun j => l.getD j ByteArray.empty) := by
  obtain ⟨ao, cap, rfl⟩ := h.form
  rcases h.2 with ⟨hv, h0⟩ | ⟨g, cap', cur, hv, hg, hh, hn, hm, _⟩
  · exact ⟨ao, cap, rfl, by omega, by simp at hv; obtain ⟨_, _, rfl⟩ := hv; unfold maxLen; omega, fun h => by omega⟩
  · simp at hv
    obtain ⟨rfl, rfl⟩ := hv
    have hr := RowS.own h
    exact ⟨_, cap, rfl, hn, hm, fun _ => ⟨_, rfl, hr.lt, fun i j hi hj => by
      rw [show i * 1 + j = i by omega, add_at]
      exact hr.cell hi⟩⟩
theorem WsAt.row {w : World} {g n cap : Nat} {f : Nat → ByteArray} (h : RowS w g n f) (h1 : n ≤ cap) (h2 : cap ≤ maxLen) : WsAt w (.slice (some ⟨g, 0, none⟩) n cap) n f :=
  ⟨_, cap, rfl, h1, h2, fun _ => ⟨_, rfl, h.lt, fun i j hi hj => by
    rw [show i * 1 + j = i by omega, add_at]
    exact h.cell hi⟩⟩
theorem WsAt.cell {w wr : World} {p : Option Addr} {n cap : Nat} {f : Nat → ByteArray} (h : WsAt w (.slice p n cap) n f) (hb : Below w.heap.size w wr) {i : Nat} (hi : i < n) : ∃ A, p = some A ∧ wr.cell? (A.add i) = some (.string (f i)) := by
  obtain ⟨p', cap', e, _, _, h3⟩ := h
  obtain ⟨rfl, rfl⟩ : p = p' ∧ cap = cap' := by simpa using e
  obtain ⟨A, rfl, hA, hc⟩ := h3 (by omega)
  refine ⟨A, rfl, ?_⟩
  have := hc i 0 hi (by omega)
  rw [show i * 1 + 0 = i by omega] at this
  rw [hb.cell (by rw [add_block]; exact hA), this]
/-- two rows of words are equal -/
def eqB (n m : Nat) (f h : Nat → ByteArray) : Bool := decide (n = m) && (List.range n).all fun i => decide (f i = h i)
theorem eqB_no {n m i : Nat} {f h : Nat → ByteArray} (hi : i < n) (hne : f i ≠ h i) : eqB n m f h = false := by
  unfold eqB
  rw [Bool.and_eq_false_iff]
  right
  rw [List.all_eq_false]
  exact ⟨i, List.mem_range.2 hi, by simp [hne]⟩
theorem eqB_yes {n : Nat} {f h : Nat → ByteArray} (hall : ∀ i, i < n → f i = h i) : eqB n n f h = true := by
  unfold eqB
  simp
  exact hall
set_option maxHeartbeats 4000000 in
theorem equalS_any (n m : Nat) (f h : Nat → ByteArray) (u v : Value) (w : World) (hu : WsAt w u n f) (hv : WsAt w v m h) :
    Calls Tryz.prog 83 #[u, v] w fun e w' => e = .returned (.bool (eqB n m f h)) ∧ Below w.heap.size w w' := by
  have HU := Lib.hid hu
  have HV := Lib.hid hv
  obtain ⟨p, cap, rfl, hl, hc, _⟩ := hu
  obtain ⟨p2, cap2, rfl, hl2, hc2, _⟩ := hv
  unfold maxLen at hc hc2
  by_cases hnm : n = m
  · subst hnm
    have hne : ((n : Int) != (n : Int)) = false := by simp
    have HF := Lib.hid (fun (i : Nat) (hi : i < n) (h1 : f i ≠ h i) => eqB_no (m := n) hi h1)
    have HY := Lib.hid (fun (h1 : ∀ i, i < n → f i = h i) => eqB_yes h1)
    generalize eqB n n f h = R at *
    go_enter Tryz.func83, Tryz.ntmps83
    go_wp2
    go_loopw [5, 13] (fun _ i wr => ∃ k : Nat, k ≤ n ∧ i = .int .i64 k ∧ Hid (∀ i, i < k → f i = h i) ∧ Hid (Below w.heap.size w wr)) (fun _ i _ => n - (RowKit.intOf i).toNat)
    case atStart => exact ⟨0, Nat.zero_le _, rfl, fun i hi => absurd hi (Nat.not_lt_zero _), Below.refl _ _⟩
    case round =>
      obtain ⟨k, hk, rfl, HS, HB⟩ := hrel
      by_cases hlt : k < n
      · obtain ⟨A, rfl, x0⟩ := HU.out.cell HB.out hlt
        obtain ⟨A2, rfl, y0⟩ := HV.out.cell HB.out hlt
        have hki : (k : Int) < (n : Int) := by omega
        have hk0 : (0 : Int) ≤ (k : Int) := by omega
        by_cases hs : f k = h k
        · have hne2 : ((f k).toList == (h k).toList) = true := by rw [hs]; simp
          have HS2 : Hid (∀ i, i < k + 1 → f i = h i) := fun i hi => by
            rcases Nat.lt_succ_iff_lt_or_eq.1 hi with h1 | rfl
            · exact HS.out i h1
            · exact hs
          clear hs
          generalize f k = s at x0 hne2
          generalize h k = t at y0 hne2
          go_wp2
          go_quiet (fail)
          go_wp2
          go_roundw
          case rel => exact ⟨k + 1, hlt, by go_num, HS2.out, below_next HB.out (bdN _ _)⟩
          case measure => simp [RowKit.intOf] <;> omega
        · have hne2 : ((f k).toList == (h k).toList) = false := by
            simp
            intro e
            exact hs (bytes_ext e)
          have HR := Lib.hid (HF.out k hlt hs)
          clear hs
          generalize f k = s at x0 hne2
          generalize h k = t at y0 hne2
          go_wp2
          go_quiet (fail)
          go_wp2
          go_ret
          exact ⟨by rw [HR.out]; rfl, below_next HB.out (bdN _ _)⟩
      · have HR := Lib.hid (HY.out (fun i hi => HS.out i (by omega)))
        have hki : ¬ (k : Int) < (n : Int) := by omega
        go_wp2
        go_ret
        exact ⟨by rw [HR.out]; rfl, HB.out⟩
  · have HR : Hid (eqB n m f h = false) := by show _ = _; unfold eqB; simp [hnm]
    have hne : ((n : Int) != (m : Int)) = true := by simp; omega
    go_enter Tryz.func83, Tryz.ntmps83
    go_wp2
    go_ret
    exact ⟨by rw [HR.out]; rfl, Below.refl _ _⟩
end Go.Proofs.YtnkpjkomokkhcaaGreatDoor
namespace Go.Proofs.YtnkpjkomokkhcaaGreatDoor
open Go Go.RowKit Go.Lib
set_option maxRecDepth 100000
theorem fit_eq (a b : List Pc) : eqB (closesL a).length (opensL b).length (fun j => (closesL a).getD j ByteArray.empty) (fun q => (opensL b).getD ((opensL b).length - 1 - q) ByteArray.empty) = fitB a b := by
  unfold fitB
  generalize closesL a = l
  generalize opensL b = m
  by_cases h : l = m.reverse
  · subst h
    rw [List.length_reverse, decide_eq_true rfl]
    refine eqB_yes (fun i hi => ?_)
    rw [List.getD_eq_getElem?_getD, List.getD_eq_getElem?_getD, List.getElem?_reverse hi]
  · rw [decide_eq_false h]
    by_cases hl : l.length = m.length
    · have : ∃ i, i < l.length ∧ l.getD i ByteArray.empty ≠ m.getD (m.length - 1 - i) ByteArray.empty := by
        refine Classical.byContradiction fun hn => h (List.ext_getElem? fun i => ?_)
        by_cases hi : i < l.length
        · have he : l.getD i ByteArray.empty = m.getD (m.length - 1 - i) ByteArray.empty := Classical.byContradiction fun hx => hn ⟨i, hi, hx⟩
          rw [List.getElem?_reverse (by omega), List.getElem?_eq_getElem hi, List.getElem?_eq_getElem (by omega)]
          rw [List.getD_eq_getElem?_getD, List.getD_eq_getElem?_getD, List.getElem?_eq_getElem hi, List.getElem?_eq_getElem (by omega)] at he
          exact congrArg some he
        · rw [List.getElem?_eq_none (by omega), List.getElem?_eq_none (by simp; omega)]
      obtain ⟨i, hi, hne⟩ := this
      exact eqB_no hi hne
    · unfold eqB
      simp [hl]
set_option maxHeartbeats 16000000 in
theorem fit_any (a b : List Pc) (u v : Value) (w : World) (ha : PcsAt w u a) (hb : PcsAt w v b) (hal : a.length ≤ 3000) (hbl : b.length ≤ 3000) :
    Calls Tryz.prog 45 #[u, v] w fun e w' => e = .returned (.bool (fitB a b)) ∧ Below w.heap.size w w' := by
  obtain ⟨i0, hi, hz0, hz1, hz2⟩ := info_parts info_str
  have ag := Tryz.isAgg52
  have zg := Tryz.sizeOf52
  have HPB := Lib.hid hb
  obtain ⟨pa, capa, rfl, hla, hca, hra⟩ := ha
  obtain ⟨pb, capb, rfl, hlb, hcb2, hrb⟩ := hb
  unfold maxLen at hca hcb2
  have HRA := Lib.hid hra
  clear hra hrb
  go_enter Tryz.func45, Tryz.ntmps45
  go_wp2
  go_loopw [5, 13] (fun o i wr => ∃ k : Nat, k ≤ a.length ∧ i = .int .i64 k ∧ Hid (OwnS w.heap.size o (closesL (a.take k)) wr) ∧ Hid (Below w.heap.size w wr)) (fun _ i _ => a.length - (RowKit.intOf i).toNat)
  case atStart => exact ⟨0, Nat.zero_le _, rfl, World.ownsRow_nil _ _ _ _, Below.refl _ _⟩
  case round =>
    obtain ⟨k, hk, rfl, HO, HB⟩ := hrel
    by_cases hlt : k < a.length
    · obtain ⟨A, rfl, hA, hcell⟩ := HRA.out (by omega)
      obtain ⟨x0, x1, x2⟩ := pcs_cells hA hcell hlt HB.out
      have HT := Lib.hid (closesL_succ hlt)
      have hpl := closesL_len (a.take k)
      have htk : (a.take k).length ≤ a.length := by rw [List.length_take]; omega
      clear hcell
      generalize a.getD k nil = x at x0 x1 x2 HT
      generalize closesL (a.take k) = pre at HO HT hpl
      obtain ⟨xk, xs, xc⟩ := x
      dsimp only at x0 x1 x2
      have hpre : pre.length ≤ 3000 := by omega
      have HO1 := Lib.hid (HO.out.step (below_box (.cells #[.int .u8 xk, .string xs, .bool xc] 52)))
      have HB1 := Lib.hid (below_next HB.out (below_box (.cells #[.int .u8 xk, .string xs, .bool xc] 52)))
      have HX1 := Lib.hid (show (wr.alloc (.cells #[.int .u8 xk, .string xs, .bool xc] 52)).heap[wr.heap.size]? = some (pcC ⟨xk, xs, xc⟩) from heap_alloc_new wr _)
      have cC := fun W => isCarriedClose_any ⟨xk, xs, xc⟩ W
      unfold pcV at cC
      dsimp only at cC
      obtain ⟨ao, ca2, hfo⟩ := HO.out.form
      subst hfo
      cases hcb : ccB ⟨xk, xs, xc⟩
      · rw [hcb] at cC
        have HT2 := Lib.hid (show closesL (a.take (k + 1)) = pre by rw [HT.out, hcb]; simp)
        clear hcb HT
        go_wp2_with (go_at_call 47; (with_reducible refine (cC _).mono ?_); rintro e w5 ⟨rfl, hb5⟩; have HO5 := Lib.hid (HO1.out.step hb5); have HB5 := Lib.hid (below_next HB1.out hb5); clear hb5)
        go_roundw
        case rel => exact ⟨k + 1, hlt, by go_num, by show OwnS _ _ _ _; rw [HT2.out]; exact HO5.out, HB5.out⟩
        case measure => simp [RowKit.intOf] <;> omega
      · rw [hcb] at cC
        have HT2 := Lib.hid (show closesL (a.take (k + 1)) = pre ++ [xs] by rw [HT.out, hcb]; rfl)
        clear hcb HT
        go_wp2_with (first
          | (go_at_call 47; (with_reducible refine (cC _).mono ?_); rintro e w5 ⟨rfl, hb5⟩; have HO5 := Lib.hid (HO1.out.step hb5); have HB5 := Lib.hid (below_next HB1.out hb5); have HX5 := Lib.hid ((hb5.block _ (lt_of_block HX1.out)).trans HX1.out); obtain ⟨y0, y1, y2⟩ := boxP_cells HX5.out; dsimp only at y0 y1 y2; clear hb5)
          | (at_builtin; have hown := HO5.out; unfold OwnS at hown; have hsz5 := HB5.out.size; refine wpList_append_own _ rfl _ _ 55 rfl w.heap.size 9 i0 (.string ⟨#[]⟩) 1 16 Tryz.underlying55 hi hz0 hz1 hz2 rfl (by decide) _ _ _ rfl (hown.alloc (.cells #[.string xs] 9)) _ 1 1 [.string xs] rfl rfl (cell_new1 _ _ _) (fun x hx => by simp at hx; subst hx; rfl) (by unfold maxLen; omega) (by omega) (by simp; omega) ?_; intro v6 w6 hown6 hgrow6 hnil6
             have HB6 := Lib.hid ((HB5.out.alloc hsz5 (.cells #[.string xs] 9)).grown hgrow6 (by simp; omega) (fun k hk => (hown.lt k hk).1))
             have HO6 := Lib.hid (show OwnS w.heap.size v6 (pre ++ [xs]) w6 by unfold OwnS; rw [List.length_append, List.map_append]; exact hown6)
             clear hown hown6 hgrow6 hnil6 hsz5))
        go_roundw
        case rel => exact ⟨k + 1, hlt, by go_num, by show OwnS _ _ _ _; rw [HT2.out]; exact HO6.out, HB6.out⟩
        case measure => simp [RowKit.intOf] <;> omega
    · obtain rfl : k = a.length := by omega
      rw [List.take_length] at HO
      have HCA := Lib.hid HO.out
      have HB1w := Lib.hid HB.out
      have HPB1 := HPB.out.step HB.out
      obtain ⟨pb2, capb2, e2, _, _, hrb1⟩ := HPB1
      obtain ⟨rfl, rfl⟩ : pb = pb2 ∧ capb = capb2 := by simpa using e2
      have HRB := Lib.hid hrb1
      clear hrb1 e2 HO HB HRA
      obtain ⟨w1, hw1⟩ : ∃ x, x = wr := ⟨_, rfl⟩
      subst hw1
      go_wp2
      go_loopw [6, 27] (fun o i wr => ∃ k : Nat, k ≤ b.length ∧ i = .int .i64 k ∧ Hid (OwnS w1.heap.size o (opensL (b.take k)) wr) ∧ Hid (Below w1.heap.size w1 wr)) (fun _ i _ => b.length - (RowKit.intOf i).toNat)
      case atStart => exact ⟨0, Nat.zero_le _, rfl, World.ownsRow_nil _ _ _ _, Below.refl _ _⟩
      case round =>
        obtain ⟨k, hk, rfl, HO, HB⟩ := hrel
        by_cases hlt : k < b.length
        · obtain ⟨A, rfl, hA, hcell⟩ := HRB.out (by omega)
          obtain ⟨x0, x1, x2⟩ := pcs_cells hA hcell hlt HB.out
          have HT := Lib.hid (opensL_succ hlt)
          have hpl := opensL_len (b.take k)
          have htk : (b.take k).length ≤ b.length := by rw [List.length_take]; omega
          clear hcell
          generalize b.getD k nil = x at x0 x1 x2 HT
          generalize opensL (b.take k) = pre at HO HT hpl
          obtain ⟨xk, xs, xc⟩ := x
          dsimp only at x0 x1 x2
          have hpre : pre.length ≤ 3000 := by omega
          have HO1 := Lib.hid (HO.out.step (below_box (.cells #[.int .u8 xk, .string xs, .bool xc] 52)))
          have HB1 := Lib.hid (below_next HB.out (below_box (.cells #[.int .u8 xk, .string xs, .bool xc] 52)))
          have HX1 := Lib.hid (show (wr.alloc (.cells #[.int .u8 xk, .string xs, .bool xc] 52)).heap[wr.heap.size]? = some (pcC ⟨xk, xs, xc⟩) from heap_alloc_new wr _)
          have cC := fun W => isCarriedOpen_any ⟨xk, xs, xc⟩ W
          unfold pcV at cC
          dsimp only at cC
          obtain ⟨ao, ca2, hfo⟩ := HO.out.form
          subst hfo
          cases hcb : coB ⟨xk, xs, xc⟩
          · rw [hcb] at cC
            have HT2 := Lib.hid (show opensL (b.take (k + 1)) = pre by rw [HT.out, hcb]; simp)
            clear hcb HT
            go_wp2_with (go_at_call 46; (with_reducible refine (cC _).mono ?_); rintro e w5 ⟨rfl, hb5⟩; have HO5 := Lib.hid (HO1.out.step hb5); have HB5 := Lib.hid (below_next HB1.out hb5); clear hb5)
            go_roundw
            case rel => exact ⟨k + 1, hlt, by go_num, by show OwnS _ _ _ _; rw [HT2.out]; exact HO5.out, HB5.out⟩
            case measure => simp [RowKit.intOf] <;> omega
          · rw [hcb] at cC
            have HT2 := Lib.hid (show opensL (b.take (k + 1)) = pre ++ [xs] by rw [HT.out, hcb]; rfl)
            clear hcb HT
            go_wp2_with (first
              | (go_at_call 46; (with_reducible refine (cC _).mono ?_); rintro e w5 ⟨rfl, hb5⟩; have HO5 := Lib.hid (HO1.out.step hb5); have HB5 := Lib.hid (below_next HB1.out hb5); have HX5 := Lib.hid ((hb5.block _ (lt_of_block HX1.out)).trans HX1.out); obtain ⟨y0, y1, y2⟩ := boxP_cells HX5.out; dsimp only at y0 y1 y2; clear hb5)
              | (at_builtin; have hown := HO5.out; unfold OwnS at hown; have hsz5 := HB5.out.size; refine wpList_append_own _ rfl _ _ 55 rfl w1.heap.size 9 i0 (.string ⟨#[]⟩) 1 16 Tryz.underlying55 hi hz0 hz1 hz2 rfl (by decide) _ _ _ rfl (hown.alloc (.cells #[.string xs] 9)) _ 1 1 [.string xs] rfl rfl (cell_new1 _ _ _) (fun x hx => by simp at hx; subst hx; rfl) (by unfold maxLen; omega) (by omega) (by simp; omega) ?_; intro v6 w6 hown6 hgrow6 hnil6
                 have HB6 := Lib.hid ((HB5.out.alloc hsz5 (.cells #[.string xs] 9)).grown hgrow6 (by simp; omega) (fun k hk => (hown.lt k hk).1))
                 have HO6 := Lib.hid (show OwnS w1.heap.size v6 (pre ++ [xs]) w6 by unfold OwnS; rw [List.length_append, List.map_append]; exact hown6)
                 clear hown hown6 hgrow6 hnil6 hsz5))
            go_roundw
            case rel => exact ⟨k + 1, hlt, by go_num, by show OwnS _ _ _ _; rw [HT2.out]; exact HO6.out, HB6.out⟩
            case measure => simp [RowKit.intOf] <;> omega
        · obtain rfl : k = b.length := by omega
          rw [List.take_length] at HO
          have HE := Lib.hid (fit_eq a b)
          have hob := opensL_len b
          have hsz1 := HB.out.size
          obtain ⟨ao, ca2, hfo⟩ := HCA.out.form
          subst hfo
          by_cases h0 : (opensL b).length = 0
          · obtain ⟨ao2, ca3, hfo⟩ := HO.out.form
            subst hfo
            have HW2 := Lib.hid (WsAt.own HO.out)
            have cE := fun W (h1 : Below wr.heap.size wr W) => equalS_any _ _ _ _ _ _ W ((WsAt.own HCA.out).step (below_next HB.out h1)) (HW2.out.step h1)
            have hE : eqB (closesL a).length (opensL b).length (fun j => (closesL a).getD j ByteArray.empty) (fun j => (opensL b).getD j ByteArray.empty) = fitB a b := by
              rw [← HE.out]
              unfold eqB
              by_cases hq : (closesL a).length = 0
              · rw [hq, h0]; rfl
              · have : (closesL a).length ≠ (opensL b).length := by omega
                simp [this]
            rw [hE] at cE
            rw [h0] at cE ⊢
            have cR := fun W => reverse_none W ao2 ca3
            go_wp2_with (first
              | (go_at_call 82; (with_reducible refine (cR _).mono ?_); rintro e w6 ⟨rfl, rfl⟩)
              | (go_at_call 83; (with_reducible refine (cE _ (Below.refl _ _)).mono ?_); rintro e w7 ⟨rfl, hb7⟩))
            go_ret
            exact ⟨rfl, below_next (below_next HB1w.out HB.out) hb7⟩
          · have hown := HO.out
            rcases hown.2 with ⟨_, h00⟩ | ⟨g, cap, cur, hv2, hg, hgg, hnc, hcm, _⟩
            · exact absurd h00 h0
            · have HO2 := HO.out
              obtain rfl := hv2
              have hr := RowS.own HO2
              have cR := reverse_any g (opensL b).length cap _ wr hr (by omega) (by omega)
              have cE := fun W (hk : Below w1.heap.size wr W) (hrow : RowS W g (opensL b).length (fun q => (opensL b).getD ((opensL b).length - 1 - q) ByteArray.empty)) => equalS_any _ _ _ _ _ _ W ((WsAt.own HCA.out).step (HB.out.trans hk)) (WsAt.row hrow hnc hcm)
              rw [HE.out] at cE
              have hlen : (opensL b).length ≤ 3000 := by omega
              clear hown hgg hr HO2
              go_wp2_with (first
                | (go_at_call 82; (with_reducible refine cR.mono ?_); rintro e w6 ⟨rfl, hrow6, hk6⟩; have HK6 := Lib.hid (hk6.below (C := w1.heap.size) hsz1 hg); have HW6 := Lib.hid hrow6; clear hrow6 hk6)
                | (go_at_call 83; (with_reducible refine (cE _ HK6.out HW6.out).mono ?_); rintro e w7 ⟨rfl, hb7⟩))
              go_ret
              exact ⟨rfl, below_next (HB1w.out.trans ((HB.out.trans HK6.out).mono HB1w.out.size)) hb7⟩
end Go.Proofs.YtnkpjkomokkhcaaGreatDoor
namespace Go.Proofs.YtnkpjkomokkhcaaGreatDoor
open Go Go.RowKit Go.Lib
set_option maxRecDepth 100000
theorem bulk_app2 (l m : List Pc) : bulk (l ++ m) = bulk l + bulk m := by
  unfold bulk
  simp
  omega
theorem flush_small (t : List UInt8) : t.length ≤ bulk (flush t) := by
  unfold flush
  split
  · rename_i e; subst e; simp
  · rw [bulk_cons]
    show _ ≤ bulk [] + (bytes t).size + 1
    have : (bytes t).size = t.length := rfl
    omega
theorem JG.small {o : List Pc} {st : Js} (h : JG o st) {N : Nat} (hb : bulk o ≤ N) : st.o.length ≤ N ∧ st.t.length ≤ N := by
  rw [h.1, bulk_app2] at hb
  have h1 := flush_small st.t
  have h2 : st.o.length ≤ bulk st.o := by unfold bulk; omega
  omega
/-- the joiner of Glue, made and empty -/
theorem JoinAt.begin (w : World) : JoinAt (w.heap.size + 1) w.heap.size [] [] (w.alloc (.cells #[.slice none 0 0, .slice none 0 0] 66)) :=
  ⟨Nat.zero_le _, .slice none 0 0, .slice none 0 0, heap_alloc_new w _, OwnP.nil _ _, OwnB.nil _ _⟩
/-- what holds while parts are glued: the joiner, and all that was there -/
def GlS (W0 : World) (st : Js) (wr : World) : Prop := JoinAt (W0.heap.size + 1) W0.heap.size st.o st.t wr ∧ Below W0.heap.size W0 wr ∧ W0.heap.size + 1 ≤ wr.heap.size
theorem GlS.step {W0 : World} {st : Js} {wr w2 : World} (h : GlS W0 st wr) (hb : Below wr.heap.size wr w2) : GlS W0 st w2 :=
  ⟨h.1.step hb, below_next h.2.1 hb, Nat.le_trans h.2.2 hb.size⟩
theorem GlS.joined {W0 : World} {st st' : Js} {wr w2 : World} (h : GlS W0 st wr) (hj : JoinAt (W0.heap.size + 1) W0.heap.size st'.o st'.t w2) (hk : KeptBut (W0.heap.size + 1) W0.heap.size wr w2) : GlS W0 st' w2 :=
  ⟨hj, h.2.1.trans (hk.below (Nat.le_succ _) (Nat.le_refl _)), Nat.le_trans h.2.2 hk.size⟩
theorem innerB_co {n i : Nat} {x : Pc} (h : coB x = true) (hi : 0 < i) : innerB n i x = true := by unfold innerB; simp [h, hi]
theorem innerB_cc {n i : Nat} {x : Pc} (h : ccB x = true) (hi : i + 1 < n) : innerB n i x = true := by unfold innerB; simp [h, hi]
theorem innerB_no {n i : Nat} {x : Pc} (h1 : coB x = false ∨ ¬ 0 < i) (h2 : ccB x = false ∨ ¬ i + 1 < n) : innerB n i x = false := by
  unfold innerB
  rcases h1 with h1 | h1 <;> rcases h2 with h2 | h2 <;> simp [h1, h2]
theorem len_check {l : List Pc} (h : checkE l = 0) : l.length ≤ 512 := by
  unfold checkE at h
  split at h
  · cases h
  · omega
theorem fit_any2 (a b : List Pc) (u v : Value) (w : World) (ha : PcsAt w u a) (hb : PcsAt w v b) (hal : a.length ≤ 3000) (hbl : b.length ≤ 3000) :
    Calls Tryz.prog 45 #[u, v] w fun e w' => e = .returned (.bool (fitB a b)) ∧ Below w.heap.size w w' := fit_any a b u v w ha hb hal hbl
set_option maxHeartbeats 64000000 in
theorem glue_any (ps : List (List Pc)) (v : Value) (w : World) (hp : PtsAt w v ps) (hn : ps.length ≤ 40) (hb : bulkPs ps ≤ 40000) (hT : Tabs w) :
    Calls Tryz.prog 12 #[v] w fun e w' => (∃ u, e = .returned (.tuple #[u, .int .u8 (glueE ps)]) ∧ OwnP 0 u (glueL ps) w') ∧ Below w.heap.size w w' := by
  have ag := Tryz.isAgg52
  have zg := Tryz.sizeOf52
  have HP := Lib.hid hp
  have HT := Lib.hid hT
  obtain ⟨p, cap, rfl, hlc, hcm⟩ := hp.form
  unfold maxLen at hcm
  clear hp hT
  have HGE : Hid (glueE ps = if ps.length = 0 then 1 else if checkPs ps ps.length ≠ 0 then checkPs ps ps.length else if fitPs ps (ps.length - 1) = false then 10 else if 512 < (gTo ps ps.length).length then 3 else 0) := rfl
  have HGL : Hid (glueL ps = if glueE ps = 0 then gTo ps ps.length else []) := rfl
  have HBK := Lib.hid (fun i (hi : i < ps.length) => Nat.le_trans (bulkPs_get hi) hb)
  by_cases h0 : ps.length = 0
  · have hE : glueE ps = 1 := by rw [HGE.out, if_pos h0]
    have hL : glueL ps = [] := by rw [HGL.out, if_neg (by rw [hE]; decide)]
    rw [hE, hL]
    have hi0 : ((ps.length : Int) == 0) = true := beq_iff_eq.2 (by omega)
    clear hE hL
    go_enter Tryz.func12, Tryz.ntmps12
    go_wp2
    go_ret2
    exact ⟨⟨_, rfl, OwnP.nil _ _⟩, Below.refl _ _⟩
  have hi0 : ((ps.length : Int) == 0) = false := beq_eq_false_iff_ne.2 (by omega)
  rw [if_neg h0] at HGE
  go_enter Tryz.func12, Tryz.ntmps12
  go_wp2
  go_loopw [5, 6, 20] (fun _ _ i wr => ∃ k : Nat, k ≤ ps.length ∧ i = .int .i64 k ∧ Hid (checkPs ps k = 0) ∧ Hid (Below w.heap.size w wr)) (fun _ _ i _ => ps.length - (RowKit.intOf i).toNat)
  case atStart => exact ⟨0, Nat.zero_le _, rfl, rfl, Below.refl _ _⟩
  case round =>
    obtain ⟨k, hk, rfl, HC, HB⟩ := hrel
    by_cases hlt : k < ps.length
    · obtain ⟨A, q, c, rfl, x0, hpc⟩ := HP.out.part HB.out hlt
      have hbk := HBK.out k hlt
      have cC := checkPieces_any (ps.getD k []) _ wr hpc (fun x hx => by
        have h1 := short_mem (l := ps.getD k []) (by omega) x hx
        exact h1) (HT.out.step HB.out)
      have HS : Hid (checkPs ps (k + 1) = checkE (ps.getD k [])) := by
        show _ = _
        simp only [checkPs]
        rw [if_neg (by rw [HC.out]; simp)]
      have hki : (k : Int) < (ps.length : Int) := by omega
      have hk0 : (0 : Int) ≤ (k : Int) := by omega
      clear hpc
      by_cases hz : checkE (ps.getD k []) = 0
      · rw [hz] at cC HS
        clear hz
        generalize ps.getD k [] = part at x0 cC
        go_wp2_with (go_at_call 44; (with_reducible refine cC.mono ?_); rintro e w5 ⟨rfl, hb5⟩)
        go_roundw
        case rel => exact ⟨k + 1, hlt, by go_num, HS.out, below_next HB.out hb5⟩
        case measure => simp [RowKit.intOf] <;> omega
      · have hE : glueE ps = checkE (ps.getD k []) := by
          have h1 := checkPs_stuck (ps := ps) (k := k + 1) (by rw [HS.out]; exact hz) (ps.length - (k + 1))
          rw [show k + 1 + (ps.length - (k + 1)) = ps.length by omega, HS.out] at h1
          rw [HGE.out, if_pos (by rw [h1]; exact hz), h1]
        have hL : glueL ps = [] := by rw [HGL.out, if_neg (by rw [hE]; exact hz)]
        have HE2 := Lib.hid (And.intro hE hL)
        have hz2 : (checkE (ps.getD k []) != 0) = true := by simpa using hz
        clear hE hL hz HS
        generalize checkE (ps.getD k []) = Z at cC hz2 HE2
        generalize ps.getD k [] = part at x0 cC
        go_wp2_with (go_at_call 44; (with_reducible refine cC.mono ?_); rintro e w5 ⟨rfl, hb5⟩)
        go_ret2
        exact ⟨⟨.slice none 0 0, by rw [HE2.out.1]; rfl, by rw [HE2.out.2]; exact OwnP.nil _ _⟩, below_next HB.out hb5⟩
    · obtain rfl : k = ps.length := by omega
      have hc0 := HC.out
      have HCZ := Lib.hid (checkPs_zero hc0)
      rw [if_neg (by rw [hc0]; simp)] at HGE
      have hn1 : (1 : Int) ≤ (ps.length : Int) := by omega
      obtain ⟨A0, hA0⟩ : ∃ A0, p = some A0 := by
        obtain ⟨A, _, _, h1, _⟩ := HP.out.part HB.out (i := 0) (by omega)
        exact ⟨A, h1⟩
      subst hA0
      have HB1 := Lib.hid HB.out
      obtain ⟨w1, hw1⟩ : ∃ x, x = wr := ⟨_, rfl⟩
      subst hw1
      clear hc0 hk hlt HC HB
      by_cases hcap1 : cap = 1
      · go_wp2
        go_loopw [7, 33] (fun _ i wr => ∃ k : Nat, k ≤ ps.length - 1 ∧ i = .int .i64 k ∧ Hid (fitPs ps k = true) ∧ Hid (Below w.heap.size w wr)) (fun _ i _ => ps.length - (RowKit.intOf i).toNat)
        case atStart => exact ⟨0, Nat.zero_le _, rfl, rfl, HB1.out⟩
        case round =>
          obtain ⟨k, hk, rfl, HF, HB⟩ := hrel
          by_cases hlt : k < ps.length - 1
          · exfalso; omega
          · obtain rfl : k = ps.length - 1 := by omega
            have hf0 := HF.out
            rw [if_neg (by rw [hf0]; simp)] at HGE
            have hlti : ¬ ((ps.length - 1 : Nat) : Int) < (ps.length : Int) - 1 := by omega
            have HJ0 := Lib.hid (show GlS wr (jgTo ps 0) (wr.alloc (.cells #[.slice none 0 0, .slice none 0 0] 66)) from ⟨JoinAt.begin wr, below_box _, by simp⟩)
            have HB2 := Lib.hid HB.out
            obtain ⟨w2, hw2⟩ : ∃ x, x = wr := ⟨_, rfl⟩
            subst hw2
            clear hf0 HF HB hk hlt
            go_wp2
            have HPW := Lib.hid (HP.out.step HB2.out)
            have HJG := Lib.hid (JG.all HCZ.out)
            have hsmall : ∀ k, k ≤ ps.length → bulk (gTo ps k) ≤ 40000 := fun k hk => Nat.le_trans (gTo_bulk ps k hk) (Nat.le_trans (bulkPs_take_le ps (ps.length - k) k (by omega)) hb)
            have HSM := Lib.hid hsmall
            clear hsmall
            go_loopw [9, 10, 50] (fun _ _ i wr => ∃ k : Nat, k ≤ ps.length ∧ i = .int .i64 k ∧ Hid (GlS w2 (jgTo ps k) wr)) (fun _ _ i _ => ps.length - (RowKit.intOf i).toNat)
            case atStart => exact ⟨0, Nat.zero_le _, rfl, HJ0.out⟩
            case round =>
              obtain ⟨k, hk, rfl, HS⟩ := hrel
              by_cases hlt : k < ps.length
              · obtain ⟨A, q, c, e1, x0, hpk⟩ := HPW.out.part (Below.refl _ _) (i := k) hlt
                obtain rfl : A0 = A := by simpa using e1
                have HX0 := Lib.hid x0
                obtain ⟨q', c', e2, hql, hqc, hrow⟩ := hpk
                obtain ⟨rfl, rfl⟩ : q = q' ∧ c = c' := by simpa using e2
                unfold maxLen at hqc
                have HR := Lib.hid hrow
                have x0 := (HS.out.2.1.cell (World.block_lt_of_cell? w2 _ HX0.out)).trans HX0.out
                have hki : (k : Int) < (ps.length : Int) := by omega
                have hk0 : (0 : Int) ≤ (k : Int) := by omega
                have HNX : Hid (jgTo ps (k + 1) = jPart ps.length k (jgTo ps k) (ps.getD k []) (ps.getD k []).length) := rfl
                have HJP : Hid (∀ m, m ≤ (ps.getD k []).length → JG (gPart ps.length k (gTo ps k) (ps.getD k []) m) (jPart ps.length k (jgTo ps k) (ps.getD k []) m)) := JG.part (fun i hi => fine_of (all_valid (HCZ.out k hlt) i hi)) (HJG.out k hk)
                have HBP : Hid (∀ m, m ≤ (ps.getD k []).length → bulk (gPart ps.length k (gTo ps k) (ps.getD k []) m) ≤ 90000) := fun m hm => by
                  have h1 := gPart_bulk ps.length k (gTo ps k) (ps.getD k []) m hm
                  have h2 := HSM.out k hk
                  have h3 := HBK.out k hlt
                  have h4 := bulk_take (ps.getD k []) m
                  omega
                have HJS := Lib.hid (fun m (hm : m < (ps.getD k []).length) => jPart_succ (n := ps.length) (i := k) (st := jgTo ps k) hm)
                have hbk := HBK.out k hlt
                clear x0 e1 e2 hrow
                have x0 := (HS.out.2.1.cell (World.block_lt_of_cell? w2 _ HX0.out)).trans HX0.out
                generalize ps.getD k [] = part at *
                generalize jgTo ps k = st0 at *
                go_wp2
                obtain ⟨wo, hwo⟩ : ∃ wo, wo = wr := ⟨_, rfl⟩
                subst hwo
                go_loopw [13, 57] (fun _ i wr => ∃ m : Nat, m ≤ part.length ∧ i = .int .i64 m ∧ Hid (GlS w2 (jPart ps.length k st0 part m) wr)) (fun _ i _ => part.length - (RowKit.intOf i).toNat)
                case atStart => exact ⟨0, Nat.zero_le _, rfl, HS.out⟩
                case round =>
                  clear HS x0
                  obtain ⟨m, hm, rfl, HS⟩ := hrel
                  by_cases hltm : m < part.length
                  · obtain ⟨AP, rfl, hAP, hcell⟩ := HR.out (by omega)
                    obtain ⟨x0, x1, x2⟩ := pcs_cells hAP hcell hltm HS.out.2.1
                    have hsx := bulk_getD hltm
                    have hsm2 := (HJP.out m hm).small (HBP.out m hm)
                    have HT2 := Lib.hid (HJS.out m hltm)
                    have hmi : (m : Int) < (part.length : Int) := by omega
                    have hm0 : (0 : Int) ≤ (m : Int) := by omega
                    clear hcell
                    generalize part.getD m nil = x at x0 x1 x2 hsx HT2
                    generalize jPart ps.length k st0 part m = st at HS hsm2 HT2
                    obtain ⟨xk, xs, xc⟩ := x
                    dsimp only at x0 x1 x2 hsx
                    have HSc := Lib.hid (HS.out.step (below_box (.cells #[.int .u8 xk, .string xs, .bool xc] 52)))
                    have HXc := Lib.hid (show (wr.alloc (.cells #[.int .u8 xk, .string xs, .bool xc] 52)).heap[wr.heap.size]? = some (pcC ⟨xk, xs, xc⟩) from heap_alloc_new wr _)
                    obtain ⟨y0, y1, y2⟩ := boxP_cells HXc.out
                    dsimp only at y0 y1 y2
                    have cO := fun W => isCarriedOpen_any ⟨xk, xs, xc⟩ W
                    have cC := fun W => isCarriedClose_any ⟨xk, xs, xc⟩ W
                    have hq1 : st.t.length + xs.size ≤ 100000000 := by omega
                    have hq2 : st.o.length ≤ 1000000 := by omega
                    have cP := fun W (h : Hid (GlS w2 st W)) => putPc_any (w2.heap.size + 1) w2.heap.size st ⟨xk, xs, xc⟩ W h.out.1 hq1 hq2 h.out.2.2
                    unfold pcV at cO cC cP
                    dsimp only at cO cC cP
                    have HIT := Lib.hid (fun (h : innerB ps.length k ⟨xk, xs, xc⟩ = true) => show jPart ps.length k st0 part (m + 1) = st by rw [HT2.out]; unfold jAdd; rw [if_pos h])
                    have HIF := Lib.hid (fun (h : innerB ps.length k ⟨xk, xs, xc⟩ = false) => show jPart ps.length k st0 part (m + 1) = js3 ⟨xk, xs, xc⟩ st by rw [HT2.out]; unfold jAdd; rw [if_neg (by rw [h]; simp)])
                    clear HT2 HS hsm2
                    cases hco : coB ⟨xk, xs, xc⟩
                    · rw [hco] at cO
                      cases hcc : ccB ⟨xk, xs, xc⟩
                      ·
                        rw [hcc] at cC
                        have HST := Lib.hid (HIF.out (innerB_no (.inl hco) (.inl hcc)))
                        clear HIT HIF
                        go_wp2_with (first
                          | (go_at_call 46; (with_reducible refine (cO _).mono ?_); rintro e w5 ⟨rfl, hb5⟩; have HSn := Lib.hid (HSc.out.step hb5); have HXn := Lib.hid ((hb5.block _ (lt_of_block HXc.out)).trans HXc.out); clear HSc HXc y0 y1 y2 hb5; have HSc := HSn; have HXc := HXn; clear HSn HXn; obtain ⟨y0, y1, y2⟩ := boxP_cells HXc.out; dsimp only at y0 y1 y2)
                          | (go_at_call 47; (with_reducible refine (cC _).mono ?_); rintro e w5 ⟨rfl, hb5⟩; have HSn := Lib.hid (HSc.out.step hb5); have HXn := Lib.hid ((hb5.block _ (lt_of_block HXc.out)).trans HXc.out); clear HSc HXc y0 y1 y2 hb5; have HSc := HSn; have HXc := HXn; clear HSn HXn; obtain ⟨y0, y1, y2⟩ := boxP_cells HXc.out; dsimp only at y0 y1 y2)
                          | (go_at_call 37; (with_reducible refine (cP _ HSc).mono ?_); rintro e w6 ⟨rfl, hj6, hk6⟩; have HSf := Lib.hid (HSc.out.joined hj6 hk6); clear hj6 hk6))
                        go_roundw
                        case rel => exact ⟨m + 1, hltm, by go_num, by show GlS _ _ _; rw [HST.out]; exact HSf.out⟩
                        case measure => simp [RowKit.intOf] <;> omega
                      · rw [hcc] at cC
                        by_cases hkl : k + 1 < ps.length
                        ·
                          exfalso; omega
                        ·
                          have hkli : ¬ (k : Int) < (ps.length : Int) - 1 := by omega
                          have hkld : decide ((k : Int) < (ps.length : Int) - 1) = false := decide_eq_false hkli
                          have HST := Lib.hid (HIF.out (innerB_no (.inl hco) (.inr hkl)))
                          clear HIT HIF
                          go_wp2_with (first
                            | (go_at_call 46; (with_reducible refine (cO _).mono ?_); rintro e w5 ⟨rfl, hb5⟩; have HSn := Lib.hid (HSc.out.step hb5); have HXn := Lib.hid ((hb5.block _ (lt_of_block HXc.out)).trans HXc.out); clear HSc HXc y0 y1 y2 hb5; have HSc := HSn; have HXc := HXn; clear HSn HXn; obtain ⟨y0, y1, y2⟩ := boxP_cells HXc.out; dsimp only at y0 y1 y2)
                            | (go_at_call 47; (with_reducible refine (cC _).mono ?_); rintro e w5 ⟨rfl, hb5⟩; have HSn := Lib.hid (HSc.out.step hb5); have HXn := Lib.hid ((hb5.block _ (lt_of_block HXc.out)).trans HXc.out); clear HSc HXc y0 y1 y2 hb5; have HSc := HSn; have HXc := HXn; clear HSn HXn; obtain ⟨y0, y1, y2⟩ := boxP_cells HXc.out; dsimp only at y0 y1 y2)
                            | (go_at_call 37; (with_reducible refine (cP _ HSc).mono ?_); rintro e w6 ⟨rfl, hj6, hk6⟩; have HSf := Lib.hid (HSc.out.joined hj6 hk6); clear hj6 hk6))
                          go_roundw
                          case rel => exact ⟨m + 1, hltm, by go_num, by show GlS _ _ _; rw [HST.out]; exact HSf.out⟩
                          case measure => simp [RowKit.intOf] <;> omega
                    · rw [hco] at cO
                      by_cases hkp : 0 < k
                      ·
                        exfalso; omega
                      · have hkpi : ¬ (0 : Int) < (k : Int) := by omega
                        cases hcc : ccB ⟨xk, xs, xc⟩
                        ·
                          rw [hcc] at cC
                          have HST := Lib.hid (HIF.out (innerB_no (.inr hkp) (.inl hcc)))
                          clear HIT HIF
                          go_wp2_with (first
                            | (go_at_call 46; (with_reducible refine (cO _).mono ?_); rintro e w5 ⟨rfl, hb5⟩; have HSn := Lib.hid (HSc.out.step hb5); have HXn := Lib.hid ((hb5.block _ (lt_of_block HXc.out)).trans HXc.out); clear HSc HXc y0 y1 y2 hb5; have HSc := HSn; have HXc := HXn; clear HSn HXn; obtain ⟨y0, y1, y2⟩ := boxP_cells HXc.out; dsimp only at y0 y1 y2)
                            | (go_at_call 47; (with_reducible refine (cC _).mono ?_); rintro e w5 ⟨rfl, hb5⟩; have HSn := Lib.hid (HSc.out.step hb5); have HXn := Lib.hid ((hb5.block _ (lt_of_block HXc.out)).trans HXc.out); clear HSc HXc y0 y1 y2 hb5; have HSc := HSn; have HXc := HXn; clear HSn HXn; obtain ⟨y0, y1, y2⟩ := boxP_cells HXc.out; dsimp only at y0 y1 y2)
                            | (go_at_call 37; (with_reducible refine (cP _ HSc).mono ?_); rintro e w6 ⟨rfl, hj6, hk6⟩; have HSf := Lib.hid (HSc.out.joined hj6 hk6); clear hj6 hk6))
                          go_roundw
                          case rel => exact ⟨m + 1, hltm, by go_num, by show GlS _ _ _; rw [HST.out]; exact HSf.out⟩
                          case measure => simp [RowKit.intOf] <;> omega
                        · rw [hcc] at cC
                          by_cases hkl : k + 1 < ps.length
                          ·
                            exfalso; omega
                          ·
                            have hkli : ¬ (k : Int) < (ps.length : Int) - 1 := by omega
                            have hkld : decide ((k : Int) < (ps.length : Int) - 1) = false := decide_eq_false hkli
                            have HST := Lib.hid (HIF.out (innerB_no (.inr hkp) (.inr hkl)))
                            clear HIT HIF
                            go_wp2_with (first
                              | (go_at_call 46; (with_reducible refine (cO _).mono ?_); rintro e w5 ⟨rfl, hb5⟩; have HSn := Lib.hid (HSc.out.step hb5); have HXn := Lib.hid ((hb5.block _ (lt_of_block HXc.out)).trans HXc.out); clear HSc HXc y0 y1 y2 hb5; have HSc := HSn; have HXc := HXn; clear HSn HXn; obtain ⟨y0, y1, y2⟩ := boxP_cells HXc.out; dsimp only at y0 y1 y2)
                              | (go_at_call 47; (with_reducible refine (cC _).mono ?_); rintro e w5 ⟨rfl, hb5⟩; have HSn := Lib.hid (HSc.out.step hb5); have HXn := Lib.hid ((hb5.block _ (lt_of_block HXc.out)).trans HXc.out); clear HSc HXc y0 y1 y2 hb5; have HSc := HSn; have HXc := HXn; clear HSn HXn; obtain ⟨y0, y1, y2⟩ := boxP_cells HXc.out; dsimp only at y0 y1 y2)
                              | (go_at_call 37; (with_reducible refine (cP _ HSc).mono ?_); rintro e w6 ⟨rfl, hj6, hk6⟩; have HSf := Lib.hid (HSc.out.joined hj6 hk6); clear hj6 hk6))
                            go_roundw
                            case rel => exact ⟨m + 1, hltm, by go_num, by show GlS _ _ _; rw [HST.out]; exact HSf.out⟩
                            case measure => simp [RowKit.intOf] <;> omega
                  · obtain rfl : m = part.length := by omega
                    have hmi : ¬ (part.length : Int) < (part.length : Int) := by omega
                    go_wp2
                    go_roundw
                    case rel => exact ⟨k + 1, hlt, by go_num, by show GlS _ _ _; rw [HNX.out]; exact HS.out⟩
                    case measure => simp [RowKit.intOf] <;> omega
              · obtain rfl : k = ps.length := by omega
                have hki : ¬ (ps.length : Int) < (ps.length : Int) := by omega
                have hjg := HJG.out ps.length (Nat.le_refl _)
                have hbg := HSM.out ps.length (Nat.le_refl _)
                have hsm2 := hjg.small hbg
                have HO : Hid (gTo ps ps.length = (jgTo ps ps.length).o ++ flush (jgTo ps ps.length).t) := hjg.1
                have hgl0 : (gTo ps ps.length).length ≤ bulk (gTo ps ps.length) := by unfold bulk; omega
                have hgl : (gTo ps ps.length).length ≤ 40000 := by omega
                clear hjg hbg hgl0
                generalize jgTo ps ps.length = st at HS HO hsm2
                generalize gTo ps ps.length = out at HO HGE HGL hgl
                have cD := done_any (w2.heap.size + 1) w2.heap.size st.o st.t wr HS.out.1 (by omega) (by omega) HS.out.2.2
                rw [← HO.out] at cD
                have cL := fun W ao ca => isLong_any out (.slice ao out.length ca) W ⟨ao, ca, rfl⟩
                by_cases hlong : 512 < out.length
                · have hE : glueE ps = 3 := by rw [HGE.out, if_pos hlong]
                  have hL : glueL ps = [] := by rw [HGL.out, if_neg (by rw [hE]; decide)]
                  have HE2 := Lib.hid (And.intro hE hL)
                  rw [decide_eq_true hlong] at cL
                  clear hE hL
                  go_wp2_with (first
                    | (go_at_call 38; (with_reducible refine cD.mono ?_); rintro e w7 ⟨vo, rfl, ho7, hk7⟩; obtain ⟨ao7, ca7, rfl⟩ := ho7.form; have HB7 := Lib.hid (HS.out.2.1.trans (hk7.below (Nat.le_succ _) (Nat.le_refl _))); clear ho7 hk7)
                    | (go_at_call 41; (with_reducible refine (cL _ _ _).mono ?_); rintro e w8 ⟨rfl, rfl⟩))
                  go_ret2
                  exact ⟨⟨.slice none 0 0, by rw [HE2.out.1]; rfl, by rw [HE2.out.2]; exact OwnP.nil _ _⟩, below_next HB2.out HB7.out⟩
                · have hE : glueE ps = 0 := by rw [HGE.out, if_neg hlong]
                  have hL : glueL ps = out := by rw [HGL.out, if_pos hE]
                  have HE2 := Lib.hid (And.intro hE hL)
                  rw [decide_eq_false hlong] at cL
                  clear hE hL
                  go_wp2_with (first
                    | (go_at_call 38; (with_reducible refine cD.mono ?_); rintro e w7 ⟨vo, rfl, ho7, hk7⟩; obtain ⟨ao7, ca7, rfl⟩ := ho7.form; have HO7 := Lib.hid ho7.low; have HB7 := Lib.hid (HS.out.2.1.trans (hk7.below (Nat.le_succ _) (Nat.le_refl _))); clear ho7 hk7)
                    | (go_at_call 41; (with_reducible refine (cL _ _ _).mono ?_); rintro e w8 ⟨rfl, rfl⟩))
                  go_ret2
                  exact ⟨⟨_, by rw [HE2.out.1]; rfl, by rw [HE2.out.2]; exact HO7.out⟩, below_next HB2.out HB7.out⟩
      · go_wp2
        go_loopw [7, 33] (fun _ i wr => ∃ k : Nat, k ≤ ps.length - 1 ∧ i = .int .i64 k ∧ Hid (fitPs ps k = true) ∧ Hid (Below w.heap.size w wr)) (fun _ i _ => ps.length - (RowKit.intOf i).toNat)
        case atStart => exact ⟨0, Nat.zero_le _, rfl, rfl, HB1.out⟩
        case round =>
          obtain ⟨k, hk, rfl, HF, HB⟩ := hrel
          by_cases hlt : k < ps.length - 1
          · obtain ⟨A, q, c, e1, x0, hpa⟩ := HP.out.part HB.out (i := k) (by omega)
            obtain rfl : A0 = A := by simpa using e1
            obtain ⟨A, q2, c2, e2, y0, hpb⟩ := HP.out.part HB.out (i := k + 1) (by omega)
            obtain rfl : A0 = A := by simpa using e2
            have hba := HBK.out k (by omega)
            have hbb := HBK.out (k + 1) (by omega)
            have hla := len_check (HCZ.out k (by omega))
            have hlb := len_check (HCZ.out (k + 1) (by omega))
            have cF := fun W (h1 : Below wr.heap.size wr W) => fit_any2 (ps.getD k []) (ps.getD (k + 1) []) _ _ W (hpa.step h1) (hpb.step h1) (by omega) (by omega)
            have hk0 : (0 : Int) ≤ (k : Int) := by omega
            have hki : (k : Int) < (ps.length : Int) := by omega
            have hk10 : (0 : Int) ≤ (k : Int) + 1 := by omega
            have hk1i : (k : Int) + 1 < (ps.length : Int) := by omega
            have hw1 : IntKind.i64.wrap ((k : Int) + 1) = (k : Int) + 1 := by rw [IntKind.wrap_i64] <;> omega
            have hlti : (k : Int) < (ps.length : Int) - 1 := by omega
            have hltn : (k : Int) < ((ps.length - 1 : Nat) : Int) := by omega
            have hS : fitPs ps (k + 1) = fitB (ps.getD k []) (ps.getD (k + 1) []) := by simp only [fitPs]; rw [HF.out]; rfl
            have HS := Lib.hid hS
            clear hS hpa hpb
            obtain ⟨R, hR⟩ : ∃ R, R = fitB (ps.getD k []) (ps.getD (k + 1) []) := ⟨_, rfl⟩
            rw [← hR] at cF HS
            clear hR hba hbb hla hlb
            generalize ps.getD k [] = pa at x0 cF
            generalize ps.getD (k + 1) [] = pb at y0 cF
            rw [show A0.add (k + 1) = ({ block := A0.block, off := A0.off + (k + 1) } : Addr) by unfold Addr.add; simp] at y0
            have HCF := Lib.hid cF
            clear cF
            cases R
            · have hE : glueE ps = 10 := by
                have h1 := fitPs_stuck (ps := ps) (k := k + 1) HS.out (ps.length - 1 - (k + 1))
                rw [show k + 1 + (ps.length - 1 - (k + 1)) = ps.length - 1 by omega] at h1
                rw [HGE.out, if_pos h1]
              have hL : glueL ps = [] := by rw [HGL.out, if_neg (by rw [hE]; decide)]
              have HE2 := Lib.hid (And.intro hE hL)
              clear hE hL HS
              go_wp2
              go_region_held3 (fun w' => w'.cell? (A0.add k) = some (.slice q pa.length c) ∧ w'.cell? { block := A0.block, off := A0.off + (k + 1) } = some (.slice q2 pb.length c2))
                (first | exact ⟨x0, y0⟩ | (go_keep; done))
                ((go_simp; go_at_call 45; (with_reducible refine (HCF.out _ (Below.refl _ _).drew).mono ?_); rintro e w5 ⟨rfl, hb5⟩; have x1 := (hb5.cell (World.block_lt_of_cell? wr.drew _ x0)).trans x0; have y1 := (hb5.cell (World.block_lt_of_cell? wr.drew _ y0)).trans y0; clear x0 y0; have x0 := x1; have y0 := y1; clear x1 y1))
              rename_i hHeld
              clear hHeld
              go_wp2
              go_ret2
              exact ⟨⟨.slice none 0 0, by rw [HE2.out.1]; rfl, by rw [HE2.out.2]; exact OwnP.nil _ _⟩, below_next HB.out.drew hb5⟩
            · go_wp2
              go_region_held3 (fun w' => w'.cell? (A0.add k) = some (.slice q pa.length c) ∧ w'.cell? { block := A0.block, off := A0.off + (k + 1) } = some (.slice q2 pb.length c2))
                (first | exact ⟨x0, y0⟩ | (go_keep; done))
                ((go_simp; go_at_call 45; (with_reducible refine (HCF.out _ (Below.refl _ _).drew).mono ?_); rintro e w5 ⟨rfl, hb5⟩; have x1 := (hb5.cell (World.block_lt_of_cell? wr.drew _ x0)).trans x0; have y1 := (hb5.cell (World.block_lt_of_cell? wr.drew _ y0)).trans y0; clear x0 y0; have x0 := x1; have y0 := y1; clear x1 y1))
              rename_i hHeld
              clear hHeld
              go_wp2
              go_roundw
              case rel => exact ⟨k + 1, hlt, by go_num, HS.out, below_next HB.out.drew hb5⟩
              case measure => simp [RowKit.intOf] <;> omega
          · obtain rfl : k = ps.length - 1 := by omega
            have hf0 := HF.out
            rw [if_neg (by rw [hf0]; simp)] at HGE
            have hlti : ¬ ((ps.length - 1 : Nat) : Int) < (ps.length : Int) - 1 := by omega
            have HJ0 := Lib.hid (show GlS wr (jgTo ps 0) (wr.alloc (.cells #[.slice none 0 0, .slice none 0 0] 66)) from ⟨JoinAt.begin wr, below_box _, by simp⟩)
            have HB2 := Lib.hid HB.out
            obtain ⟨w2, hw2⟩ : ∃ x, x = wr := ⟨_, rfl⟩
            subst hw2
            clear hf0 HF HB hk hlt
            go_wp2
            have HPW := Lib.hid (HP.out.step HB2.out)
            have HJG := Lib.hid (JG.all HCZ.out)
            have hsmall : ∀ k, k ≤ ps.length → bulk (gTo ps k) ≤ 40000 := fun k hk => Nat.le_trans (gTo_bulk ps k hk) (Nat.le_trans (bulkPs_take_le ps (ps.length - k) k (by omega)) hb)
            have HSM := Lib.hid hsmall
            clear hsmall
            go_loopw [9, 10, 50] (fun _ _ i wr => ∃ k : Nat, k ≤ ps.length ∧ i = .int .i64 k ∧ Hid (GlS w2 (jgTo ps k) wr)) (fun _ _ i _ => ps.length - (RowKit.intOf i).toNat)
            case atStart => exact ⟨0, Nat.zero_le _, rfl, HJ0.out⟩
            case round =>
              obtain ⟨k, hk, rfl, HS⟩ := hrel
              by_cases hlt : k < ps.length
              · obtain ⟨A, q, c, e1, x0, hpk⟩ := HPW.out.part (Below.refl _ _) (i := k) hlt
                obtain rfl : A0 = A := by simpa using e1
                have HX0 := Lib.hid x0
                obtain ⟨q', c', e2, hql, hqc, hrow⟩ := hpk
                obtain ⟨rfl, rfl⟩ : q = q' ∧ c = c' := by simpa using e2
                unfold maxLen at hqc
                have HR := Lib.hid hrow
                have x0 := (HS.out.2.1.cell (World.block_lt_of_cell? w2 _ HX0.out)).trans HX0.out
                have hki : (k : Int) < (ps.length : Int) := by omega
                have hk0 : (0 : Int) ≤ (k : Int) := by omega
                have HNX : Hid (jgTo ps (k + 1) = jPart ps.length k (jgTo ps k) (ps.getD k []) (ps.getD k []).length) := rfl
                have HJP : Hid (∀ m, m ≤ (ps.getD k []).length → JG (gPart ps.length k (gTo ps k) (ps.getD k []) m) (jPart ps.length k (jgTo ps k) (ps.getD k []) m)) := JG.part (fun i hi => fine_of (all_valid (HCZ.out k hlt) i hi)) (HJG.out k hk)
                have HBP : Hid (∀ m, m ≤ (ps.getD k []).length → bulk (gPart ps.length k (gTo ps k) (ps.getD k []) m) ≤ 90000) := fun m hm => by
                  have h1 := gPart_bulk ps.length k (gTo ps k) (ps.getD k []) m hm
                  have h2 := HSM.out k hk
                  have h3 := HBK.out k hlt
                  have h4 := bulk_take (ps.getD k []) m
                  omega
                have HJS := Lib.hid (fun m (hm : m < (ps.getD k []).length) => jPart_succ (n := ps.length) (i := k) (st := jgTo ps k) hm)
                have hbk := HBK.out k hlt
                clear x0 e1 e2 hrow
                have x0 := (HS.out.2.1.cell (World.block_lt_of_cell? w2 _ HX0.out)).trans HX0.out
                generalize ps.getD k [] = part at *
                generalize jgTo ps k = st0 at *
                go_wp2
                obtain ⟨wo, hwo⟩ : ∃ wo, wo = wr := ⟨_, rfl⟩
                subst hwo
                go_loopw [13, 57] (fun _ i wr => ∃ m : Nat, m ≤ part.length ∧ i = .int .i64 m ∧ Hid (GlS w2 (jPart ps.length k st0 part m) wr)) (fun _ i _ => part.length - (RowKit.intOf i).toNat)
                case atStart => exact ⟨0, Nat.zero_le _, rfl, HS.out⟩
                case round =>
                  clear HS x0
                  obtain ⟨m, hm, rfl, HS⟩ := hrel
                  by_cases hltm : m < part.length
                  · obtain ⟨AP, rfl, hAP, hcell⟩ := HR.out (by omega)
                    obtain ⟨x0, x1, x2⟩ := pcs_cells hAP hcell hltm HS.out.2.1
                    have hsx := bulk_getD hltm
                    have hsm2 := (HJP.out m hm).small (HBP.out m hm)
                    have HT2 := Lib.hid (HJS.out m hltm)
                    have hmi : (m : Int) < (part.length : Int) := by omega
                    have hm0 : (0 : Int) ≤ (m : Int) := by omega
                    clear hcell
                    generalize part.getD m nil = x at x0 x1 x2 hsx HT2
                    generalize jPart ps.length k st0 part m = st at HS hsm2 HT2
                    obtain ⟨xk, xs, xc⟩ := x
                    dsimp only at x0 x1 x2 hsx
                    have HSc := Lib.hid (HS.out.step (below_box (.cells #[.int .u8 xk, .string xs, .bool xc] 52)))
                    have HXc := Lib.hid (show (wr.alloc (.cells #[.int .u8 xk, .string xs, .bool xc] 52)).heap[wr.heap.size]? = some (pcC ⟨xk, xs, xc⟩) from heap_alloc_new wr _)
                    obtain ⟨y0, y1, y2⟩ := boxP_cells HXc.out
                    dsimp only at y0 y1 y2
                    have cO := fun W => isCarriedOpen_any ⟨xk, xs, xc⟩ W
                    have cC := fun W => isCarriedClose_any ⟨xk, xs, xc⟩ W
                    have hq1 : st.t.length + xs.size ≤ 100000000 := by omega
                    have hq2 : st.o.length ≤ 1000000 := by omega
                    have cP := fun W (h : Hid (GlS w2 st W)) => putPc_any (w2.heap.size + 1) w2.heap.size st ⟨xk, xs, xc⟩ W h.out.1 hq1 hq2 h.out.2.2
                    unfold pcV at cO cC cP
                    dsimp only at cO cC cP
                    have HIT := Lib.hid (fun (h : innerB ps.length k ⟨xk, xs, xc⟩ = true) => show jPart ps.length k st0 part (m + 1) = st by rw [HT2.out]; unfold jAdd; rw [if_pos h])
                    have HIF := Lib.hid (fun (h : innerB ps.length k ⟨xk, xs, xc⟩ = false) => show jPart ps.length k st0 part (m + 1) = js3 ⟨xk, xs, xc⟩ st by rw [HT2.out]; unfold jAdd; rw [if_neg (by rw [h]; simp)])
                    clear HT2 HS hsm2
                    cases hco : coB ⟨xk, xs, xc⟩
                    · rw [hco] at cO
                      cases hcc : ccB ⟨xk, xs, xc⟩
                      ·
                        rw [hcc] at cC
                        have HST := Lib.hid (HIF.out (innerB_no (.inl hco) (.inl hcc)))
                        clear HIT HIF
                        go_wp2_with (first
                          | (go_at_call 46; (with_reducible refine (cO _).mono ?_); rintro e w5 ⟨rfl, hb5⟩; have HSn := Lib.hid (HSc.out.step hb5); have HXn := Lib.hid ((hb5.block _ (lt_of_block HXc.out)).trans HXc.out); clear HSc HXc y0 y1 y2 hb5; have HSc := HSn; have HXc := HXn; clear HSn HXn; obtain ⟨y0, y1, y2⟩ := boxP_cells HXc.out; dsimp only at y0 y1 y2)
                          | (go_at_call 47; (with_reducible refine (cC _).mono ?_); rintro e w5 ⟨rfl, hb5⟩; have HSn := Lib.hid (HSc.out.step hb5); have HXn := Lib.hid ((hb5.block _ (lt_of_block HXc.out)).trans HXc.out); clear HSc HXc y0 y1 y2 hb5; have HSc := HSn; have HXc := HXn; clear HSn HXn; obtain ⟨y0, y1, y2⟩ := boxP_cells HXc.out; dsimp only at y0 y1 y2)
                          | (go_at_call 37; (with_reducible refine (cP _ HSc).mono ?_); rintro e w6 ⟨rfl, hj6, hk6⟩; have HSf := Lib.hid (HSc.out.joined hj6 hk6); clear hj6 hk6))
                        go_roundw
                        case rel => exact ⟨m + 1, hltm, by go_num, by show GlS _ _ _; rw [HST.out]; exact HSf.out⟩
                        case measure => simp [RowKit.intOf] <;> omega
                      · rw [hcc] at cC
                        by_cases hkl : k + 1 < ps.length
                        ·
                          have hkli : (k : Int) < (ps.length : Int) - 1 := by omega
                          have hkld : decide ((k : Int) < (ps.length : Int) - 1) = true := decide_eq_true hkli
                          have HST := Lib.hid (HIT.out (innerB_cc hcc hkl))
                          clear HIT HIF
                          go_wp2_with (first
                            | (go_at_call 46; (with_reducible refine (cO _).mono ?_); rintro e w5 ⟨rfl, hb5⟩; have HSn := Lib.hid (HSc.out.step hb5); have HXn := Lib.hid ((hb5.block _ (lt_of_block HXc.out)).trans HXc.out); clear HSc HXc y0 y1 y2 hb5; have HSc := HSn; have HXc := HXn; clear HSn HXn; obtain ⟨y0, y1, y2⟩ := boxP_cells HXc.out; dsimp only at y0 y1 y2)
                            | (go_at_call 47; (with_reducible refine (cC _).mono ?_); rintro e w5 ⟨rfl, hb5⟩; have HSn := Lib.hid (HSc.out.step hb5); have HXn := Lib.hid ((hb5.block _ (lt_of_block HXc.out)).trans HXc.out); clear HSc HXc y0 y1 y2 hb5; have HSc := HSn; have HXc := HXn; clear HSn HXn; obtain ⟨y0, y1, y2⟩ := boxP_cells HXc.out; dsimp only at y0 y1 y2))
                          go_roundw
                          case rel => exact ⟨m + 1, hltm, by go_num, by show GlS _ _ _; rw [HST.out]; exact HSc.out⟩
                          case measure => simp [RowKit.intOf] <;> omega
                        ·
                          have hkli : ¬ (k : Int) < (ps.length : Int) - 1 := by omega
                          have hkld : decide ((k : Int) < (ps.length : Int) - 1) = false := decide_eq_false hkli
                          have HST := Lib.hid (HIF.out (innerB_no (.inl hco) (.inr hkl)))
                          clear HIT HIF
                          go_wp2_with (first
                            | (go_at_call 46; (with_reducible refine (cO _).mono ?_); rintro e w5 ⟨rfl, hb5⟩; have HSn := Lib.hid (HSc.out.step hb5); have HXn := Lib.hid ((hb5.block _ (lt_of_block HXc.out)).trans HXc.out); clear HSc HXc y0 y1 y2 hb5; have HSc := HSn; have HXc := HXn; clear HSn HXn; obtain ⟨y0, y1, y2⟩ := boxP_cells HXc.out; dsimp only at y0 y1 y2)
                            | (go_at_call 47; (with_reducible refine (cC _).mono ?_); rintro e w5 ⟨rfl, hb5⟩; have HSn := Lib.hid (HSc.out.step hb5); have HXn := Lib.hid ((hb5.block _ (lt_of_block HXc.out)).trans HXc.out); clear HSc HXc y0 y1 y2 hb5; have HSc := HSn; have HXc := HXn; clear HSn HXn; obtain ⟨y0, y1, y2⟩ := boxP_cells HXc.out; dsimp only at y0 y1 y2)
                            | (go_at_call 37; (with_reducible refine (cP _ HSc).mono ?_); rintro e w6 ⟨rfl, hj6, hk6⟩; have HSf := Lib.hid (HSc.out.joined hj6 hk6); clear hj6 hk6))
                          go_roundw
                          case rel => exact ⟨m + 1, hltm, by go_num, by show GlS _ _ _; rw [HST.out]; exact HSf.out⟩
                          case measure => simp [RowKit.intOf] <;> omega
                    · rw [hco] at cO
                      by_cases hkp : 0 < k
                      ·
                        have hkpi : (0 : Int) < (k : Int) := by omega
                        have hkpd : decide ((0 : Int) < (k : Int)) = true := decide_eq_true hkpi
                        have HST := Lib.hid (HIT.out (innerB_co hco hkp))
                        clear HIT HIF
                        go_wp2_with (first
                          | (go_at_call 46; (with_reducible refine (cO _).mono ?_); rintro e w5 ⟨rfl, hb5⟩; have HSn := Lib.hid (HSc.out.step hb5); have HXn := Lib.hid ((hb5.block _ (lt_of_block HXc.out)).trans HXc.out); clear HSc HXc y0 y1 y2 hb5; have HSc := HSn; have HXc := HXn; clear HSn HXn; obtain ⟨y0, y1, y2⟩ := boxP_cells HXc.out; dsimp only at y0 y1 y2)
                          | (go_at_call 47; (with_reducible refine (cC _).mono ?_); rintro e w5 ⟨rfl, hb5⟩; have HSn := Lib.hid (HSc.out.step hb5); have HXn := Lib.hid ((hb5.block _ (lt_of_block HXc.out)).trans HXc.out); clear HSc HXc y0 y1 y2 hb5; have HSc := HSn; have HXc := HXn; clear HSn HXn; obtain ⟨y0, y1, y2⟩ := boxP_cells HXc.out; dsimp only at y0 y1 y2))
                        go_roundw
                        case rel => exact ⟨m + 1, hltm, by go_num, by show GlS _ _ _; rw [HST.out]; exact HSc.out⟩
                        case measure => simp [RowKit.intOf] <;> omega
                      · have hkpi : ¬ (0 : Int) < (k : Int) := by omega
                        cases hcc : ccB ⟨xk, xs, xc⟩
                        ·
                          rw [hcc] at cC
                          have HST := Lib.hid (HIF.out (innerB_no (.inr hkp) (.inl hcc)))
                          clear HIT HIF
                          go_wp2_with (first
                            | (go_at_call 46; (with_reducible refine (cO _).mono ?_); rintro e w5 ⟨rfl, hb5⟩; have HSn := Lib.hid (HSc.out.step hb5); have HXn := Lib.hid ((hb5.block _ (lt_of_block HXc.out)).trans HXc.out); clear HSc HXc y0 y1 y2 hb5; have HSc := HSn; have HXc := HXn; clear HSn HXn; obtain ⟨y0, y1, y2⟩ := boxP_cells HXc.out; dsimp only at y0 y1 y2)
                            | (go_at_call 47; (with_reducible refine (cC _).mono ?_); rintro e w5 ⟨rfl, hb5⟩; have HSn := Lib.hid (HSc.out.step hb5); have HXn := Lib.hid ((hb5.block _ (lt_of_block HXc.out)).trans HXc.out); clear HSc HXc y0 y1 y2 hb5; have HSc := HSn; have HXc := HXn; clear HSn HXn; obtain ⟨y0, y1, y2⟩ := boxP_cells HXc.out; dsimp only at y0 y1 y2)
                            | (go_at_call 37; (with_reducible refine (cP _ HSc).mono ?_); rintro e w6 ⟨rfl, hj6, hk6⟩; have HSf := Lib.hid (HSc.out.joined hj6 hk6); clear hj6 hk6))
                          go_roundw
                          case rel => exact ⟨m + 1, hltm, by go_num, by show GlS _ _ _; rw [HST.out]; exact HSf.out⟩
                          case measure => simp [RowKit.intOf] <;> omega
                        · rw [hcc] at cC
                          by_cases hkl : k + 1 < ps.length
                          ·
                            have hkli : (k : Int) < (ps.length : Int) - 1 := by omega
                            have hkld : decide ((k : Int) < (ps.length : Int) - 1) = true := decide_eq_true hkli
                            have HST := Lib.hid (HIT.out (innerB_cc hcc hkl))
                            clear HIT HIF
                            go_wp2_with (first
                              | (go_at_call 46; (with_reducible refine (cO _).mono ?_); rintro e w5 ⟨rfl, hb5⟩; have HSn := Lib.hid (HSc.out.step hb5); have HXn := Lib.hid ((hb5.block _ (lt_of_block HXc.out)).trans HXc.out); clear HSc HXc y0 y1 y2 hb5; have HSc := HSn; have HXc := HXn; clear HSn HXn; obtain ⟨y0, y1, y2⟩ := boxP_cells HXc.out; dsimp only at y0 y1 y2)
                              | (go_at_call 47; (with_reducible refine (cC _).mono ?_); rintro e w5 ⟨rfl, hb5⟩; have HSn := Lib.hid (HSc.out.step hb5); have HXn := Lib.hid ((hb5.block _ (lt_of_block HXc.out)).trans HXc.out); clear HSc HXc y0 y1 y2 hb5; have HSc := HSn; have HXc := HXn; clear HSn HXn; obtain ⟨y0, y1, y2⟩ := boxP_cells HXc.out; dsimp only at y0 y1 y2))
                            go_roundw
                            case rel => exact ⟨m + 1, hltm, by go_num, by show GlS _ _ _; rw [HST.out]; exact HSc.out⟩
                            case measure => simp [RowKit.intOf] <;> omega
                          ·
                            have hkli : ¬ (k : Int) < (ps.length : Int) - 1 := by omega
                            have hkld : decide ((k : Int) < (ps.length : Int) - 1) = false := decide_eq_false hkli
                            have HST := Lib.hid (HIF.out (innerB_no (.inr hkp) (.inr hkl)))
                            clear HIT HIF
                            go_wp2_with (first
                              | (go_at_call 46; (with_reducible refine (cO _).mono ?_); rintro e w5 ⟨rfl, hb5⟩; have HSn := Lib.hid (HSc.out.step hb5); have HXn := Lib.hid ((hb5.block _ (lt_of_block HXc.out)).trans HXc.out); clear HSc HXc y0 y1 y2 hb5; have HSc := HSn; have HXc := HXn; clear HSn HXn; obtain ⟨y0, y1, y2⟩ := boxP_cells HXc.out; dsimp only at y0 y1 y2)
                              | (go_at_call 47; (with_reducible refine (cC _).mono ?_); rintro e w5 ⟨rfl, hb5⟩; have HSn := Lib.hid (HSc.out.step hb5); have HXn := Lib.hid ((hb5.block _ (lt_of_block HXc.out)).trans HXc.out); clear HSc HXc y0 y1 y2 hb5; have HSc := HSn; have HXc := HXn; clear HSn HXn; obtain ⟨y0, y1, y2⟩ := boxP_cells HXc.out; dsimp only at y0 y1 y2)
                              | (go_at_call 37; (with_reducible refine (cP _ HSc).mono ?_); rintro e w6 ⟨rfl, hj6, hk6⟩; have HSf := Lib.hid (HSc.out.joined hj6 hk6); clear hj6 hk6))
                            go_roundw
                            case rel => exact ⟨m + 1, hltm, by go_num, by show GlS _ _ _; rw [HST.out]; exact HSf.out⟩
                            case measure => simp [RowKit.intOf] <;> omega
                  · obtain rfl : m = part.length := by omega
                    have hmi : ¬ (part.length : Int) < (part.length : Int) := by omega
                    go_wp2
                    go_roundw
                    case rel => exact ⟨k + 1, hlt, by go_num, by show GlS _ _ _; rw [HNX.out]; exact HS.out⟩
                    case measure => simp [RowKit.intOf] <;> omega
              · obtain rfl : k = ps.length := by omega
                have hki : ¬ (ps.length : Int) < (ps.length : Int) := by omega
                have hjg := HJG.out ps.length (Nat.le_refl _)
                have hbg := HSM.out ps.length (Nat.le_refl _)
                have hsm2 := hjg.small hbg
                have HO : Hid (gTo ps ps.length = (jgTo ps ps.length).o ++ flush (jgTo ps ps.length).t) := hjg.1
                have hgl0 : (gTo ps ps.length).length ≤ bulk (gTo ps ps.length) := by unfold bulk; omega
                have hgl : (gTo ps ps.length).length ≤ 40000 := by omega
                clear hjg hbg hgl0
                generalize jgTo ps ps.length = st at HS HO hsm2
                generalize gTo ps ps.length = out at HO HGE HGL hgl
                have cD := done_any (w2.heap.size + 1) w2.heap.size st.o st.t wr HS.out.1 (by omega) (by omega) HS.out.2.2
                rw [← HO.out] at cD
                have cL := fun W ao ca => isLong_any out (.slice ao out.length ca) W ⟨ao, ca, rfl⟩
                by_cases hlong : 512 < out.length
                · have hE : glueE ps = 3 := by rw [HGE.out, if_pos hlong]
                  have hL : glueL ps = [] := by rw [HGL.out, if_neg (by rw [hE]; decide)]
                  have HE2 := Lib.hid (And.intro hE hL)
                  rw [decide_eq_true hlong] at cL
                  clear hE hL
                  go_wp2_with (first
                    | (go_at_call 38; (with_reducible refine cD.mono ?_); rintro e w7 ⟨vo, rfl, ho7, hk7⟩; obtain ⟨ao7, ca7, rfl⟩ := ho7.form; have HB7 := Lib.hid (HS.out.2.1.trans (hk7.below (Nat.le_succ _) (Nat.le_refl _))); clear ho7 hk7)
                    | (go_at_call 41; (with_reducible refine (cL _ _ _).mono ?_); rintro e w8 ⟨rfl, rfl⟩))
                  go_ret2
                  exact ⟨⟨.slice none 0 0, by rw [HE2.out.1]; rfl, by rw [HE2.out.2]; exact OwnP.nil _ _⟩, below_next HB2.out HB7.out⟩
                · have hE : glueE ps = 0 := by rw [HGE.out, if_neg hlong]
                  have hL : glueL ps = out := by rw [HGL.out, if_pos hE]
                  have HE2 := Lib.hid (And.intro hE hL)
                  rw [decide_eq_false hlong] at cL
                  clear hE hL
                  go_wp2_with (first
                    | (go_at_call 38; (with_reducible refine cD.mono ?_); rintro e w7 ⟨vo, rfl, ho7, hk7⟩; obtain ⟨ao7, ca7, rfl⟩ := ho7.form; have HO7 := Lib.hid ho7.low; have HB7 := Lib.hid (HS.out.2.1.trans (hk7.below (Nat.le_succ _) (Nat.le_refl _))); clear ho7 hk7)
                    | (go_at_call 41; (with_reducible refine (cL _ _ _).mono ?_); rintro e w8 ⟨rfl, rfl⟩))
                  go_ret2
                  exact ⟨⟨_, by rw [HE2.out.1]; rfl, by rw [HE2.out.2]; exact HO7.out⟩, below_next HB2.out HB7.out⟩
end Go.Proofs.YtnkpjkomokkhcaaGreatDoor
