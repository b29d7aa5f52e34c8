/- Break rules as data: units, the items of a pattern, where a rule fits. No run of any program here. What is asked of one unit, by the program's patterns; the tests of a pattern in memory. The tests of a pattern, in memory and called. The test of a border, and any test of a pattern, called. Whether a pattern fits units at a place, by the program; whether a rule does. Whether a rule fits units at a place, by the program. -/
import Derived.Test.YtnkpjkomokkhcaaGreatDoorCuC
import Derived.StillTailTactics
import Derived.Test.YtnkpjkomokkhcaaGreatDoorGlB
namespace Go.Proofs.YtnkpjkomokkhcaaGreatDoor
open Go Go.RowKit Go.Lib
set_option maxRecDepth 100000
/-- a unit: its rune (0 for a hole), and whether it is a hole -/
structure Un where
  r : Nat
  h : Bool
def letR (r : Nat) : Bool := (decide (65 ≤ r) && decide (r ≤ 90)) || ((decide (97 ≤ r) && decide (r ≤ 122)) || decide (127 < r))
def digR (r : Nat) : Bool := decide (48 ≤ r) && decide (r ≤ 57)
def letU (u : Un) : Bool := !u.h && letR u.r
def digU (u : Un) : Bool := !u.h && digR u.r
def mrkU (u : Un) : Bool := !u.h && !decide (u.r = 32) && !letU u && !digU u
def inU (u : Un) : Bool := u.h || letU u || digU u
/-- an item of a pattern -/
structure Ft where
  c : Bool
  r : Nat
def symB (r : Nat) : Bool := decide (r = 97) || decide (r = 117) || decide (r = 108) || decide (r = 100) || decide (r = 115) || decide (r = 112) || decide (r = 104) || decide (r = 46) || decide (r = 37) || decide (r = 98)
/-- the items of a row of runes; none: it is no pattern -/
def ftsL : List Nat → Option (List Ft)
  | [] => some []
  | [r] => if r = 37 then none else some [⟨false, r⟩]
  | r :: s :: l => if r = 37 then (if symB s = true then (ftsL l).map (⟨true, s⟩ :: ·) else none) else (ftsL (s :: l)).map (⟨false, r⟩ :: ·)
def ftIs (x : Ft) : Bool := x.c && decide (x.r = 98)
def oneB (x : Ft) (u : Un) : Bool :=
  if x.c = false then !u.h && decide (u.r = x.r)
  else if x.r = 97 then letU u else if x.r = 117 then !u.h && (decide (65 ≤ u.r) && decide (u.r ≤ 90)) else if x.r = 108 then !u.h && (decide (97 ≤ u.r) && decide (u.r ≤ 122))
  else if x.r = 100 then digU u else if x.r = 115 then !u.h && decide (u.r = 32) else if x.r = 112 then mrkU u else if x.r = 104 then u.h else if x.r = 37 then !u.h && decide (u.r = 37) else true
def nilU : Un := ⟨0, false⟩
def edgeB (L : List Un) (p : Nat) : Bool := decide (p = 0) || decide (p = L.length) || !inU (L.getD (p - 1) nilU) || !inU (L.getD p nilU)
def behB (L : List Un) : Nat → List Ft → Bool
  | _, [] => true
  | p, x :: X => if ftIs x = true then edgeB L p && behB L p X else decide (p < L.length) && oneB x (L.getD p nilU) && behB L (p + 1) X
def ftW (X : List Ft) : Nat := (X.filter fun x => !ftIs x).length
theorem ftW_cons (x : Ft) (X : List Ft) : ftW (x :: X) = (if ftIs x = true then 0 else 1) + ftW X := by
  unfold ftW
  rw [List.filter_cons]
  cases ftIs x
  · simp; omega
  · simp
/-- what takes more units than there are does not fit -/
theorem beh_wide {L : List Un} : ∀ (X : List Ft) (p : Nat), L.length < p + ftW X → p ≤ L.length → behB L p X = false
  | [], p, h, hp => by simp [ftW] at h; omega
  | x :: X, p, h, hp => by
    rw [ftW_cons] at h
    unfold behB
    by_cases hx : ftIs x = true
    · rw [if_pos hx] at h ⊢
      rw [beh_wide X p (by omega) hp]
      simp
    · rw [if_neg hx] at h ⊢
      by_cases hp2 : p < L.length
      · rw [beh_wide X (p + 1) (by omega) (by omega)]
        simp
      · simp [hp2]
/-- a break rule: what is ahead, what is behind, and whether there is a break -/
structure Rl where
  b : ByteArray
  a : ByteArray
  k : Bool
def patOf (s : ByteArray) : Option (List Ft) := ftsL (runesOf s)
/-- the first error of a pattern -/
def patE (s : ByteArray) : Int := if textB s = false then 4 else match patOf s with
  | none => 4
  | some X => if 32 < X.length then 3 else 0
def rlE (x : Rl) : Int := if patE x.b ≠ 0 then patE x.b else patE x.a
def rlsTo (R : List Rl) : Nat → Int
  | 0 => 0
  | k + 1 => if rlsTo R k ≠ 0 then rlsTo R k else rlE (R.getD k ⟨⟨#[]⟩, ⟨#[]⟩, false⟩)
def rlsE (R : List Rl) : Int := if 64 < R.length then 3 else rlsTo R R.length
def items (s : ByteArray) : List Ft := (patOf s).getD []
def rlFits (x : Rl) (L : List Un) (p : Nat) : Bool := decide (ftW (items x.b) ≤ p) && behB L (p - ftW (items x.b)) (items x.b) && behB L p (items x.a)
/-- is there a break at a place? the first rule that fits it says so -/
def rlBreak : List Rl → List Un → Nat → Bool
  | [], _, _ => false
  | x :: R, L, p => if rlFits x L p = true then x.k else rlBreak R L p
def brksL (R : List Rl) (L : List Un) : List Nat := (List.range L.length).filter fun p => decide (0 < p) && rlBreak R L p
/-- the units of a list -/
def unsP (x : Pc) : List Un := if x.k = 5 then [⟨0, true⟩] else if x.k = 1 then (runesOf x.s).map fun r => ⟨r, false⟩ else []
def unsL (l : List Pc) : List Un := l.flatMap unsP
theorem uns_len (l : List Pc) : (unsL l).length = nUnits l := by
  unfold unsL nUnits
  induction l with
  | nil => rfl
  | cons x l ih =>
    rw [List.flatMap_cons, List.length_append, ih, List.map_cons, List.sum_cons]
    congr 1
    unfold unsP unN
    split
    · rfl
    · split
      · simp
      · rfl
def brE (R : List Rl) (l : List Pc) : Int := if rlsE R ≠ 0 then rlsE R else checkE l
def brR (R : List Rl) (l : List Pc) : List Nat := if brE R l = 0 then brksL R (unsL l) else []
end Go.Proofs.YtnkpjkomokkhcaaGreatDoor
namespace Go.Proofs.YtnkpjkomokkhcaaGreatDoor
open Go Go.RowKit Go.Lib
set_option maxRecDepth 100000
def clsR (r : Nat) : Int := if letR r = true then 1 else if digR r = true then 2 else if r = 32 then 3 else if ctl r = true then 0 else 4
def clsU (u : Un) : Int := if u.h = true then 5 else clsR u.r
def okU (u : Un) : Prop := (u.h = true → u.r = 0) ∧ (u.h = false → ctl u.r = false)
def uV (u : Un) : Value := .agg #[.int .u8 (clsU u), .int .i32 (u.r : Int)]
theorem cls_a (u : Un) : (clsU u == 1) = letU u := by
  obtain ⟨r, h⟩ := u
  unfold clsU clsR letU
  cases h
  · cases hl : letR r <;> cases hd : digR r <;> by_cases h32 : r = 32 <;> cases hc : ctl r <;> simp_all
  · simp
theorem dig_let {r : Nat} (h : digR r = true) : letR r = false := by
  unfold digR at h
  unfold letR
  simp only [Bool.and_eq_true, decide_eq_true_eq] at h
  simp
  omega
theorem cls_d (u : Un) : (clsU u == 2) = digU u := by
  obtain ⟨r, h⟩ := u
  unfold clsU clsR digU
  cases h
  · cases hd : digR r
    · cases hl : letR r <;> by_cases h32 : r = 32 <;> cases hc : ctl r <;> simp_all
    · have hl := dig_let hd
      simp_all
  · simp
theorem cls_s (u : Un) : (clsU u == 3) = (!u.h && decide (u.r = 32)) := by
  obtain ⟨r, h⟩ := u
  unfold clsU clsR
  cases h
  · by_cases h32 : r = 32
    · subst h32; decide
    · cases hl : letR r <;> cases hd : digR r <;> cases hc : ctl r <;> simp_all
  · simp
theorem cls_p {u : Un} (hu : okU u) : (clsU u == 4) = mrkU u := by
  obtain ⟨r, h⟩ := u
  unfold clsU clsR mrkU letU digU
  cases h
  · have hc := hu.2 rfl
    dsimp only at hc
    clear hu
    by_cases h32 : r = 32
    · subst h32; decide
    · cases hl : letR r <;> cases hd : digR r <;> simp_all
  · simp
theorem cls_h (u : Un) : (clsU u == 5) = u.h := by
  obtain ⟨r, h⟩ := u
  unfold clsU clsR
  cases h
  · cases hl : letR r <;> cases hd : digR r <;> by_cases h32 : r = 32 <;> cases hc : ctl r <;> simp_all
  · simp
set_option maxHeartbeats 1000000 in
theorem sym1_any (u : Un) (_ : okU u) (w : World) : Calls Tryz.prog 143 #[uV u] w fun e w' => e = .returned (.bool (oneB ⟨true, 97⟩ u)) ∧ Below w.heap.size w w' := by
  have hb : (clsU u == 1) = oneB ⟨true, 97⟩ u := by rw [cls_a u]; unfold oneB; simp
  have HB := Lib.hid hb
  have au := Tryz.isAgg152
  have zu := Tryz.sizeOf152
  unfold uV
  generalize clsU u = z at *
  clear hb
  go_enter Tryz.func143, Tryz.ntmps143
  go_wp2
  go_ret
  exact ⟨ret_bool HB.out, below_box _⟩
set_option maxHeartbeats 1000000 in
theorem sym2_any (u : Un) (hu : okU u) (w : World) : Calls Tryz.prog 144 #[uV u] w fun e w' => e = .returned (.bool (oneB ⟨true, 117⟩ u)) ∧ Below w.heap.size w w' := by
  have hb : (decide (65 ≤ u.r) && decide (u.r ≤ 90)) = oneB ⟨true, 117⟩ u := by
    unfold oneB
    cases hh : u.h
    · simp
    · simp [hu.1 hh]
  have HB := Lib.hid hb
  have au := Tryz.isAgg152
  have zu := Tryz.sizeOf152
  unfold uV
  generalize clsU u = z at *
  obtain ⟨m, hm⟩ : ∃ m, u.r = m := ⟨_, rfl⟩
  rw [hm] at HB ⊢
  clear hb hu hm
  by_cases h1 : (65 : Int) ≤ (m : Int)
  · by_cases h2 : (m : Int) ≤ 90
    · go_enter Tryz.func144, Tryz.ntmps144
      go_wp2
      go_ret
      exact ⟨ret_bool (by rw [← HB.out]; simp; omega), below_box _⟩
    · go_enter Tryz.func144, Tryz.ntmps144
      go_wp2
      go_ret
      exact ⟨ret_bool (by rw [← HB.out]; simp; omega), below_box _⟩
  · go_enter Tryz.func144, Tryz.ntmps144
    go_wp2
    go_ret
    exact ⟨ret_bool (by rw [← HB.out]; simp; omega), below_box _⟩
set_option maxHeartbeats 1000000 in
theorem sym3_any (u : Un) (hu : okU u) (w : World) : Calls Tryz.prog 145 #[uV u] w fun e w' => e = .returned (.bool (oneB ⟨true, 108⟩ u)) ∧ Below w.heap.size w w' := by
  have hb : (decide (97 ≤ u.r) && decide (u.r ≤ 122)) = oneB ⟨true, 108⟩ u := by
    unfold oneB
    cases hh : u.h
    · simp
    · simp [hu.1 hh]
  have HB := Lib.hid hb
  have au := Tryz.isAgg152
  have zu := Tryz.sizeOf152
  unfold uV
  generalize clsU u = z at *
  obtain ⟨m, hm⟩ : ∃ m, u.r = m := ⟨_, rfl⟩
  rw [hm] at HB ⊢
  clear hb hu hm
  by_cases h1 : (97 : Int) ≤ (m : Int)
  · by_cases h2 : (m : Int) ≤ 122
    · go_enter Tryz.func145, Tryz.ntmps145
      go_wp2
      go_ret
      exact ⟨ret_bool (by rw [← HB.out]; simp; omega), below_box _⟩
    · go_enter Tryz.func145, Tryz.ntmps145
      go_wp2
      go_ret
      exact ⟨ret_bool (by rw [← HB.out]; simp; omega), below_box _⟩
  · go_enter Tryz.func145, Tryz.ntmps145
    go_wp2
    go_ret
    exact ⟨ret_bool (by rw [← HB.out]; simp; omega), below_box _⟩
set_option maxHeartbeats 1000000 in
theorem sym4_any (u : Un) (_ : okU u) (w : World) : Calls Tryz.prog 146 #[uV u] w fun e w' => e = .returned (.bool (oneB ⟨true, 100⟩ u)) ∧ Below w.heap.size w w' := by
  have hb : (clsU u == 2) = oneB ⟨true, 100⟩ u := by rw [cls_d u]; unfold oneB; simp
  have HB := Lib.hid hb
  have au := Tryz.isAgg152
  have zu := Tryz.sizeOf152
  unfold uV
  generalize clsU u = z at *
  clear hb
  go_enter Tryz.func146, Tryz.ntmps146
  go_wp2
  go_ret
  exact ⟨ret_bool HB.out, below_box _⟩
set_option maxHeartbeats 1000000 in
theorem sym5_any (u : Un) (_ : okU u) (w : World) : Calls Tryz.prog 147 #[uV u] w fun e w' => e = .returned (.bool (oneB ⟨true, 115⟩ u)) ∧ Below w.heap.size w w' := by
  have hb : (clsU u == 3) = oneB ⟨true, 115⟩ u := by rw [cls_s u]; unfold oneB; simp
  have HB := Lib.hid hb
  have au := Tryz.isAgg152
  have zu := Tryz.sizeOf152
  unfold uV
  generalize clsU u = z at *
  clear hb
  go_enter Tryz.func147, Tryz.ntmps147
  go_wp2
  go_ret
  exact ⟨ret_bool HB.out, below_box _⟩
set_option maxHeartbeats 1000000 in
theorem sym6_any (u : Un) (hu : okU u) (w : World) : Calls Tryz.prog 148 #[uV u] w fun e w' => e = .returned (.bool (oneB ⟨true, 112⟩ u)) ∧ Below w.heap.size w w' := by
  have hb : (clsU u == 4) = oneB ⟨true, 112⟩ u := by rw [cls_p hu]; unfold oneB; simp
  have HB := Lib.hid hb
  have au := Tryz.isAgg152
  have zu := Tryz.sizeOf152
  unfold uV
  generalize clsU u = z at *
  clear hb
  go_enter Tryz.func148, Tryz.ntmps148
  go_wp2
  go_ret
  exact ⟨ret_bool HB.out, below_box _⟩
set_option maxHeartbeats 1000000 in
theorem sym7_any (u : Un) (_ : okU u) (w : World) : Calls Tryz.prog 149 #[uV u] w fun e w' => e = .returned (.bool (oneB ⟨true, 104⟩ u)) ∧ Below w.heap.size w w' := by
  have hb : (clsU u == 5) = oneB ⟨true, 104⟩ u := by rw [cls_h u]; unfold oneB; simp
  have HB := Lib.hid hb
  have au := Tryz.isAgg152
  have zu := Tryz.sizeOf152
  unfold uV
  generalize clsU u = z at *
  clear hb
  go_enter Tryz.func149, Tryz.ntmps149
  go_wp2
  go_ret
  exact ⟨ret_bool HB.out, below_box _⟩
set_option maxHeartbeats 1000000 in
theorem sym8_any (u : Un) (w : World) : Calls Tryz.prog 150 #[uV u] w fun e w' => e = .returned (.bool (oneB ⟨true, 46⟩ u)) ∧ Below w.heap.size w w' := by
  have HB := Lib.hid (show true = oneB ⟨true, 46⟩ u by unfold oneB; simp)
  have au := Tryz.isAgg152
  have zu := Tryz.sizeOf152
  unfold uV
  generalize clsU u = z at *
  go_enter Tryz.func150, Tryz.ntmps150
  go_wp2
  go_ret
  exact ⟨ret_bool HB.out, below_box _⟩
/-- a rune by itself, wherever its box lies -/
theorem same1_any (x : Ft) (b : Nat) (u : Un) (hu : okU u) (hx : x.c = false ∨ x.r = 37) (h0 : x.r ≠ 0) (w : World) (hb : w.heap[b]? = some (.cells #[.int .i32 (x.r : Int)] 21 (0, 0))) :
    Calls Tryz.prog 142 #[uV u, .pointer (some ⟨b, 0, none⟩)] w fun e w' => e = .returned (.bool (oneB x u)) ∧ Below w.heap.size w w' := by
  have hq : ((u.r : Int) == (x.r : Int)) = oneB x u := by
    have e : ((u.r : Int) == (x.r : Int)) = decide (u.r = x.r) := by
      by_cases h : u.r = x.r
      · simp [h]
      · have : ¬ (u.r : Int) = (x.r : Int) := by omega
        simp [h, this]
    rw [e]
    unfold oneB
    rcases hx with hx | hx
    · cases hh : u.h
      · simp [hx]
      · have := hu.1 hh
        simp [hx, this]
        omega
    · cases hc : x.c
      · cases hh : u.h
        · simp
        · have := hu.1 hh
          simp [this]
          omega
      · cases hh : u.h
        · simp [hx]
        · have := hu.1 hh
          simp [hx, this]
  have HQ := Lib.hid hq
  have au := Tryz.isAgg152
  have zu := Tryz.sizeOf152
  have cb : w.cell? ⟨b, 0, none⟩ = some (.int .i32 (x.r : Int)) := (Lib.cell_of_heap hb 0).trans rfl
  have hbl := lt_of_block hb
  unfold uV
  generalize clsU u = z at *
  generalize (x.r : Int) = y at *
  generalize (u.r : Int) = m at *
  clear hq hb hu hx
  go_enter Tryz.func142, Tryz.ntmps142
  go_wp2
  go_ret
  exact ⟨ret_bool HQ.out, below_box _⟩
set_option maxHeartbeats 2000000 in
theorem inWord_any (u : Un) (w : World) : Calls Tryz.prog 162 #[uV u] w fun e w' => e = .returned (.bool (inU u)) ∧ Below w.heap.size w w' := by
  have h1 := cls_a u
  have h2 := cls_d u
  have h5 := cls_h u
  have HI := Lib.hid (show ((clsU u == 1) || ((clsU u == 2) || (clsU u == 5))) = inU u by rw [h1, h2, h5]; unfold inU; cases u.h <;> simp)
  have au := Tryz.isAgg152
  have zu := Tryz.sizeOf152
  unfold uV
  clear h1 h2 h5
  generalize clsU u = z at *
  by_cases e1 : z = 1 <;> by_cases e2 : z = 2 <;> by_cases e5 : z = 5
  all_goals first
  | (exfalso; omega)
  | (go_enter Tryz.func162, Tryz.ntmps162
     go_wp2
     go_ret
     exact ⟨ret_bool (by rw [← HI.out]; first | (rw [e1]; decide) | (rw [e2]; decide) | (rw [e5]; decide) | exact Bool.or_assoc _ _ _), below_box _⟩)
end Go.Proofs.YtnkpjkomokkhcaaGreatDoor
namespace Go.Proofs.YtnkpjkomokkhcaaGreatDoor
open Go Go.RowKit Go.Lib
set_option maxRecDepth 100000
theorem below_of_drew {w w' : World} (h : Below w.drew.heap.size w.drew w') : Below w.heap.size w w' := ⟨h.os, h.tape, h.output, h.size, h.block⟩
def uF (L : List Un) (i j : Nat) : Value := if j = 0 then .int .u8 (clsU (L.getD i nilU)) else .int .i32 ((L.getD i nilU).r : Int)
/-- a list of units lies in memory -/
def UnsAt (w : World) (v : Value) (L : List Un) : Prop := SliceAt w.heap.size w v L.length 2 (uF L)
theorem UnsAt.step {w w' : World} {v : Value} {L : List Un} (hb : Below w.heap.size w w') (h : UnsAt w v L) : UnsAt w' v L := (SliceAt.below hb h).mono hb.size
theorem UnsAt.get {w : World} {p : Option Addr} {n cap : Nat} {L : List Un} (h : UnsAt w (.slice p n cap) L) {i : Nat} (hi : i < L.length) : ∃ A, p = some A ∧ A.block < w.heap.size ∧ w.cell? (A.add (i * 2)) = some (.int .u8 (clsU (L.getD i nilU))) ∧ w.cell? { block := (A.add (i * 2)).block, off := (A.add (i * 2)).off + 1 } = some (.int .i32 ((L.getD i nilU).r : Int)) := by
  obtain ⟨p', cap', e, _, _, h3⟩ := h
  injection e with e1 e2 e3
  subst e1
  obtain ⟨A, rfl, hA, hc⟩ := h3 (by omega)
  exact ⟨A, rfl, hA, hc i 0 hi (by omega), cell_off (by omega) (hc i 1 hi (by omega))⟩
theorem UnsAt.form {w : World} {v : Value} {L : List Un} (h : UnsAt w v L) : ∃ p cap, v = .slice p L.length cap ∧ L.length ≤ cap ∧ cap ≤ maxLen := by
  obtain ⟨p, cap, e, h1, h2, _⟩ := h
  exact ⟨p, cap, e, h1, h2⟩
def symF (r : Nat) : Nat := if r = 97 then 143 else if r = 117 then 144 else if r = 108 then 145 else if r = 100 then 146 else if r = 115 then 147 else if r = 112 then 148 else if r = 104 then 149 else 150
def AskAt (w : World) (ask : Value) (x : Ft) : Prop :=
  ((x.c = false ∨ x.r = 37) ∧ ∃ b, ask = .func (.func 142) #[] #[.pointer (some ⟨b, 0, none⟩)] ∧ w.heap[b]? = some (.cells #[.int .i32 (x.r : Int)] 21 (0, 0))) ∨
  (x.c = true ∧ (x.r = 97 ∨ x.r = 117 ∨ x.r = 108 ∨ x.r = 100 ∨ x.r = 115 ∨ x.r = 112 ∨ x.r = 104 ∨ x.r = 46) ∧ ask = .func (.func (symF x.r)) #[] #[])
def TestAt (w : World) (v : Value) (x : Ft) : Prop :=
  (ftIs x = true ∧ v = .func (.func 151) #[] #[]) ∨
  (ftIs x = false ∧ ∃ b ask, v = .func (.func 161) #[] #[.pointer (some ⟨b, 0, none⟩)] ∧ w.heap[b]? = some (.cells #[ask] 210 (0, 0)) ∧ AskAt w ask x)
theorem AskAt.keeps {C : Obj → Prop} {w w' : World} {ask : Value} {x : Ft} (h : AskAt w ask x) (hk : Keeps C w w') (hC : ∀ cs, C (.cells cs 21 (0, 0))) : AskAt w' ask x := by
  rcases h with ⟨h1, b, h2, h3⟩ | h
  · exact .inl ⟨h1, b, h2, hk.same _ _ h3 (hC _)⟩
  · exact .inr h
theorem TestAt.keeps {C : Obj → Prop} {w w' : World} {v : Value} {x : Ft} (h : TestAt w v x) (hk : Keeps C w w') (hC : ∀ cs, C (.cells cs 21 (0, 0))) (hC2 : ∀ cs, C (.cells cs 210 (0, 0))) : TestAt w' v x := by
  rcases h with h | ⟨h1, b, ask, h2, h3, h4⟩
  · exact .inl h
  · exact .inr ⟨h1, b, ask, h2, hk.same _ _ h3 (hC2 _), h4.keeps hk hC⟩
theorem TestAt.step {w w' : World} {v : Value} {x : Ft} (h : TestAt w v x) (hb : Below w.heap.size w w') : TestAt w' v x :=
  h.keeps (Keeps.below (C := fun _ => True) hb) (fun _ => trivial) fun _ => trivial
set_option maxHeartbeats 8000000 in
theorem one1_any (x : Ft) (b : Nat) (ask : Value) (L : List Un) (v : Value) (p : Nat) (w : World) (hU : UnsAt w v L) (hp : p < L.length) (hok : okU (L.getD p nilU)) (hx : x.r ≠ 0) (hb : w.heap[b]? = some (.cells #[ask] 210 (0, 0))) (ha : AskAt w ask x) :
    Calls Tryz.prog 161 #[v, .int .i64 (p : Int), .pointer (some ⟨b, 0, none⟩)] w fun e w' => e = .returned (.tuple #[.int .i64 1, .bool (oneB x (L.getD p nilU))]) ∧ Below w.heap.size w w' := by
  obtain ⟨q, cap, rfl, hl, hc⟩ := hU.form
  unfold maxLen at hc
  obtain ⟨A, rfl, _, x0, x1⟩ := hU.get hp
  have au := Tryz.isAgg152
  have zu := Tryz.sizeOf152
  have hpI : (p : Int) < (L.length : Int) := by omega
  have hp0 : (0 : Int) ≤ (p : Int) := by omega
  have cb : w.cell? ⟨b, 0, none⟩ = some ask := (Lib.cell_of_heap hb 0).trans rfl
  clear hU hb
  generalize L.getD p nilU = u at *
  rcases ha with ⟨h1, b2, rfl, h2⟩ | ⟨h1, h2, rfl⟩
  · have cS := same1_any x b2 u hok h1 hx w.drew h2
    unfold uV at cS
    generalize oneB x u = z at *
    go_enter Tryz.func161, Tryz.ntmps161
    go_wp2
    go_still_tail 5, (by kernel_rfl)
    go_wp2_with (go_at_call 142; (with_reducible refine cS.mono ?_); rintro e w3 ⟨rfl, hb3⟩; have HB3 := Lib.hid hb3; clear hb3)
    go_ret2
    exact ⟨rfl, below_of_drew HB3.out⟩
  · obtain ⟨c, r⟩ := x
    dsimp only at h1 h2 hx cb
    subst h1
    rcases h2 with rfl | rfl | rfl | rfl | rfl | rfl | rfl | rfl
    · rw [show symF 97 = 143 from rfl] at cb
      have cS := sym1_any u hok w.drew
      unfold uV at cS
      generalize oneB ⟨true, 97⟩ u = z at *
      go_enter Tryz.func161, Tryz.ntmps161
      go_wp2
      go_still_tail 5, (by kernel_rfl)
      go_wp2_with (go_at_call 143; (with_reducible refine cS.mono ?_); rintro e w3 ⟨rfl, hb3⟩; have HB3 := Lib.hid hb3; clear hb3)
      go_ret2
      exact ⟨rfl, below_of_drew HB3.out⟩
    · rw [show symF 117 = 144 from rfl] at cb
      have cS := sym2_any u hok w.drew
      unfold uV at cS
      generalize oneB ⟨true, 117⟩ u = z at *
      go_enter Tryz.func161, Tryz.ntmps161
      go_wp2
      go_still_tail 5, (by kernel_rfl)
      go_wp2_with (go_at_call 144; (with_reducible refine cS.mono ?_); rintro e w3 ⟨rfl, hb3⟩; have HB3 := Lib.hid hb3; clear hb3)
      go_ret2
      exact ⟨rfl, below_of_drew HB3.out⟩
    · rw [show symF 108 = 145 from rfl] at cb
      have cS := sym3_any u hok w.drew
      unfold uV at cS
      generalize oneB ⟨true, 108⟩ u = z at *
      go_enter Tryz.func161, Tryz.ntmps161
      go_wp2
      go_still_tail 5, (by kernel_rfl)
      go_wp2_with (go_at_call 145; (with_reducible refine cS.mono ?_); rintro e w3 ⟨rfl, hb3⟩; have HB3 := Lib.hid hb3; clear hb3)
      go_ret2
      exact ⟨rfl, below_of_drew HB3.out⟩
    · rw [show symF 100 = 146 from rfl] at cb
      have cS := sym4_any u hok w.drew
      unfold uV at cS
      generalize oneB ⟨true, 100⟩ u = z at *
      go_enter Tryz.func161, Tryz.ntmps161
      go_wp2
      go_still_tail 5, (by kernel_rfl)
      go_wp2_with (go_at_call 146; (with_reducible refine cS.mono ?_); rintro e w3 ⟨rfl, hb3⟩; have HB3 := Lib.hid hb3; clear hb3)
      go_ret2
      exact ⟨rfl, below_of_drew HB3.out⟩
    · rw [show symF 115 = 147 from rfl] at cb
      have cS := sym5_any u hok w.drew
      unfold uV at cS
      generalize oneB ⟨true, 115⟩ u = z at *
      go_enter Tryz.func161, Tryz.ntmps161
      go_wp2
      go_still_tail 5, (by kernel_rfl)
      go_wp2_with (go_at_call 147; (with_reducible refine cS.mono ?_); rintro e w3 ⟨rfl, hb3⟩; have HB3 := Lib.hid hb3; clear hb3)
      go_ret2
      exact ⟨rfl, below_of_drew HB3.out⟩
    · rw [show symF 112 = 148 from rfl] at cb
      have cS := sym6_any u hok w.drew
      unfold uV at cS
      generalize oneB ⟨true, 112⟩ u = z at *
      go_enter Tryz.func161, Tryz.ntmps161
      go_wp2
      go_still_tail 5, (by kernel_rfl)
      go_wp2_with (go_at_call 148; (with_reducible refine cS.mono ?_); rintro e w3 ⟨rfl, hb3⟩; have HB3 := Lib.hid hb3; clear hb3)
      go_ret2
      exact ⟨rfl, below_of_drew HB3.out⟩
    · rw [show symF 104 = 149 from rfl] at cb
      have cS := sym7_any u hok w.drew
      unfold uV at cS
      generalize oneB ⟨true, 104⟩ u = z at *
      go_enter Tryz.func161, Tryz.ntmps161
      go_wp2
      go_still_tail 5, (by kernel_rfl)
      go_wp2_with (go_at_call 149; (with_reducible refine cS.mono ?_); rintro e w3 ⟨rfl, hb3⟩; have HB3 := Lib.hid hb3; clear hb3)
      go_ret2
      exact ⟨rfl, below_of_drew HB3.out⟩
    · rw [show symF 46 = 150 from rfl] at cb
      have cS := sym8_any u w.drew
      unfold uV at cS
      generalize oneB ⟨true, 46⟩ u = z at *
      go_enter Tryz.func161, Tryz.ntmps161
      go_wp2
      go_still_tail 5, (by kernel_rfl)
      go_wp2_with (go_at_call 150; (with_reducible refine cS.mono ?_); rintro e w3 ⟨rfl, hb3⟩; have HB3 := Lib.hid hb3; clear hb3)
      go_ret2
      exact ⟨rfl, below_of_drew HB3.out⟩
end Go.Proofs.YtnkpjkomokkhcaaGreatDoor
namespace Go.Proofs.YtnkpjkomokkhcaaGreatDoor
open Go Go.RowKit Go.Lib
set_option maxRecDepth 100000
set_option maxHeartbeats 8000000 in
theorem border_any (L : List Un) (v : Value) (p : Nat) (w : World) (hU : UnsAt w v L) (hp : p ≤ L.length) (hm : L.length ≤ 1000000) :
    Calls Tryz.prog 151 #[v, .int .i64 (p : Int)] w fun e w' => e = .returned (.tuple #[.int .i64 0, .bool (edgeB L p)]) ∧ Below w.heap.size w w' := by
  obtain ⟨q, cap, rfl, hl, hc⟩ := hU.form
  unfold maxLen at hc
  have au := Tryz.isAgg152
  have zu := Tryz.sizeOf152
  by_cases h0 : 0 < p
  · have h0I : (0 : Int) < (p : Int) := by omega
    by_cases h1 : p < L.length
    · have h1I : (p : Int) < (L.length : Int) := by omega
      obtain ⟨A, rfl, hA, x0, x1⟩ := hU.get h1
      obtain ⟨A', e, _, y0, y1⟩ := hU.get (show p - 1 < L.length by omega)
      injection e with e
      subst e
      have HE := Lib.hid (show edgeB L p = !(inU (L.getD (p - 1) nilU) && inU (L.getD p nilU)) by
        unfold edgeB
        rw [show decide (p = 0) = false by simp; omega, show decide (p = L.length) = false by simp; omega]
        cases inU (L.getD (p - 1) nilU) <;> simp)
      have hwr : IntKind.i64.wrap ((p : Int) - 1) = ((p - 1 : Nat) : Int) := by rw [IntKind.wrap_i64]; omega
      have hq0 : (0 : Int) ≤ ((p - 1 : Nat) : Int) := by omega
      have hq1 : ((p - 1 : Nat) : Int) < (L.length : Int) := by omega
      have hp0 : (0 : Int) ≤ (p : Int) := by omega
      have hAb : (A.add (p * 2)).block < w.heap.size := by rw [add_block]; exact hA
      have cW1 := inWord_any (L.getD (p - 1) nilU) w
      have cW2 := fun w' => inWord_any (L.getD p nilU) w'
      generalize hd : p - 1 = d at *
      unfold uV at cW1 cW2
      clear hU
      generalize L.getD p nilU = u at *
      generalize L.getD d nilU = u' at *
      generalize inU u = z at *
      generalize edgeB L p = E at HE ⊢
      cases hz' : inU u'
      · rw [hz'] at cW1 HE
        go_enter Tryz.func151, Tryz.ntmps151
        go_wp2_with (go_at_call 162; (with_reducible refine cW1.mono ?_); rintro e w2 ⟨rfl, hb2⟩; have HB2 := Lib.hid hb2; clear hb2)
        go_ret2
        exact ⟨by rw [HE.out]; rfl, HB2.out⟩
      · rw [hz'] at cW1 HE
        go_enter Tryz.func151, Tryz.ntmps151
        go_wp2_with (first
          | (go_at_call 162; (with_reducible refine cW1.mono ?_); rintro e w2 ⟨rfl, hb2⟩; have HB2 := Lib.hid hb2; have x4 := (hb2.cell (p := A.add (p * 2)) hAb).trans x0; have x5 := (hb2.cell (p := { block := (A.add (p * 2)).block, off := (A.add (p * 2)).off + 1 }) hAb).trans x1; clear hb2)
          | (go_at_call 162; (with_reducible refine (cW2 _).mono ?_); rintro e w3 ⟨rfl, hb3⟩; have HB3 := Lib.hid (below_next HB2.out hb3); clear hb3))
        go_ret2
        exact ⟨by rw [HE.out]; rfl, HB3.out⟩
    · have h1I : ¬ (p : Int) < (L.length : Int) := by omega
      have HE := Lib.hid (show edgeB L p = true by unfold edgeB; simp; omega)
      clear hU
      go_enter Tryz.func151, Tryz.ntmps151
      go_wp2
      go_ret2
      exact ⟨by rw [HE.out]; rfl, Below.refl _ _⟩
  · have h0I : ¬ (0 : Int) < (p : Int) := by omega
    have HE := Lib.hid (show edgeB L p = true by unfold edgeB; simp; omega)
    clear hU
    go_enter Tryz.func151, Tryz.ntmps151
    go_wp2
    go_ret2
    exact ⟨by rw [HE.out]; rfl, Below.refl _ _⟩
end Go.Proofs.YtnkpjkomokkhcaaGreatDoor
namespace Go.Proofs.YtnkpjkomokkhcaaGreatDoor
open Go Go.RowKit Go.Lib
set_option maxRecDepth 100000
def nilF : Ft := ⟨false, 0⟩
/-- the tests of a pattern lie in memory -/
def TestsAt (w : World) (v : Value) (X : List Ft) : Prop := ∃ us : List Value, us.length = X.length ∧ SliceAt w.heap.size w v X.length 1 (ptF us) ∧ ∀ i, i < X.length → TestAt w (us.getD i nilV1) (X.getD i nilF)
theorem TestsAt.step {w w' : World} {v : Value} {X : List Ft} (hb : Below w.heap.size w w') (h : TestsAt w v X) : TestsAt w' v X := by
  obtain ⟨us, h1, h2, h3⟩ := h
  exact ⟨us, h1, (SliceAt.below hb h2).mono hb.size, fun i hi => (h3 i hi).step hb⟩
theorem TestsAt.form {w : World} {v : Value} {X : List Ft} (h : TestsAt w v X) : ∃ p cap, v = .slice p X.length cap ∧ X.length ≤ cap ∧ cap ≤ maxLen := by
  obtain ⟨_, _, ⟨p, cap, e, h1, h2, _⟩, _⟩ := h
  exact ⟨p, cap, e, h1, h2⟩
theorem TestsAt.get {w : World} {p : Option Addr} {n cap : Nat} {X : List Ft} (h : TestsAt w (.slice p n cap) X) {i : Nat} (hi : i < X.length) : ∃ A t, p = some A ∧ w.cell? (A.add i) = some t ∧ TestAt w t (X.getD i nilF) := by
  obtain ⟨us, _, ⟨p', cap', e, _, _, h3⟩, h4⟩ := h
  injection e with e1 e2 e3
  subst e1
  obtain ⟨A, rfl, _, hc⟩ := h3 (by omega)
  have := hc i 0 hi (by omega)
  rw [show i * 1 + 0 = i by omega] at this
  exact ⟨A, _, rfl, this, h4 i hi⟩
def fitsB (L : List Un) (p : Int) (X : List Ft) : Bool := decide (0 ≤ p) && decide (p + (ftW X : Nat) ≤ (L.length : Int)) && behB L p.toNat X
theorem beh_drop {L : List Un} {X : List Ft} {k q : Nat} (h : k < X.length) : behB L q (X.drop k) = (if ftIs (X.getD k nilF) = true then edgeB L q && behB L q (X.drop (k + 1)) else decide (q < L.length) && oneB (X.getD k nilF) (L.getD q nilU) && behB L (q + 1) (X.drop (k + 1))) := by
  rw [List.drop_eq_getElem_cons h, List.getD_eq_getElem?_getD, List.getElem?_eq_getElem h]
  rfl
theorem ftW_drop {X : List Ft} {k : Nat} (h : k < X.length) : ftW (X.drop k) = (if ftIs (X.getD k nilF) = true then 0 else 1) + ftW (X.drop (k + 1)) := by
  rw [List.drop_eq_getElem_cons h, ftW_cons, List.getD_eq_getElem?_getD, List.getElem?_eq_getElem h]
  rfl
theorem ftW_le (X : List Ft) : ftW X ≤ X.length := List.length_filter_le _ _
set_option maxHeartbeats 16000000 in
theorem patFits_any (X : List Ft) (L : List Un) (v vt : Value) (p : Int) (w : World) (hU : UnsAt w v L) (hX : TestsAt w vt X) (hok : ∀ u ∈ L, okU u) (hx : ∀ x ∈ X, x.r ≠ 0) (hm : L.length ≤ 100000) (hXl : X.length ≤ 100000) (hp1 : -100000 ≤ p) (hp2 : p ≤ 100000) :
    Calls Tryz.prog 89 #[.agg #[vt, .int .i64 (ftW X : Nat)], v, .int .i64 p] w fun e w' => e = .returned (.bool (fitsB L p X)) ∧ Below w.heap.size w w' := by
  have HU := Lib.hid hU
  have HX := Lib.hid hX
  obtain ⟨q, cap, rfl, hl, hc⟩ := hU.form
  obtain ⟨q2, cap2, rfl, hl2, hc2⟩ := hX.form
  unfold maxLen at hc hc2
  have hw := ftW_le X
  have ap := Tryz.isAgg110
  have zp := Tryz.sizeOf110
  have hwr : IntKind.i64.wrap (p + (ftW X : Nat)) = p + (ftW X : Nat) := by rw [IntKind.wrap_i64]; omega
  clear hU hX
  obtain ⟨W, hW⟩ : ∃ W, ftW X = W := ⟨_, rfl⟩
  by_cases h0 : p < 0
  · have HE := Lib.hid (show fitsB L p X = false by unfold fitsB; simp; omega)
    rw [hW]
    go_enter Tryz.func89, Tryz.ntmps89
    go_wp2
    go_ret
    exact ⟨ret_bool HE.out.symm, below_box _⟩
  · by_cases h1 : (L.length : Int) < p + (ftW X : Nat)
    · have HE := Lib.hid (show fitsB L p X = false by unfold fitsB; simp; omega)
      rw [hW] at h1 hwr ⊢
      go_enter Tryz.func89, Tryz.ntmps89
      go_wp2
      go_ret
      exact ⟨ret_bool HE.out.symm, below_box _⟩
    · obtain ⟨n, rfl⟩ : ∃ n : Nat, p = (n : Int) := ⟨p.toNat, by omega⟩
      have hnW : n + ftW X ≤ L.length := by omega
      have HE := Lib.hid (show fitsB L (n : Int) X = behB L n X by
        unfold fitsB
        rw [show decide (0 ≤ (n : Int)) = true by simp, show decide ((n : Int) + (ftW X : Nat) ≤ (L.length : Int)) = true by simp; omega]
        simp)
      have HB0 := Lib.hid (below_box (w := w) (.cells #[.slice q2 X.length cap2, .int .i64 (ftW X : Nat)] 110))
      have HOK := Lib.hid hok
      have HNZ := Lib.hid hx
      rw [hW] at h1 hwr HB0 ⊢
      clear hok hx
      go_enter Tryz.func89, Tryz.ntmps89
      go_wp2
      go_loopw [2, 25] (fun v2 v25 wr => ∃ k m : Nat, v25 = .int .i64 k ∧ v2 = .int .i64 m ∧ k ≤ X.length ∧ m + ftW (X.drop k) ≤ L.length ∧ Hid (behB L n X = behB L m (X.drop k)) ∧ Hid (Below w.heap.size w wr)) (fun _ v25 _ => X.length - (RowKit.intOf v25).toNat)
      case atStart => exact ⟨0, n, rfl, rfl, Nat.zero_le _, hnW, rfl, HB0.out⟩
      case round =>
        obtain ⟨k, m, rfl, rfl, hk, hmW, HBE, HB⟩ := hrel
        by_cases hlt : k < X.length
        · have hki : (k : Int) < (X.length : Int) := by omega
          have hk0 : (0 : Int) ≤ (k : Int) := by omega
          obtain ⟨A, t, rfl, xt, htest⟩ := (HX.out.step HB.out).get hlt
          have hxr := HNZ.out (X.getD k nilF) (by rw [List.getD_eq_getElem?_getD, List.getElem?_eq_getElem hlt]; exact List.getElem_mem hlt)
          have hbd := beh_drop (L := L) (q := m) hlt
          have hwd := ftW_drop hlt
          have HUr := Lib.hid (HU.out.step HB.out)
          generalize X.getD k nilF = x at *
          rcases htest with ⟨hi, rfl⟩ | ⟨hi, b, ask, rfl, hb, ha⟩
          · rw [if_pos hi] at hbd hwd
            have cB := border_any L _ m wr HUr.out (by omega) (by omega)
            have hq : IntKind.i64.wrap ((m : Int) + 0) = (m : Int) := by rw [IntKind.wrap_i64]; omega
            cases hz : edgeB L m
            · rw [hz] at cB hbd
              have HE2 := Lib.hid (show fitsB L (n : Int) X = false by rw [HE.out, HBE.out, hbd]; rfl)
              go_wp2_with (go_at_call 151; (with_reducible refine cB.mono ?_); rintro e w3 ⟨rfl, hb3⟩; have HB3 := Lib.hid (below_next HB.out hb3); clear hb3)
              go_ret
              exact ⟨ret_bool HE2.out.symm, HB3.out⟩
            · rw [hz] at cB hbd
              have HBE2 := Lib.hid (show behB L n X = behB L m (X.drop (k + 1)) by rw [HBE.out, hbd]; rfl)
              go_wp2_with (go_at_call 151; (with_reducible refine cB.mono ?_); rintro e w3 ⟨rfl, hb3⟩; have HB3 := Lib.hid (below_next HB.out hb3); clear hb3)
              go_roundw
              case rel => exact ⟨k + 1, m, by go_num, by go_num, by omega, by omega, HBE2.out, HB3.out⟩
              case measure => simp [RowKit.intOf]; omega
          · rw [if_neg (by simp [hi])] at hbd hwd
            have hmL : m < L.length := by omega
            have cO := one1_any x b ask L _ m wr HUr.out hmL (HOK.out _ (by rw [List.getD_eq_getElem?_getD, List.getElem?_eq_getElem hmL]; exact List.getElem_mem hmL)) hxr hb ha
            have hdm : decide (m < L.length) = true := by simp [hmL]
            rw [hdm] at hbd
            have hq : IntKind.i64.wrap ((m : Int) + 1) = ((m + 1 : Nat) : Int) := by rw [IntKind.wrap_i64]; omega
            clear hdm
            cases hz : oneB x (L.getD m nilU)
            · rw [hz] at cO hbd
              have HE2 := Lib.hid (show fitsB L (n : Int) X = false by rw [HE.out, HBE.out, hbd]; rfl)
              go_wp2_with (go_at_call 161; (with_reducible refine cO.mono ?_); rintro e w3 ⟨rfl, hb3⟩; have HB3 := Lib.hid (below_next HB.out hb3); clear hb3)
              go_ret
              exact ⟨ret_bool HE2.out.symm, HB3.out⟩
            · rw [hz] at cO hbd
              have HBE2 := Lib.hid (show behB L n X = behB L (m + 1) (X.drop (k + 1)) by rw [HBE.out, hbd]; rfl)
              go_wp2_with (go_at_call 161; (with_reducible refine cO.mono ?_); rintro e w3 ⟨rfl, hb3⟩; have HB3 := Lib.hid (below_next HB.out hb3); clear hb3)
              go_roundw
              case rel => exact ⟨k + 1, m + 1, by go_num, by go_num, by omega, by omega, HBE2.out, HB3.out⟩
              case measure => simp [RowKit.intOf]; omega
        · have hki : ¬ (k : Int) < (X.length : Int) := by omega
          have HE2 := Lib.hid (show fitsB L (n : Int) X = true by rw [HE.out, HBE.out, List.drop_of_length_le (by omega)]; rfl)
          go_wp2
          go_ret
          exact ⟨ret_bool HE2.out.symm, HB.out⟩
end Go.Proofs.YtnkpjkomokkhcaaGreatDoor
namespace Go.Proofs.YtnkpjkomokkhcaaGreatDoor
open Go Go.RowKit Go.Lib
set_option maxRecDepth 100000
theorem fits_rule (x : Rl) (L : List Un) (p : Nat) (hp : p ≤ L.length) : (fitsB L ((p : Int) - (ftW (items x.b) : Nat)) (items x.b) && fitsB L (p : Int) (items x.a)) = rlFits x L p := by
  unfold fitsB rlFits
  have e2 : (decide (0 ≤ (p : Int)) && decide ((p : Int) + (ftW (items x.a) : Nat) ≤ (L.length : Int)) && behB L (p : Int).toNat (items x.a)) = behB L p (items x.a) := by
    rw [show (p : Int).toNat = p by omega]
    by_cases h : (p : Int) + (ftW (items x.a) : Nat) ≤ (L.length : Int)
    · simp [h]
    · rw [beh_wide (items x.a) p (by omega) hp]
      simp
  rw [e2]
  by_cases h : ftW (items x.b) ≤ p
  · rw [show ((p : Int) - (ftW (items x.b) : Nat)).toNat = p - ftW (items x.b) by omega, show decide (0 ≤ (p : Int) - (ftW (items x.b) : Nat)) = true by simp; omega, show decide ((p : Int) - (ftW (items x.b) : Nat) + (ftW (items x.b) : Nat) ≤ (L.length : Int)) = true by simp; omega, show decide (ftW (items x.b) ≤ p) = true by simp [h], Bool.true_and]
  · rw [show decide (0 ≤ (p : Int) - (ftW (items x.b) : Nat)) = false by simp; omega, show decide (ftW (items x.b) ≤ p) = false by simp; omega]
    simp
theorem box5_cells {W : World} {Bn t : Nat} {a b c d e : Value} (h : W.heap[Bn]? = some (.cells #[a, b, c, d, e] t (0, 0))) : W.cell? ⟨Bn, 2, none⟩ = some c ∧ W.cell? ⟨Bn, 3, none⟩ = some d :=
  ⟨(Lib.cell_of_heap h 2).trans rfl, (Lib.cell_of_heap h 3).trans rfl⟩
theorem box5_new (w : World) (o : Obj) : (w.alloc o).heap[w.heap.size]? = some o := by show (w.heap.push o)[w.heap.size]? = some o; exact Array.getElem?_push_size
set_option maxHeartbeats 16000000 in
theorem ruleFits_any (X Y : List Ft) (k : Bool) (L : List Un) (v vx vy : Value) (p : Nat) (w : World) (hU : UnsAt w v L) (hX : TestsAt w vx X) (hY : TestsAt w vy Y) (hok : ∀ u ∈ L, okU u) (hx : ∀ x ∈ X, x.r ≠ 0) (hy : ∀ x ∈ Y, x.r ≠ 0) (hm : L.length ≤ 50000) (hXl : X.length ≤ 50000) (hYl : Y.length ≤ 50000) (hp : p ≤ 90000) :
    Calls Tryz.prog 57 #[.agg #[vx, .int .i64 (ftW X : Nat), vy, .int .i64 (ftW Y : Nat), .bool k], v, .int .i64 (p : Int)] w fun e w' => e = .returned (.bool (fitsB L ((p : Int) - (ftW X : Nat)) X && fitsB L (p : Int) Y)) ∧ Below w.heap.size w w' := by
  have HU := Lib.hid hU
  have HX := Lib.hid hX
  have HY := Lib.hid hY
  obtain ⟨q, cap, rfl, hl, hc⟩ := hU.form
  obtain ⟨q2, cap2, rfl, hl2, hc2⟩ := hX.form
  obtain ⟨q3, cap3, rfl, hl3, hc3⟩ := hY.form
  unfold maxLen at hc hc2 hc3
  have hw := ftW_le X
  have ap := Tryz.isAgg110
  have zp := Tryz.sizeOf110
  have ab := Tryz.isAgg112
  have zb := Tryz.sizeOf112
  have hwr : IntKind.i64.wrap ((p : Int) - (ftW X : Nat)) = (p : Int) - (ftW X : Nat) := by rw [IntKind.wrap_i64]; omega
  have c1 := fun w' hu hx' => patFits_any X L (.slice q L.length cap) (.slice q2 X.length cap2) ((p : Int) - (ftW X : Nat)) w' hu hx' hok hx (by omega) (by omega) (by omega) (by omega)
  have c2 := fun w' hu hx' => patFits_any Y L (.slice q L.length cap) (.slice q3 Y.length cap3) (p : Int) w' hu hx' hok hy (by omega) (by omega) (by omega) (by omega)
  have HB0 := Lib.hid (below_box (w := w) (.cells #[.slice q2 X.length cap2, .int .i64 (ftW X : Nat), .slice q3 Y.length cap3, .int .i64 (ftW Y : Nat), .bool k] 112))
  clear hU hX hY hok hx hy
  generalize fitsB L ((p : Int) - (ftW X : Nat)) X = z1 at *
  generalize fitsB L (p : Int) Y = z2 at *
  generalize (ftW X : Nat) = W at *
  generalize (ftW Y : Nat) = W2 at *
  cases z1
  · go_enter Tryz.func57, Tryz.ntmps57
    go_wp2_with (go_at_call 89; (with_reducible refine (c1 _ (HU.out.step HB0.out) (HX.out.step HB0.out)).mono ?_); rintro e w3 ⟨rfl, hb3⟩; have HB3 := Lib.hid (below_next HB0.out hb3); clear hb3)
    go_ret
    exact ⟨rfl, HB3.out⟩
  · go_enter Tryz.func57, Tryz.ntmps57
    go_wp2_with (first
      | (go_at_call 89; (with_reducible refine (c1 _ (HU.out.step HB0.out) (HX.out.step HB0.out)).mono ?_); rintro e w3 ⟨rfl, hb3⟩; have HB3 := Lib.hid (below_next HB0.out hb3); obtain ⟨y2, y3⟩ := box5_cells ((hb3.block w.heap.size (by show w.heap.size < (w.heap.push _).size; rw [Array.size_push]; omega)).trans (box5_new _ _)); clear hb3)
      | (go_at_call 89; (with_reducible refine (c2 _ (HU.out.step HB3.out) (HY.out.step HB3.out)).mono ?_); rintro e w4 ⟨rfl, hb4⟩; have HB4 := Lib.hid (below_next HB3.out hb4); clear hb4))
    go_ret
    exact ⟨by simp, HB4.out⟩
end Go.Proofs.YtnkpjkomokkhcaaGreatDoor
