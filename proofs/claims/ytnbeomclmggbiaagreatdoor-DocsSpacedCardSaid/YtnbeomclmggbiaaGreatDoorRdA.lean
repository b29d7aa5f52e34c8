/- Written forms as data: the tokens of a text, the pieces that they make, and that reading and writing undo each other. No run of any program here. Written forms as data, second part: the pieces of a text, step by step, as a reader goes through it. No run of any program here. Documents as data: blocks, lines, texts. No run of any program here. -/
import Derived.Test.YtnbeomclmggbiaaGreatDoorTxA
import Derived.Lib.TrimAscii
import Derived.Lib.Bytealg
import Derived.Lib.IndexBytes
import Derived.Lib.CutLaws
namespace Go.Proofs.YtnbeomclmggbiaaGreatDoor
open Go Go.Lib
def textL (l : List UInt8) : Bool := validD l && (runesG l.length l).all fun r => !ctl r
theorem textB_L (s : ByteArray) : textB s = textL s.data.toList := rfl
theorem bytes_list (l : List UInt8) : (bytes l).data.toList = l := rfl
theorem list_bytes (s : ByteArray) : bytes s.data.toList = s := rfl
theorem runesG_fuel : ∀ (n m : Nat) (l : List UInt8), l.length ≤ n → l.length ≤ m → runesG n l = runesG m l
  | 0, m, l, hn, _ => by
    have : l = [] := List.eq_nil_of_length_eq_zero (by omega)
    subst this
    cases m <;> simp [runesG]
  | n + 1, 0, l, _, hm => by
    have : l = [] := List.eq_nil_of_length_eq_zero (by omega)
    subst this
    simp [runesG]
  | n + 1, m + 1, l, hn, hm => by
    unfold runesG
    by_cases hne : l = []
    · simp [hne]
    · have hw := decodeL_width l
      have hl : 0 < l.length := List.length_pos_iff.2 hne
      rw [if_neg hne, if_neg hne, runesG_fuel n m (l.drop (decodeL l).2) (by rw [List.length_drop]; omega) (by rw [List.length_drop]; omega)]
theorem textL_nil : textL [] = true := rfl
theorem textL_step (l : List UInt8) (hne : l ≠ []) : textL l = (!(decide ((decodeL l).1 = 65533 ∧ (decodeL l).2 = 1)) && !ctl (decodeL l).1 && textL (l.drop (decodeL l).2)) := by
  have hl : 0 < l.length := List.length_pos_iff.2 hne
  have hw := decodeL_width l
  obtain ⟨n, hn⟩ : ∃ n, l.length = n + 1 := ⟨l.length - 1, by omega⟩
  unfold textL
  rw [validD_step l hne, hn]
  simp only [runesG, if_neg hne, List.all_cons]
  rw [runesG_fuel n (l.drop (decodeL l).2).length _ (by rw [List.length_drop]; omega) (Nat.le_refl _)]
  by_cases h : (decodeL l).1 = 65533 ∧ (decodeL l).2 = 1
  · simp [h]
  · rw [if_neg h]
    simp only [h, decide_false, Bool.not_false, Bool.true_and]
    cases validD (List.drop (decodeL l).2 l) <;> cases ctl (decodeL l).1 <;> simp
theorem decodeN_le (n b0 b1 b2 b3 : Nat) (hn : 1 ≤ n) : (decodeN n b0 b1 b2 b3).2 ≤ n := by
  unfold decodeN
  repeat' split
  all_goals (simp only []; omega)
theorem decodeL_le (l : List UInt8) (hne : l ≠ []) : (decodeL l).2 ≤ l.length := by
  rw [decodeL_N]
  exact decodeN_le _ _ _ _ _ (List.length_pos_iff.2 hne)
theorem decodeN_eq {n n' b0 b1 b2 b3 b1' b2' b3' : Nat} (h1 : (1 < n ∧ b1 / 64 = 2) ↔ (1 < n' ∧ b1' / 64 = 2)) (h2 : (2 < n ∧ b2 / 64 = 2) → (1 < n ∧ b1 / 64 = 2) → (2 < n' ∧ b2' / 64 = 2)) (h2' : (2 < n' ∧ b2' / 64 = 2) → (1 < n ∧ b1 / 64 = 2) → (2 < n ∧ b2 / 64 = 2))
    (h3 : (3 < n ∧ b3 / 64 = 2) → (2 < n ∧ b2 / 64 = 2) → (1 < n ∧ b1 / 64 = 2) → (3 < n' ∧ b3' / 64 = 2)) (h3' : (3 < n' ∧ b3' / 64 = 2) → (2 < n ∧ b2 / 64 = 2) → (1 < n ∧ b1 / 64 = 2) → (3 < n ∧ b3 / 64 = 2))
    (e1 : (1 < n ∧ b1 / 64 = 2) → b1 = b1') (e2 : (1 < n ∧ b1 / 64 = 2) → (2 < n ∧ b2 / 64 = 2) → b2 = b2') (e3 : (1 < n ∧ b1 / 64 = 2) → (2 < n ∧ b2 / 64 = 2) → (3 < n ∧ b3 / 64 = 2) → b3 = b3') : decodeN n b0 b1 b2 b3 = decodeN n' b0 b1' b2' b3' := by
  unfold decodeN
  by_cases k1 : 1 < n ∧ b1 / 64 = 2
  · have k1' := h1.1 k1
    obtain rfl := e1 k1
    by_cases k2 : 2 < n ∧ b2 / 64 = 2
    · have k2' := h2 k2 k1
      obtain rfl := e2 k1 k2
      by_cases k3 : 3 < n ∧ b3 / 64 = 2
      · have k3' := h3 k3 k2 k1
        obtain rfl := e3 k1 k2 k3
        simp only [k1, k1', k2, k2', k3, k3', and_self, and_true]
      · have k3' : ¬ (3 < n' ∧ b3' / 64 = 2) := fun h => k3 (h3' h k2 k1)
        simp only [k1, k1', k2, k2', k3, k3', and_self, and_true, and_false, if_false]
    · have k2' : ¬ (2 < n' ∧ b2' / 64 = 2) := fun h => k2 (h2' h k1)
      simp only [k1, k1', k2, k2', and_self, and_true, and_false, false_and, if_false]
  · have k1' : ¬ (1 < n' ∧ b1' / 64 = 2) := fun h => k1 (h1.2 h)
    simp only [k1, k1', and_false, false_and, if_false]
/-- an ASCII byte behind ends what is decoded -/
theorem decode_app (a b : List UInt8) (c : UInt8) (hne : a ≠ []) (hc : c.toNat < 128) : decodeL (a ++ c :: b) = decodeL a := by
  rw [decodeL_N, decodeL_N]
  match a, hne with
  | [x0], _ =>
    simp only [List.cons_append, List.nil_append, List.getD_cons_zero, List.getD_cons_succ, List.length_cons, List.length_nil]
    apply decodeN_eq <;> (try simp) <;> omega
  | [x0, x1], _ =>
    simp only [List.cons_append, List.nil_append, List.getD_cons_zero, List.getD_cons_succ, List.length_cons, List.length_nil]
    apply decodeN_eq <;> (try simp) <;> omega
  | [x0, x1, x2], _ =>
    simp only [List.cons_append, List.nil_append, List.getD_cons_zero, List.getD_cons_succ, List.length_cons, List.length_nil]
    apply decodeN_eq <;> (try simp) <;> omega
  | x0 :: x1 :: x2 :: x3 :: t, _ =>
    simp only [List.cons_append, List.getD_cons_zero, List.getD_cons_succ, List.length_cons, List.length_append]
    apply decodeN_eq <;> (try simp) <;> omega
theorem textL_split : ∀ (n : Nat) (a b : List UInt8) (c : UInt8), a.length ≤ n → c.toNat < 128 → textL (a ++ c :: b) = (textL a && !ctl c.toNat && textL b) := by
  have base : ∀ (b : List UInt8) (c : UInt8), c.toNat < 128 → textL (c :: b) = (!ctl c.toNat && textL b) := fun b c hc => by
    rw [textL_step _ (by simp), decodeL_ascii c b hc]
    have h0 : decide (c.toNat = 65533 ∧ (1 : Nat) = 1) = false := decide_eq_false (by omega)
    show (!decide (c.toNat = 65533 ∧ (1 : Nat) = 1) && !ctl c.toNat && textL b) = _
    rw [h0]
    rfl
  intro n
  induction n with
  | zero =>
    intro a b c ha hc
    obtain rfl : a = [] := List.eq_nil_of_length_eq_zero (by omega)
    rw [List.nil_append, base b c hc, textL_nil, Bool.true_and]
  | succ n ih =>
    intro a b c ha hc
    by_cases hne : a = []
    · subst hne
      rw [List.nil_append, base b c hc, textL_nil, Bool.true_and]
    · have hw := decodeL_width a
      have hle := decodeL_le a hne
      rw [textL_step (a ++ c :: b) (by simp), textL_step a hne, decode_app a b c hne hc, List.drop_append_of_le_length hle, ih (a.drop (decodeL a).2) b c (by rw [List.length_drop]; omega) hc]
      simp only [Bool.and_assoc]
theorem textL_at (a b : List UInt8) (c : UInt8) (hc : c.toNat < 128) : textL (a ++ c :: b) = (textL a && !ctl c.toNat && textL b) := textL_split _ a b c (Nat.le_refl _) hc
theorem textL_cons (b : List UInt8) (c : UInt8) (hc : c.toNat < 128) : textL (c :: b) = (!ctl c.toNat && textL b) := by
  have := textL_at [] b c hc
  rwa [List.nil_append, textL_nil, Bool.true_and] at this
def plainA (c : UInt8) : Prop := c.toNat < 128 ∧ ctl c.toNat = false
theorem textL_marks (m : List UInt8) (hm : ∀ c ∈ m, plainA c) (b : List UInt8) : textL (m ++ b) = textL b := by
  induction m with
  | nil => rfl
  | cons c m ih =>
    obtain ⟨h1, h2⟩ := hm c (by simp)
    rw [List.cons_append, textL_cons _ _ h1, h2, ih (fun c hc => hm c (by simp [hc]))]
    simp
theorem textL_mid (a m b : List UInt8) (hm : ∀ c ∈ m, plainA c) (hne : m ≠ []) : textL (a ++ (m ++ b)) = (textL a && textL b) := by
  match m, hne with
  | c :: m, _ =>
    obtain ⟨h1, h2⟩ := hm c (by simp)
    rw [List.cons_append, textL_at _ _ _ h1, h2, textL_marks m (fun c hc => hm c (by simp [hc]))]
    simp
/-! ### marks -/
theorem nameB_chars {s : ByteArray} (h : nameB s = true) : (∃ a n, s.data.toList = a :: n ∧ isL (a.toNat : Int) = true) ∧ (∀ b ∈ s.data.toList, isT (b.toNat : Int) = true) ∧ 1 ≤ s.size ∧ s.size ≤ 16 := by
  unfold nameB at h
  simp only [Bool.and_eq_true, decide_eq_true_eq] at h
  obtain ⟨⟨⟨h1, h2⟩, h3⟩, h4⟩ := h
  unfold allB at h4
  rw [List.all_eq_true] at h4
  refine ⟨?_, h4, h1, h2⟩
  have e : s.data.toList.length = s.size := rfl
  have hg : s.get! 0 = s.data.toList.getD 0 0 := by
    show s.data[0]! = _
    rw [getElem!_pos s.data 0 (by show 0 < s.size; omega), List.getD_eq_getElem?_getD, List.getElem?_eq_getElem (by omega)]
    simp
  rw [hg] at h3
  cases hl : s.data.toList with
  | nil => rw [hl] at e; simp at e; omega
  | cons a n => rw [hl] at h3; exact ⟨a, n, rfl, by simpa using h3⟩
/-- a list of bytes is the written form of a tag or a hole -/
def Mk (x : Pc) (s : List UInt8) : Prop := x.k ≠ 1 ∧ pieceE x = 0 ∧ s = wB x
theorem Mk.kinds {x : Pc} {s : List UInt8} (h : Mk x s) : nameB x.s = true ∧ s = markA x.k x.c ++ x.s.data.toList ++ markZ x.k ∧
    ((x.k = 2 ∧ markA x.k x.c = (if x.c then [60, 43] else [60]) ∧ markZ x.k = [62]) ∨ (x.k = 3 ∧ markA x.k x.c = (if x.c then [60, 47, 43] else [60, 47]) ∧ markZ x.k = [62]) ∨ (x.k = 4 ∧ x.c = false ∧ markA x.k x.c = [60] ∧ markZ x.k = [47, 62]) ∨ (x.k = 5 ∧ x.c = false ∧ markA x.k x.c = [123] ∧ markZ x.k = [125])) := by
  obtain ⟨h1, h2, h3⟩ := h
  unfold wB at h3
  rw [if_neg h1] at h3
  unfold pieceE at h2
  split at h2
  · omega
  · rename_i hk
    split at h2
    · omega
    · rename_i hc
      split at h2
      · rename_i hn
        refine ⟨hn, h3, ?_⟩
        have hk4 : x.k = 2 ∨ x.k = 3 ∨ x.k = 4 ∨ x.k = 5 := by omega
        rcases hk4 with e | e | e | e
        · left; refine ⟨e, ?_, ?_⟩ <;> (try unfold markA) <;> (try unfold markZ) <;> rw [e] <;> cases x.c <;> simp
        · right; left; refine ⟨e, ?_, ?_⟩ <;> (try unfold markA) <;> (try unfold markZ) <;> rw [e] <;> cases x.c <;> simp
        · have : x.c = false := by cases hx : x.c
                                   · rfl
                                   · exact absurd ⟨hx, by omega, by omega⟩ hc
          right; right; left; refine ⟨e, this, ?_, ?_⟩ <;> (try unfold markA) <;> (try unfold markZ) <;> rw [e] <;> (try rw [this]) <;> simp
        · have : x.c = false := by cases hx : x.c
                                   · rfl
                                   · exact absurd ⟨hx, by omega, by omega⟩ hc
          right; right; right; refine ⟨e, this, ?_, ?_⟩ <;> (try unfold markA) <;> (try unfold markZ) <;> rw [e] <;> (try rw [this]) <;> simp
      · omega
/-- a tag or a hole, back from its written form -/
def unMark (s : List UInt8) : Pc :=
  if s.getD 0 0 = 123 then ⟨5, bytes (s.drop 1).dropLast, false⟩
  else if s.getD 1 0 = 47 then (if s.getD 2 0 = 43 then ⟨3, bytes (s.drop 3).dropLast, true⟩ else ⟨3, bytes (s.drop 2).dropLast, false⟩)
  else if s.getD 1 0 = 43 then ⟨2, bytes (s.drop 2).dropLast, true⟩
  else if (s.drop 1).dropLast.getLast? = some 47 then ⟨4, bytes (s.drop 1).dropLast.dropLast, false⟩ else ⟨2, bytes (s.drop 1).dropLast, false⟩
theorem u8ne {a : UInt8} {n : Nat} (hn : n < 256) (h : isT (a.toNat : Int) = true) (hx : isT (n : Int) = false) : a ≠ UInt8.ofNat n := by
  rintro rfl
  rw [UInt8.toNat_ofNat_of_lt' (by omega)] at h
  rw [h] at hx; cases hx
theorem isL_isT {c : Int} (h : isL c = true) : isT c = true := by unfold isT; rw [h]; rfl
theorem unMark_of {x : Pc} {s : List UInt8} (h : Mk x s) : unMark s = x := by
  obtain ⟨hn, hs, hk⟩ := h.kinds
  obtain ⟨⟨a, n, ha, hl⟩, hall, _, _⟩ := nameB_chars hn
  have a47 : a ≠ 47 := u8ne (n := 47) (by decide) (isL_isT hl) (by decide)
  have a43 : a ≠ 43 := u8ne (n := 43) (by decide) (isL_isT hl) (by decide)
  obtain ⟨k, nm, c⟩ := x
  simp only at hk hs ha hall ⊢
  have hb : bytes (a :: n) = nm := by rw [← ha]; rfl
  have last : (a :: n).getLast? ≠ some 47 := by
    intro e
    have := List.mem_of_getLast? e
    rw [← ha] at this
    have := hall _ this
    revert this; decide
  rw [ha] at hs
  have d1 : ∀ (p : UInt8) (l : List UInt8), (p :: l).drop 1 = l := fun _ _ => rfl
  have d2 : ∀ (p q : UInt8) (l : List UInt8), (p :: q :: l).drop 2 = l := fun _ _ _ => rfl
  have d3 : ∀ (p q r : UInt8) (l : List UInt8), (p :: q :: r :: l).drop 3 = l := fun _ _ _ _ => rfl
  have g0 : ∀ z, ((a :: n) ++ [z]).getD 0 0 = a := fun _ => rfl
  have n1 : (60 : UInt8) ≠ 123 := by decide
  have n2 : (43 : UInt8) ≠ 47 := by decide
  rcases hk with ⟨rfl, h1, h2⟩ | ⟨rfl, h1, h2⟩ | ⟨rfl, rfl, h1, h2⟩ | ⟨rfl, rfl, h1, h2⟩
  · rw [h1, h2] at hs
    cases c
    · have e : s = 60 :: ((a :: n) ++ [62]) := hs
      subst e
      unfold unMark
      simp only [d1, List.getD_cons_zero, List.getD_cons_succ, g0, n1, a47, a43, if_false, List.dropLast_concat, last, hb]
    · have e : s = 60 :: 43 :: ((a :: n) ++ [62]) := hs
      subst e
      unfold unMark
      simp only [d2, List.getD_cons_zero, List.getD_cons_succ, n1, n2, if_false, if_true, List.dropLast_concat, hb]
  · rw [h1, h2] at hs
    cases c
    · have e : s = 60 :: 47 :: ((a :: n) ++ [62]) := hs
      subst e
      unfold unMark
      simp only [d2, List.getD_cons_zero, List.getD_cons_succ, g0, n1, a43, if_false, if_true, List.dropLast_concat, hb]
    · have e : s = 60 :: 47 :: 43 :: ((a :: n) ++ [62]) := hs
      subst e
      unfold unMark
      simp only [d3, List.getD_cons_zero, List.getD_cons_succ, n1, if_false, if_true, List.dropLast_concat, hb]
  · rw [h1, h2] at hs
    have e : s = 60 :: (((a :: n) ++ [47]) ++ [62]) := by rw [hs]; simp
    have g1 : (((a :: n) ++ [47]) ++ [62]).getD 0 0 = a := rfl
    subst e
    unfold unMark
    simp only [d1, List.getD_cons_zero, List.getD_cons_succ, g1, n1, a47, a43, if_false, List.dropLast_concat, List.getLast?_concat, if_true, hb]
  · rw [h1, h2] at hs
    have e : s = 123 :: ((a :: n) ++ [125]) := hs
    subst e
    unfold unMark
    simp only [d1, List.getD_cons_zero, if_true, List.dropLast_concat, hb]
theorem Mk.uniq {x y : Pc} {s : List UInt8} (h : Mk x s) (h' : Mk y s) : x = y := (unMark_of h).symm.trans (unMark_of h')
open Classical in
noncomputable def markOf (s : List UInt8) : Option Pc := if h : ∃ x, Mk x s then some h.choose else none
theorem markOf_of {x : Pc} {s : List UInt8} (h : Mk x s) : markOf s = some x := by
  unfold markOf
  have he : ∃ x, Mk x s := ⟨x, h⟩
  rw [dif_pos he]
  exact congrArg some (he.choose_spec.uniq h)
theorem markOf_not {s : List UInt8} (h : ∀ x, ¬ Mk x s) : markOf s = none := by
  unfold markOf
  rw [dif_neg (fun ⟨x, hx⟩ => h x hx)]
theorem markOf_mk {x : Pc} {s : List UInt8} (h : markOf s = some x) : Mk x s := by
  unfold markOf at h
  split at h
  · rename_i he
    cases h
    exact he.choose_spec
  · cases h
end Go.Proofs.YtnbeomclmggbiaaGreatDoor
namespace Go.Proofs.YtnbeomclmggbiaaGreatDoor
open Go Go.Lib
/-- a byte of a text, or a tag or a hole -/
abbrev Tok := UInt8 ⊕ Pc
def endOf (c : UInt8) : UInt8 := if c = 60 then 62 else 125
theorem take_fuel {l : List UInt8} {j : Nat} (c : UInt8) : ((c :: l).drop (j + 1)).length ≤ l.length := by simp
noncomputable def toksN : Nat → List UInt8 → Option (List Tok)
  | _, [] => some []
  | 0, _ :: _ => none
  | n + 1, c :: r =>
    if c = 92 then (if special (r.getD 0 0) then (toksN n (r.drop 1)).map (.inl (r.getD 0 0) :: ·) else none)
    else if c = 60 ∨ c = 123 then
      (if indexByte (c :: r) (endOf c) = -1 then none else
        match markOf ((c :: r).take ((indexByte (c :: r) (endOf c)).toNat + 1)) with
        | none => none
        | some x => (toksN n ((c :: r).drop ((indexByte (c :: r) (endOf c)).toNat + 1))).map (.inr x :: ·))
    else (toksN n r).map (.inl c :: ·)
theorem toksN_fuel : ∀ (n m : Nat) (l : List UInt8), l.length ≤ n → l.length ≤ m → toksN n l = toksN m l
  | 0, m, [], _, _ => by cases m <;> rfl
  | n + 1, 0, [], _, _ => rfl
  | n + 1, m + 1, [], _, _ => rfl
  | n + 1, m + 1, c :: r, hn, hm => by
    simp only [List.length_cons] at hn hm
    unfold toksN
    rw [toksN_fuel n m (r.drop 1) (by rw [List.length_drop]; omega) (by rw [List.length_drop]; omega), toksN_fuel n m r (by omega) (by omega)]
    have h : ∀ j, toksN n ((c :: r).drop (j + 1)) = toksN m ((c :: r).drop (j + 1)) := fun j => toksN_fuel n m _ (by have := take_fuel (l := r) (j := j) c; omega) (by have := take_fuel (l := r) (j := j) c; omega)
    rw [h]
noncomputable def toks (l : List UInt8) : Option (List Tok) := toksN l.length l
theorem toks_nil : toks [] = some [] := rfl
theorem toks_of {n : Nat} {l : List UInt8} (h : l.length ≤ n) : toksN n l = toks l := toksN_fuel _ _ _ h (Nat.le_refl _)
theorem special_cases {c : UInt8} (h : special c = true) : c = 92 ∨ c = 60 ∨ c = 123 := by
  unfold special at h
  simp only [Bool.or_eq_true, beq_iff_eq] at h
  rcases h with (h | h) | h
  · exact .inl h
  · exact .inr (.inl h)
  · exact .inr (.inr h)
theorem special_not {c : UInt8} (h : special c = false) : c ≠ 92 ∧ c ≠ 60 ∧ c ≠ 123 := by
  refine ⟨?_, ?_, ?_⟩ <;> rintro rfl <;> revert h <;> decide
theorem toks_plain {c : UInt8} (r : List UInt8) (h : special c = false) : toks (c :: r) = (toks r).map (.inl c :: ·) := by
  obtain ⟨h1, h2, h3⟩ := special_not h
  unfold toks
  simp only [List.length_cons, toksN]
  rw [if_neg h1, if_neg (by rintro (h | h) <;> contradiction)]
theorem toks_esc {d : UInt8} (r : List UInt8) (h : special d = true) : toks (92 :: d :: r) = (toks r).map (.inl d :: ·) := by
  show toksN (r.length + 1 + 1) (92 :: d :: r) = _
  rw [toksN, if_pos rfl]
  simp only [List.getD_cons_zero, h, if_true, List.drop_succ_cons, List.drop_zero]
  rw [toks_of (by omega)]
theorem toks_esc_bad {r : List UInt8} (h : special (r.getD 0 0) = false) : toks (92 :: r) = none := by
  unfold toks
  simp only [List.length_cons]
  unfold toksN
  rw [if_pos rfl, h]
  rfl
theorem toks_mark {c : UInt8} {r : List UInt8} {j : Nat} {x : Pc} (hc : c = 60 ∨ c = 123) (hj : indexByte (c :: r) (endOf c) = (j : Int)) (hx : markOf ((c :: r).take (j + 1)) = some x) : toks (c :: r) = (toks ((c :: r).drop (j + 1))).map (.inr x :: ·) := by
  unfold toks
  simp only [List.length_cons, toksN]
  rw [if_neg (by rcases hc with rfl | rfl <;> decide), if_pos hc, if_neg (by rw [hj]; omega), hj]
  simp only [Int.toNat_natCast, hx]
  rw [toks_of (take_fuel c)]
  rfl
theorem toks_mark_bad {c : UInt8} {r : List UInt8} {j : Nat} (hc : c = 60 ∨ c = 123) (hj : indexByte (c :: r) (endOf c) = (j : Int)) (hx : markOf ((c :: r).take (j + 1)) = none) : toks (c :: r) = none := by
  unfold toks
  simp only [List.length_cons, toksN]
  rw [if_neg (by rcases hc with rfl | rfl <;> decide), if_pos hc, if_neg (by rw [hj]; omega), hj]
  simp only [Int.toNat_natCast, hx]
theorem toks_mark_end {c : UInt8} {r : List UInt8} (hc : c = 60 ∨ c = 123) (hj : indexByte (c :: r) (endOf c) = -1) : toks (c :: r) = none := by
  unfold toks
  simp only [List.length_cons, toksN]
  rw [if_neg (by rcases hc with rfl | rfl <;> decide), if_pos hc, if_pos hj]
/-! ### what tokens make -/
def flush (t : List UInt8) : List Pc := if t = [] then [] else [⟨1, bytes t, false⟩]
def joinF : List UInt8 → List Tok → List Pc
  | t, [] => flush t
  | t, .inl b :: ts => joinF (t ++ [b]) ts
  | t, .inr x :: ts => flush t ++ x :: joinF [] ts
noncomputable def readsB (text : List UInt8) : Option (List Pc) := (toks text).map (joinF [])
/-- so far the pieces o and the text t have been read, and the rest is to be read -/
def St (text : List UInt8) (o : List Pc) (t rest : List UInt8) : Prop := readsB text = (toks rest).map fun ts => o ++ joinF t ts
theorem St.start (text : List UInt8) : St text [] [] text := rfl
theorem St.byte {text : List UInt8} {o : List Pc} {t r : List UInt8} {c : UInt8} (h : St text o t (c :: r)) (hc : special c = false) : St text o (t ++ [c]) r := by
  unfold St at *
  rw [h, toks_plain r hc, Option.map_map]
  rfl
theorem St.plain {text : List UInt8} {o : List Pc} : ∀ {p t r : List UInt8}, St text o t (p ++ r) → (∀ c ∈ p, special c = false) → St text o (t ++ p) r
  | [], t, r, h, _ => by rw [List.append_nil]; exact h
  | c :: p, t, r, h, hp => by
    have := St.plain (p := p) (t := t ++ [c]) (r := r) (St.byte h (hp c (by simp))) (fun d hd => hp d (by simp [hd]))
    rwa [List.append_assoc] at this
theorem St.esc {text : List UInt8} {o : List Pc} {t r : List UInt8} {d : UInt8} (h : St text o t (92 :: d :: r)) (hd : special d = true) : St text o (t ++ [d]) r := by
  unfold St at *
  rw [h, toks_esc r hd, Option.map_map]
  rfl
theorem St.mark {text : List UInt8} {o : List Pc} {t r : List UInt8} {c : UInt8} {j : Nat} {x : Pc} (h : St text o t (c :: r)) (hc : c = 60 ∨ c = 123) (hj : indexByte (c :: r) (endOf c) = (j : Int)) (hx : Mk x ((c :: r).take (j + 1))) :
    St text (o ++ flush t ++ [x]) [] ((c :: r).drop (j + 1)) := by
  unfold St at *
  rw [h, toks_mark hc hj (markOf_of hx), Option.map_map]
  congr 1
  funext ts
  simp [joinF]
theorem St.esc_bad {text : List UInt8} {o : List Pc} {t r : List UInt8} (h : St text o t (92 :: r)) (hd : special (r.getD 0 0) = false) : readsB text = none := by
  unfold St at h
  rw [h, toks_esc_bad hd]; rfl
theorem St.mark_bad {text : List UInt8} {o : List Pc} {t r : List UInt8} {c : UInt8} {j : Nat} (h : St text o t (c :: r)) (hc : c = 60 ∨ c = 123) (hj : indexByte (c :: r) (endOf c) = (j : Int)) (hx : ∀ x, ¬ Mk x ((c :: r).take (j + 1))) : readsB text = none := by
  unfold St at h
  rw [h, toks_mark_bad hc hj (markOf_not hx)]; rfl
theorem St.mark_end {text : List UInt8} {o : List Pc} {t r : List UInt8} {c : UInt8} (h : St text o t (c :: r)) (hc : c = 60 ∨ c = 123) (hj : indexByte (c :: r) (endOf c) = -1) : readsB text = none := by
  unfold St at h
  rw [h, toks_mark_end hc hj]; rfl
theorem St.done {text : List UInt8} {o : List Pc} {t : List UInt8} (h : St text o t []) : readsB text = some (o ++ flush t) := by
  unfold St at h
  rw [h, toks_nil]; rfl
/-- the text is ended where a mark follows, or nothing -/
theorem St.flush {text : List UInt8} {o : List Pc} {t rest : List UInt8} (h : St text o t rest) (hr : rest = [] ∨ ∃ c r, rest = c :: r ∧ (c = 60 ∨ c = 123)) : St text (o ++ flush t) [] rest := by
  unfold St at *
  rw [h]
  rcases hr with rfl | ⟨c, r, rfl, hc⟩
  · rw [toks_nil]
    simp [joinF, Go.Proofs.YtnbeomclmggbiaaGreatDoor.flush]
  · by_cases hj : indexByte (c :: r) (endOf c) = -1
    · rw [toks_mark_end hc hj]; rfl
    · obtain ⟨j, hj⟩ : ∃ j : Nat, indexByte (c :: r) (endOf c) = (j : Int) := ⟨(indexByte (c :: r) (endOf c)).toNat, by have := indexByte_ge (c :: r) (endOf c); omega⟩
      cases hx : markOf ((c :: r).take (j + 1)) with
      | none => rw [toks_mark_bad hc hj hx]; rfl
      | some x =>
        rw [toks_mark hc hj hx, Option.map_map, Option.map_map]
        congr 1
        funext ts
        simp [joinF, Go.Proofs.YtnbeomclmggbiaaGreatDoor.flush]
/-! ### text -/
theorem isT_plain {b : UInt8} (h : isT (b.toNat : Int) = true) : plainA b := by
  unfold isT isL at h
  simp only [Bool.or_eq_true, Bool.and_eq_true, decide_eq_true_eq] at h
  unfold plainA ctl
  simp only [Bool.or_eq_false_iff, decide_eq_false_iff_not]
  omega
theorem Mk.plain {x : Pc} {s : List UInt8} (h : Mk x s) : (∀ c ∈ s, plainA c) ∧ s ≠ [] := by
  obtain ⟨hn, hs, hk⟩ := h.kinds
  obtain ⟨_, hall, _, _⟩ := nameB_chars hn
  have p60 : plainA 60 := ⟨by decide, by decide⟩
  have p47 : plainA 47 := ⟨by decide, by decide⟩
  have p43 : plainA 43 := ⟨by decide, by decide⟩
  have p62 : plainA 62 := ⟨by decide, by decide⟩
  have p123 : plainA 123 := ⟨by decide, by decide⟩
  have p125 : plainA 125 := ⟨by decide, by decide⟩
  have key : (∀ c ∈ markA x.k x.c, plainA c) ∧ (∀ c ∈ markZ x.k, plainA c) ∧ markA x.k x.c ≠ [] := by
    rcases hk with ⟨_, h1, h2⟩ | ⟨_, h1, h2⟩ | ⟨_, _, h1, h2⟩ | ⟨_, _, h1, h2⟩ <;> rw [h1, h2]
    · cases x.c <;> simp [p60, p43, p62]
    · cases x.c <;> simp [p60, p43, p62, p47]
    · simp [p60, p62, p47]
    · simp [p123, p125]
  refine ⟨?_, ?_⟩
  · intro c hc
    rw [hs] at hc
    simp only [List.mem_append] at hc
    rcases hc with (hc | hc) | hc
    · exact key.1 c hc
    · exact isT_plain (hall c hc)
    · exact key.2.1 c hc
  · rw [hs]
    intro e
    have := congrArg List.length e
    simp only [List.length_append, List.length_nil] at this
    exact key.2.2 (List.eq_nil_of_length_eq_zero (by omega))
def okT (x : Pc) : Bool := decide (x.k ≠ 1) || textB x.s
theorem flush_ok (t : List UInt8) : (flush t).all okT = textL t := by
  unfold flush
  split
  · rename_i h; subst h; rfl
  · simp [okT, textB_L, bytes_list]
theorem indexByte_cut : ∀ {l : List UInt8} {c : UInt8} {j : Nat}, indexByte l c = (j : Int) → j < l.length
  | [], c, j, h => by simp [indexByte] at h
  | b :: l, c, j, h => by
    unfold indexByte at h
    split at h
    · simp only [List.length_cons]; omega
    · split at h
      · omega
      · have hg := indexByte_ge l c
        have h2 : ¬ (indexByte l c = -1) := by simpa using ‹¬ (indexByte l c == -1) = true›
        have := indexByte_cut (l := l) (c := c) (j := j - 1) (by omega)
        simp only [List.length_cons]; omega
/-- a text is text just where its pieces' texts are -/
theorem text_toks : ∀ (n : Nat) (s : List UInt8) (ts : List Tok) (t : List UInt8), s.length ≤ n → toks s = some ts → textL (t ++ s) = (joinF t ts).all okT := by
  intro n
  induction n with
  | zero =>
    intro s ts t hn h
    obtain rfl : s = [] := List.eq_nil_of_length_eq_zero (by omega)
    rw [toks_nil] at h; cases h
    rw [List.append_nil]; exact (flush_ok t).symm
  | succ n ih =>
    intro s ts t hn h
    match s with
    | [] =>
      rw [toks_nil] at h; cases h
      rw [List.append_nil]; exact (flush_ok t).symm
    | c :: r =>
      simp only [List.length_cons] at hn
      cases hs : special c
      · rw [toks_plain r hs] at h
        obtain ⟨ts', h1, rfl⟩ := Option.map_eq_some_iff.1 h
        have := ih r ts' (t ++ [c]) (by omega) h1
        rw [List.append_assoc] at this
        exact this
      · rcases special_cases hs with rfl | hc
        · cases hd : special (r.getD 0 0)
          · rw [toks_esc_bad hd] at h; cases h
          · match r with
            | [] => exact absurd hd (by decide)
            | d :: r' =>
              rw [List.getD_cons_zero] at hd
              rw [toks_esc r' hd] at h
              obtain ⟨ts', h1, rfl⟩ := Option.map_eq_some_iff.1 h
              have e := ih r' ts' (t ++ [d]) (by simp at hn; omega) h1
              have pd : plainA d := by rcases special_cases hd with rfl | rfl | rfl <;> exact ⟨by decide, by decide⟩
              rw [List.append_assoc] at e
              show _ = (joinF (t ++ [d]) ts').all okT
              rw [← e, textL_at t (d :: r') 92 (by decide), show ([d] ++ r' : List UInt8) = d :: r' from rfl, textL_at t r' d pd.1, textL_cons r' d pd.1, show ctl (92 : UInt8).toNat = false by decide, pd.2]
              simp
        · by_cases hj : indexByte (c :: r) (endOf c) = -1
          · rw [toks_mark_end hc hj] at h; cases h
          · obtain ⟨j, hj⟩ : ∃ j : Nat, indexByte (c :: r) (endOf c) = (j : Int) := ⟨(indexByte (c :: r) (endOf c)).toNat, by have := indexByte_ge (c :: r) (endOf c); omega⟩
            cases hx : markOf ((c :: r).take (j + 1)) with
            | none => rw [toks_mark_bad hc hj hx] at h; cases h
            | some x =>
              rw [toks_mark hc hj hx] at h
              obtain ⟨ts', h1, rfl⟩ := Option.map_eq_some_iff.1 h
              have hm := markOf_mk hx
              obtain ⟨hp, hne⟩ := hm.plain
              have e := ih _ ts' [] (by have := take_fuel (l := r) (j := j) c; omega) h1
              rw [List.nil_append] at e
              have hsp : c :: r = (c :: r).take (j + 1) ++ (c :: r).drop (j + 1) := (List.take_append_drop _ _).symm
              show textL (t ++ (c :: r)) = (Go.Proofs.YtnbeomclmggbiaaGreatDoor.flush t ++ x :: joinF [] ts').all okT
              rw [hsp, textL_mid t _ _ hp hne, e]
              have ox : okT x = true := by unfold okT; simp [hm.1]
              simp only [List.all_append, List.all_cons, ox, Bool.true_and, flush_ok]
theorem text_reads {s : ByteArray} {l : List Pc} (h : readsB s.data.toList = some l) : textB s = l.all okT := by
  unfold readsB at h
  obtain ⟨ts, h1, rfl⟩ := Option.map_eq_some_iff.1 h
  rw [textB_L]
  have := text_toks _ s.data.toList ts [] (Nat.le_refl _) h1
  rwa [List.nil_append] at this
/-! ### what Read returns -/
noncomputable def readV (s : ByteArray) : Option (List Pc) := if textB s = true then readsB s.data.toList else none
noncomputable def readE (s : ByteArray) : Int := if 65536 < s.size then 3 else match readV s with
  | none => 4
  | some l => checkE l
noncomputable def readP (s : ByteArray) : List Pc := if 65536 < s.size then [] else match readV s with
  | none => []
  | some l => if checkE l = 0 then l else []
theorem readV_not {s : ByteArray} (h : textB s = false ∨ readsB s.data.toList = none) : readV s = none := by
  unfold readV
  rcases h with h | h
  · simp [h]
  · split
    · exact h
    · rfl
theorem readV_some {s : ByteArray} {l : List Pc} (h : textB s = true) (h2 : readsB s.data.toList = some l) : readV s = some l := by
  unfold readV; rw [if_pos h, h2]
theorem read_long {s : ByteArray} (h : 65536 < s.size) : readE s = 3 ∧ readP s = [] := by
  unfold readE readP; rw [if_pos h, if_pos h]; exact ⟨rfl, rfl⟩
theorem read_none {s : ByteArray} (h0 : ¬ 65536 < s.size) (h : readV s = none) : readE s = 4 ∧ readP s = [] := by
  unfold readE readP; rw [if_neg h0, if_neg h0, h]; exact ⟨rfl, rfl⟩
theorem read_some {s : ByteArray} {l : List Pc} (h0 : ¬ 65536 < s.size) (h : readV s = some l) : readE s = checkE l ∧ readP s = if checkE l = 0 then l else [] := by
  unfold readE readP; rw [if_neg h0, if_neg h0, h]; exact ⟨rfl, rfl⟩
end Go.Proofs.YtnbeomclmggbiaaGreatDoor
namespace Go.Proofs.YtnbeomclmggbiaaGreatDoor
open Go Go.Lib
structure Bk where
  k : Int
  l : List Pc
def wholeB (l : List Pc) : Bool := l.all fun x => !x.c
def bareB (l : List Pc) : Bool := l.all fun x => decide (x.k = 1)
def inE (k : Int) (l : List Pc) : Int := if wholeB l = false then 8 else if k = 6 ∧ bareB l = false then 1 else 0
def blockE (b : Bk) : Int := if b.k < 1 ∨ 6 < b.k then 1 else if checkE b.l ≠ 0 then checkE b.l else inE b.k b.l
def headL : Nat → List UInt8
  | 1 => [104, 49]
  | 2 => [104, 50]
  | 3 => [104, 51]
  | 4 => [112]
  | 5 => [108, 105]
  | 6 => [114, 97, 119]
  | _ => []
def kindOf (w : List UInt8) : Nat := if w = headL 1 then 1 else if w = headL 2 then 2 else if w = headL 3 then 3 else if w = headL 4 then 4 else if w = headL 5 then 5 else if w = headL 6 then 6 else 0
theorem kindOf_le (w : List UInt8) : kindOf w ≤ 6 := by unfold kindOf; repeat' split
                                                        all_goals omega
theorem kindOf_head0 : ∀ k, k ≤ 6 → 1 ≤ k → kindOf (headL k) = k := by decide
theorem kindOf_head (k : Nat) (h1 : 1 ≤ k) (h6 : k ≤ 6) : kindOf (headL k) = k := kindOf_head0 k h6 h1
theorem kindOf_some {w : List UInt8} (h : kindOf w ≠ 0) : w = headL (kindOf w) := by
  unfold kindOf at *
  repeat' split
  all_goals first | assumption | (simp_all)
theorem head_blank : ∀ k, k ≤ 6 → ∀ c ∈ headL k, c ≠ 32 := by decide
theorem head_len : ∀ k, k ≤ 6 → (headL k).length ≤ 3 := by decide
def headOf (l : List UInt8) : Option (Nat × List UInt8) :=
  if indexByte l 32 = -1 then none else
  if kindOf (l.take (indexByte l 32).toNat) = 0 then none else some (kindOf (l.take (indexByte l 32).toNat), l.drop ((indexByte l 32).toNat + 1))
/-- a line begins with the word of a kind and a blank -/
def preB (k : Nat) (l : List UInt8) : Prop := l.take ((headL k).length + 1) = headL k ++ [32]
theorem indexByte_at : ∀ {h r : List UInt8} {c : UInt8}, (∀ x ∈ h, x ≠ c) → indexByte (h ++ c :: r) c = (h.length : Int)
  | [], r, c, _ => by simp [indexByte]
  | x :: h, r, c, hx => by
    have ih := indexByte_at (h := h) (r := r) (c := c) fun y hy => hx y (List.mem_cons_of_mem _ hy)
    have hne : (x == c) = false := by simpa using hx x (List.mem_cons_self ..)
    show indexByte (x :: (h ++ c :: r)) c = _
    unfold indexByte
    simp only [hne, ih, List.length_cons]
    rw [if_neg (by simp), if_neg (by first | (simp; done) | (simp; omega))]
    omega
theorem headOf_pre {k : Nat} {l : List UInt8} (h1 : 1 ≤ k) (h6 : k ≤ 6) (h : preB k l) : headOf l = some (k, l.drop ((headL k).length + 1)) := by
  have e : l = headL k ++ 32 :: l.drop ((headL k).length + 1) := by
    conv => lhs; rw [← List.take_append_drop ((headL k).length + 1) l, h]
    simp
  have hi : indexByte l 32 = ((headL k).length : Int) := by
    conv => lhs; rw [e]
    exact indexByte_at (head_blank k h6)
  have ht : l.take (headL k).length = headL k := by
    conv => lhs; rw [e]
    simp
  unfold headOf
  rw [hi, if_neg (by omega)]
  simp only [Int.toNat_natCast]
  rw [ht, kindOf_head k h1 h6, if_neg (by omega)]
theorem headOf_some {l r : List UInt8} {k : Nat} (h : headOf l = some (k, r)) : 1 ≤ k ∧ k ≤ 6 ∧ preB k l ∧ r = l.drop ((headL k).length + 1) := by
  unfold headOf at h
  split at h
  · cases h
  · split at h
    · cases h
    · rename_i h1 h2
      obtain ⟨j, hj⟩ : ∃ j : Nat, indexByte l 32 = (j : Int) := ⟨(indexByte l 32).toNat, by have := indexByte_ge l 32; omega⟩
      rw [hj] at h h2
      simp only [Int.toNat_natCast, Option.some.injEq, Prod.mk.injEq] at h h2
      obtain ⟨rfl, rfl⟩ := h
      have hw := kindOf_some h2
      have hs := (indexByte_some hj).1
      have hlt := indexByte_cut hj
      have hl : (headL (kindOf (l.take j))).length = j := by rw [← hw, List.length_take]; omega
      refine ⟨by omega, kindOf_le _, ?_, by rw [hl]⟩
      unfold preB
      rw [hl, ← hw, List.take_add_one, hs]
      rfl
theorem headOf_not {l : List UInt8} {k : Nat} (h : headOf l = none) (h1 : 1 ≤ k) (h6 : k ≤ 6) : ¬ preB k l := fun hp => by
  rw [headOf_pre h1 h6 hp] at h
  cases h
theorem headOf_other {l r : List UInt8} {k k' : Nat} (h : headOf l = some (k, r)) (h1 : 1 ≤ k') (h6 : k' ≤ 6) (hne : k' ≠ k) : ¬ preB k' l := fun hp => by
  rw [headOf_pre h1 h6 hp] at h
  cases h
  exact hne rfl
noncomputable def lineV (l : List UInt8) : Except Int Bk :=
  match headOf l with
  | none => .error 4
  | some (k, r) => if readE (bytes r) ≠ 0 then .error (readE (bytes r)) else if inE k (readP (bytes r)) ≠ 0 then .error (inE k (readP (bytes r))) else .ok ⟨k, readP (bytes r)⟩
theorem lineV_none {l : List UInt8} (h : headOf l = none) : lineV l = .error 4 := by unfold lineV; rw [h]
theorem lineV_read {l r : List UInt8} {k : Nat} (h : headOf l = some (k, r)) (he : readE (bytes r) ≠ 0) : lineV l = .error (readE (bytes r)) := by unfold lineV; rw [h]; simp only []; rw [if_pos he]
theorem lineV_in {l r : List UInt8} {k : Nat} (h : headOf l = some (k, r)) (he : readE (bytes r) = 0) (hi : inE k (readP (bytes r)) ≠ 0) : lineV l = .error (inE k (readP (bytes r))) := by unfold lineV; rw [h]; simp only []; rw [if_neg (by simp [he]), if_pos hi]
theorem lineV_ok {l r : List UInt8} {k : Nat} (h : headOf l = some (k, r)) (he : readE (bytes r) = 0) (hi : inE k (readP (bytes r)) = 0) : lineV l = .ok ⟨k, readP (bytes r)⟩ := by unfold lineV; rw [h]; simp only []; rw [if_neg (by simp [he]), if_neg (by simp [hi])]
/-- the blocks of a text, behind those that are there; or how many there are, and the error -/
noncomputable def docN : Nat → List Bk → List UInt8 → Except (Nat × Int) (List Bk)
  | _, o, [] => .ok o
  | 0, o, _ :: _ => .ok o
  | n + 1, o, c :: r =>
    if o.length = 256 then .error (256, 3) else
    if indexByte (c :: r) 10 = -1 then .error (o.length, 4) else
    match lineV ((c :: r).take (indexByte (c :: r) 10).toNat) with
    | .error e => .error (o.length, e)
    | .ok b => docN n (o ++ [b]) ((c :: r).drop ((indexByte (c :: r) 10).toNat + 1))
noncomputable def docV (s : List UInt8) : Except (Nat × Int) (List Bk) := docN s.length [] s
/-- the blocks o have been read, and the rest is to be read -/
def DocSt (s : List UInt8) (o : List Bk) (rest : List UInt8) : Prop := rest.length ≤ s.length ∧ ∀ n, rest.length ≤ n → docN n o rest = docV s
theorem docN_fuel : ∀ (n m : Nat) (o : List Bk) (l : List UInt8), l.length ≤ n → l.length ≤ m → docN n o l = docN m o l
  | 0, m, o, [], _, _ => by cases m <;> rfl
  | n + 1, 0, o, [], _, _ => rfl
  | n + 1, m + 1, o, [], _, _ => rfl
  | n + 1, m + 1, o, c :: r, hn, hm => by
    simp only [List.length_cons] at hn hm
    unfold docN
    have h : ∀ o j, docN n o ((c :: r).drop (j + 1)) = docN m o ((c :: r).drop (j + 1)) := fun o j => docN_fuel n m _ _ (by have := take_fuel (l := r) (j := j) c; omega) (by have := take_fuel (l := r) (j := j) c; omega)
    simp only [h]
theorem DocSt.start (s : List UInt8) : DocSt s [] s := ⟨Nat.le_refl _, fun _ h => docN_fuel _ _ _ _ h (Nat.le_refl _)⟩
theorem DocSt.done {s : List UInt8} {o : List Bk} (h : DocSt s o []) : docV s = .ok o := (h.2 0 (Nat.le_refl _)).symm
theorem DocSt.many {s rest : List UInt8} {o : List Bk} (h : DocSt s o rest) (hr : rest ≠ []) (ho : o.length = 256) : docV s = .error (256, 3) := by
  rw [← h.2 _ (Nat.le_refl _)]
  match rest, hr with
  | c :: r, _ =>
    simp only [List.length_cons, docN]
    rw [if_pos ho]
theorem DocSt.open {s rest : List UInt8} {o : List Bk} (h : DocSt s o rest) (hr : rest ≠ []) (ho : o.length ≠ 256) (hj : indexByte rest 10 = -1) : docV s = .error (o.length, 4) := by
  rw [← h.2 _ (Nat.le_refl _)]
  match rest, hr with
  | c :: r, _ =>
    simp only [List.length_cons, docN]
    rw [if_neg ho, if_pos hj]
theorem DocSt.bad {s rest : List UInt8} {o : List Bk} {j : Nat} {e : Int} (h : DocSt s o rest) (hr : rest ≠ []) (ho : o.length ≠ 256) (hj : indexByte rest 10 = (j : Int)) (he : lineV (rest.take j) = .error e) : docV s = .error (o.length, e) := by
  rw [← h.2 _ (Nat.le_refl _)]
  match rest, hr with
  | c :: r, _ =>
    simp only [List.length_cons, docN]
    rw [if_neg ho, if_neg (by rw [hj]; omega), hj]
    simp only [Int.toNat_natCast, he]
theorem DocSt.next {s rest : List UInt8} {o : List Bk} {j : Nat} {b : Bk} (h : DocSt s o rest) (hr : rest ≠ []) (ho : o.length ≠ 256) (hj : indexByte rest 10 = (j : Int)) (he : lineV (rest.take j) = .ok b) : DocSt s (o ++ [b]) (rest.drop (j + 1)) := by
  refine ⟨Nat.le_trans (by rw [List.length_drop]; omega) h.1, fun n hn => ?_⟩
  rw [← h.2 (max rest.length (n + 1)) (Nat.le_max_left _ _)]
  match rest, hr with
  | c :: r, _ =>
    obtain ⟨m, hm⟩ : ∃ m, max (c :: r).length (n + 1) = m + 1 := ⟨max (c :: r).length (n + 1) - 1, by omega⟩
    rw [hm, docN, if_neg ho, if_neg (by rw [hj]; omega), hj]
    simp only [Int.toNat_natCast, he]
    have := take_fuel (l := r) (j := j) c
    simp only [List.length_cons] at hm
    exact docN_fuel _ _ _ _ hn (by omega)
end Go.Proofs.YtnbeomclmggbiaaGreatDoor
