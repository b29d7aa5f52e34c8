/- Written forms as data: the tokens of a text, the pieces that they make, and that reading and writing undo each other. No run of any program here. Written forms as data, second part: the pieces of a text, step by step, as a reader goes through it. No run of any program here. The joiner: texts and pieces put one behind the other, as the program does it. -/
import Derived.Test.YtnkpjkomokkhcaaGreatDoorTxA
import Derived.Lib.TrimAscii
import Derived.Lib.Bytealg
import Derived.Test.YtnkpjkomokkhcaaGreatDoorDpC
import Derived.Laws.BytesString
import Derived.Deep.AppendLies
import Derived.Deep.RegionLaw
namespace Go.Proofs.YtnkpjkomokkhcaaGreatDoor
open Go Go.Lib
def textL (l : List UInt8) : Bool := validD l && (runesG l.length l).all fun r => !ctl r
theorem textB_L (s : ByteArray) : textB s = textL s.data.toList := rfl
theorem runesG_fuel : ∀ (n m : Nat) (l : List UInt8), l.length ≤ n → l.length ≤ m → runesG n l = runesG m l
  | 0, m, l, hn, _ => by
    have : l = [] := List.eq_nil_of_length_eq_zero (by omega)
    subst this
    cases m <;> simp [runesG]
  | n + 1, 0, l, _, hm => by
    have : l = [] := List.eq_nil_of_length_eq_zero (by omega)
    subst this
    simp [runesG]
  | n + 1, m + 1, l, hn, hm => by
    unfold runesG
    by_cases hne : l = []
    · simp [hne]
    · have hw := decodeL_width l
      have hl : 0 < l.length := List.length_pos_iff.2 hne
      rw [if_neg hne, if_neg hne, runesG_fuel n m (l.drop (decodeL l).2) (by rw [List.length_drop]; omega) (by rw [List.length_drop]; omega)]
theorem textL_nil : textL [] = true := rfl
theorem textL_step (l : List UInt8) (hne : l ≠ []) : textL l = (!(decide ((decodeL l).1 = 65533 ∧ (decodeL l).2 = 1)) && !ctl (decodeL l).1 && textL (l.drop (decodeL l).2)) := by
  have hl : 0 < l.length := List.length_pos_iff.2 hne
  have hw := decodeL_width l
  obtain ⟨n, hn⟩ : ∃ n, l.length = n + 1 := ⟨l.length - 1, by omega⟩
  unfold textL
  rw [validD_step l hne, hn]
  simp only [runesG, if_neg hne, List.all_cons]
  rw [runesG_fuel n (l.drop (decodeL l).2).length _ (by rw [List.length_drop]; omega) (Nat.le_refl _)]
  by_cases h : (decodeL l).1 = 65533 ∧ (decodeL l).2 = 1
  · simp [h]
  · rw [if_neg h]
    simp only [h, decide_false, Bool.not_false, Bool.true_and]
    cases validD (List.drop (decodeL l).2 l) <;> cases ctl (decodeL l).1 <;> simp
theorem decodeN_le (n b0 b1 b2 b3 : Nat) (hn : 1 ≤ n) : (decodeN n b0 b1 b2 b3).2 ≤ n := by
  unfold decodeN
  repeat' split
  all_goals (simp only []; omega)
theorem decodeL_le (l : List UInt8) (hne : l ≠ []) : (decodeL l).2 ≤ l.length := by
  rw [decodeL_N]
  exact decodeN_le _ _ _ _ _ (List.length_pos_iff.2 hne)
def plainA (c : UInt8) : Prop := c.toNat < 128 ∧ ctl c.toNat = false
/-! ### marks -/
theorem nameB_chars {s : ByteArray} (h : nameB s = true) : (∃ a n, s.data.toList = a :: n ∧ isL (a.toNat : Int) = true) ∧ (∀ b ∈ s.data.toList, isT (b.toNat : Int) = true) ∧ 1 ≤ s.size ∧ s.size ≤ 16 := by
  unfold nameB at h
  simp only [Bool.and_eq_true, decide_eq_true_eq] at h
  obtain ⟨⟨⟨h1, h2⟩, h3⟩, h4⟩ := h
  unfold allB at h4
  rw [List.all_eq_true] at h4
  refine ⟨?_, h4, h1, h2⟩
  have e : s.data.toList.length = s.size := rfl
  have hg : s.get! 0 = s.data.toList.getD 0 0 := by
    show s.data[0]! = _
    rw [getElem!_pos s.data 0 (by show 0 < s.size; omega), List.getD_eq_getElem?_getD, List.getElem?_eq_getElem (by omega)]
    simp
  rw [hg] at h3
  cases hl : s.data.toList with
  | nil => rw [hl] at e; simp at e; omega
  | cons a n => rw [hl] at h3; exact ⟨a, n, rfl, by simpa using h3⟩
/-- a list of bytes is the written form of a tag or a hole -/
def Mk (x : Pc) (s : List UInt8) : Prop := x.k ≠ 1 ∧ pieceE x = 0 ∧ s = wB x
theorem Mk.kinds {x : Pc} {s : List UInt8} (h : Mk x s) : nameB x.s = true ∧ s = markA x.k x.c ++ x.s.data.toList ++ markZ x.k ∧
    ((x.k = 2 ∧ markA x.k x.c = (if x.c then [60, 43] else [60]) ∧ markZ x.k = [62]) ∨ (x.k = 3 ∧ markA x.k x.c = (if x.c then [60, 47, 43] else [60, 47]) ∧ markZ x.k = [62]) ∨ (x.k = 4 ∧ x.c = false ∧ markA x.k x.c = [60] ∧ markZ x.k = [47, 62]) ∨ (x.k = 5 ∧ x.c = false ∧ markA x.k x.c = [123] ∧ markZ x.k = [125])) := by
  obtain ⟨h1, h2, h3⟩ := h
  unfold wB at h3
  rw [if_neg h1] at h3
  unfold pieceE at h2
  split at h2
  · omega
  · rename_i hk
    split at h2
    · omega
    · rename_i hc
      split at h2
      · rename_i hn
        refine ⟨hn, h3, ?_⟩
        have hk4 : x.k = 2 ∨ x.k = 3 ∨ x.k = 4 ∨ x.k = 5 := by omega
        rcases hk4 with e | e | e | e
        · left; refine ⟨e, ?_, ?_⟩ <;> (try unfold markA) <;> (try unfold markZ) <;> rw [e] <;> cases x.c <;> simp
        · right; left; refine ⟨e, ?_, ?_⟩ <;> (try unfold markA) <;> (try unfold markZ) <;> rw [e] <;> cases x.c <;> simp
        · have : x.c = false := by cases hx : x.c
                                   · rfl
                                   · exact absurd ⟨hx, by omega, by omega⟩ hc
          right; right; left; refine ⟨e, this, ?_, ?_⟩ <;> (try unfold markA) <;> (try unfold markZ) <;> rw [e] <;> (try rw [this]) <;> simp
        · have : x.c = false := by cases hx : x.c
                                   · rfl
                                   · exact absurd ⟨hx, by omega, by omega⟩ hc
          right; right; right; refine ⟨e, this, ?_, ?_⟩ <;> (try unfold markA) <;> (try unfold markZ) <;> rw [e] <;> (try rw [this]) <;> simp
      · omega
/-- a tag or a hole, back from its written form -/
def unMark (s : List UInt8) : Pc :=
  if s.getD 0 0 = 123 then ⟨5, bytes (s.drop 1).dropLast, false⟩
  else if s.getD 1 0 = 47 then (if s.getD 2 0 = 43 then ⟨3, bytes (s.drop 3).dropLast, true⟩ else ⟨3, bytes (s.drop 2).dropLast, false⟩)
  else if s.getD 1 0 = 43 then ⟨2, bytes (s.drop 2).dropLast, true⟩
  else if (s.drop 1).dropLast.getLast? = some 47 then ⟨4, bytes (s.drop 1).dropLast.dropLast, false⟩ else ⟨2, bytes (s.drop 1).dropLast, false⟩
theorem u8ne {a : UInt8} {n : Nat} (hn : n < 256) (h : isT (a.toNat : Int) = true) (hx : isT (n : Int) = false) : a ≠ UInt8.ofNat n := by
  rintro rfl
  rw [UInt8.toNat_ofNat_of_lt' (by omega)] at h
  rw [h] at hx; cases hx
theorem isL_isT {c : Int} (h : isL c = true) : isT c = true := by unfold isT; rw [h]; rfl
theorem unMark_of {x : Pc} {s : List UInt8} (h : Mk x s) : unMark s = x := by
  obtain ⟨hn, hs, hk⟩ := h.kinds
  obtain ⟨⟨a, n, ha, hl⟩, hall, _, _⟩ := nameB_chars hn
  have a47 : a ≠ 47 := u8ne (n := 47) (by decide) (isL_isT hl) (by decide)
  have a43 : a ≠ 43 := u8ne (n := 43) (by decide) (isL_isT hl) (by decide)
  obtain ⟨k, nm, c⟩ := x
  simp only at hk hs ha hall ⊢
  have hb : bytes (a :: n) = nm := by rw [← ha]; rfl
  have last : (a :: n).getLast? ≠ some 47 := by
    intro e
    have := List.mem_of_getLast? e
    rw [← ha] at this
    have := hall _ this
    revert this; decide
  rw [ha] at hs
  have d1 : ∀ (p : UInt8) (l : List UInt8), (p :: l).drop 1 = l := fun _ _ => rfl
  have d2 : ∀ (p q : UInt8) (l : List UInt8), (p :: q :: l).drop 2 = l := fun _ _ _ => rfl
  have d3 : ∀ (p q r : UInt8) (l : List UInt8), (p :: q :: r :: l).drop 3 = l := fun _ _ _ _ => rfl
  have g0 : ∀ z, ((a :: n) ++ [z]).getD 0 0 = a := fun _ => rfl
  have n1 : (60 : UInt8) ≠ 123 := by decide
  have n2 : (43 : UInt8) ≠ 47 := by decide
  rcases hk with ⟨rfl, h1, h2⟩ | ⟨rfl, h1, h2⟩ | ⟨rfl, rfl, h1, h2⟩ | ⟨rfl, rfl, h1, h2⟩
  · rw [h1, h2] at hs
    cases c
    · have e : s = 60 :: ((a :: n) ++ [62]) := hs
      subst e
      unfold unMark
      simp only [d1, List.getD_cons_zero, List.getD_cons_succ, g0, n1, a47, a43, if_false, List.dropLast_concat, last, hb]
    · have e : s = 60 :: 43 :: ((a :: n) ++ [62]) := hs
      subst e
      unfold unMark
      simp only [d2, List.getD_cons_zero, List.getD_cons_succ, n1, n2, if_false, if_true, List.dropLast_concat, hb]
  · rw [h1, h2] at hs
    cases c
    · have e : s = 60 :: 47 :: ((a :: n) ++ [62]) := hs
      subst e
      unfold unMark
      simp only [d2, List.getD_cons_zero, List.getD_cons_succ, g0, n1, a43, if_false, if_true, List.dropLast_concat, hb]
    · have e : s = 60 :: 47 :: 43 :: ((a :: n) ++ [62]) := hs
      subst e
      unfold unMark
      simp only [d3, List.getD_cons_zero, List.getD_cons_succ, n1, if_false, if_true, List.dropLast_concat, hb]
  · rw [h1, h2] at hs
    have e : s = 60 :: (((a :: n) ++ [47]) ++ [62]) := by rw [hs]; simp
    have g1 : (((a :: n) ++ [47]) ++ [62]).getD 0 0 = a := rfl
    subst e
    unfold unMark
    simp only [d1, List.getD_cons_zero, List.getD_cons_succ, g1, n1, a47, a43, if_false, List.dropLast_concat, List.getLast?_concat, if_true, hb]
  · rw [h1, h2] at hs
    have e : s = 123 :: ((a :: n) ++ [125]) := hs
    subst e
    unfold unMark
    simp only [d1, List.getD_cons_zero, if_true, List.dropLast_concat, hb]
theorem Mk.uniq {x y : Pc} {s : List UInt8} (h : Mk x s) (h' : Mk y s) : x = y := (unMark_of h).symm.trans (unMark_of h')
open Classical in
noncomputable def markOf (s : List UInt8) : Option Pc := if h : ∃ x, Mk x s then some h.choose else none
theorem markOf_of {x : Pc} {s : List UInt8} (h : Mk x s) : markOf s = some x := by
  unfold markOf
  have he : ∃ x, Mk x s := ⟨x, h⟩
  rw [dif_pos he]
  exact congrArg some (he.choose_spec.uniq h)
end Go.Proofs.YtnkpjkomokkhcaaGreatDoor
namespace Go.Proofs.YtnkpjkomokkhcaaGreatDoor
open Go Go.Lib
/-- a byte of a text, or a tag or a hole -/
abbrev Tok := UInt8 ⊕ Pc
def endOf (c : UInt8) : UInt8 := if c = 60 then 62 else 125
theorem take_fuel {l : List UInt8} {j : Nat} (c : UInt8) : ((c :: l).drop (j + 1)).length ≤ l.length := by simp
noncomputable def toksN : Nat → List UInt8 → Option (List Tok)
  | _, [] => some []
  | 0, _ :: _ => none
  | n + 1, c :: r =>
    if c = 92 then (if special (r.getD 0 0) then (toksN n (r.drop 1)).map (.inl (r.getD 0 0) :: ·) else none)
    else if c = 60 ∨ c = 123 then
      (if indexByte (c :: r) (endOf c) = -1 then none else
        match markOf ((c :: r).take ((indexByte (c :: r) (endOf c)).toNat + 1)) with
        | none => none
        | some x => (toksN n ((c :: r).drop ((indexByte (c :: r) (endOf c)).toNat + 1))).map (.inr x :: ·))
    else (toksN n r).map (.inl c :: ·)
theorem toksN_fuel : ∀ (n m : Nat) (l : List UInt8), l.length ≤ n → l.length ≤ m → toksN n l = toksN m l
  | 0, m, [], _, _ => by cases m <;> rfl
  | n + 1, 0, [], _, _ => rfl
  | n + 1, m + 1, [], _, _ => rfl
  | n + 1, m + 1, c :: r, hn, hm => by
    simp only [List.length_cons] at hn hm
    unfold toksN
    rw [toksN_fuel n m (r.drop 1) (by rw [List.length_drop]; omega) (by rw [List.length_drop]; omega), toksN_fuel n m r (by omega) (by omega)]
    have h : ∀ j, toksN n ((c :: r).drop (j + 1)) = toksN m ((c :: r).drop (j + 1)) := fun j => toksN_fuel n m _ (by have := take_fuel (l := r) (j := j) c; omega) (by have := take_fuel (l := r) (j := j) c; omega)
    rw [h]
noncomputable def toks (l : List UInt8) : Option (List Tok) := toksN l.length l
theorem toks_nil : toks [] = some [] := rfl
theorem toks_of {n : Nat} {l : List UInt8} (h : l.length ≤ n) : toksN n l = toks l := toksN_fuel _ _ _ h (Nat.le_refl _)
theorem special_not {c : UInt8} (h : special c = false) : c ≠ 92 ∧ c ≠ 60 ∧ c ≠ 123 := by
  refine ⟨?_, ?_, ?_⟩ <;> rintro rfl <;> revert h <;> decide
theorem toks_plain {c : UInt8} (r : List UInt8) (h : special c = false) : toks (c :: r) = (toks r).map (.inl c :: ·) := by
  obtain ⟨h1, h2, h3⟩ := special_not h
  unfold toks
  simp only [List.length_cons, toksN]
  rw [if_neg h1, if_neg (by rintro (h | h) <;> contradiction)]
theorem toks_esc {d : UInt8} (r : List UInt8) (h : special d = true) : toks (92 :: d :: r) = (toks r).map (.inl d :: ·) := by
  show toksN (r.length + 1 + 1) (92 :: d :: r) = _
  rw [toksN, if_pos rfl]
  simp only [List.getD_cons_zero, h, if_true, List.drop_succ_cons, List.drop_zero]
  rw [toks_of (by omega)]
theorem toks_mark {c : UInt8} {r : List UInt8} {j : Nat} {x : Pc} (hc : c = 60 ∨ c = 123) (hj : indexByte (c :: r) (endOf c) = (j : Int)) (hx : markOf ((c :: r).take (j + 1)) = some x) : toks (c :: r) = (toks ((c :: r).drop (j + 1))).map (.inr x :: ·) := by
  unfold toks
  simp only [List.length_cons, toksN]
  rw [if_neg (by rcases hc with rfl | rfl <;> decide), if_pos hc, if_neg (by rw [hj]; omega), hj]
  simp only [Int.toNat_natCast, hx]
  rw [toks_of (take_fuel c)]
  rfl
theorem toks_mark_bad {c : UInt8} {r : List UInt8} {j : Nat} (hc : c = 60 ∨ c = 123) (hj : indexByte (c :: r) (endOf c) = (j : Int)) (hx : markOf ((c :: r).take (j + 1)) = none) : toks (c :: r) = none := by
  unfold toks
  simp only [List.length_cons, toksN]
  rw [if_neg (by rcases hc with rfl | rfl <;> decide), if_pos hc, if_neg (by rw [hj]; omega), hj]
  simp only [Int.toNat_natCast, hx]
theorem toks_mark_end {c : UInt8} {r : List UInt8} (hc : c = 60 ∨ c = 123) (hj : indexByte (c :: r) (endOf c) = -1) : toks (c :: r) = none := by
  unfold toks
  simp only [List.length_cons, toksN]
  rw [if_neg (by rcases hc with rfl | rfl <;> decide), if_pos hc, if_pos hj]
/-! ### what tokens make -/
def flush (t : List UInt8) : List Pc := if t = [] then [] else [⟨1, bytes t, false⟩]
def joinF : List UInt8 → List Tok → List Pc
  | t, [] => flush t
  | t, .inl b :: ts => joinF (t ++ [b]) ts
  | t, .inr x :: ts => flush t ++ x :: joinF [] ts
noncomputable def readsB (text : List UInt8) : Option (List Pc) := (toks text).map (joinF [])
/-- so far the pieces o and the text t have been read, and the rest is to be read -/
def St (text : List UInt8) (o : List Pc) (t rest : List UInt8) : Prop := readsB text = (toks rest).map fun ts => o ++ joinF t ts
theorem St.byte {text : List UInt8} {o : List Pc} {t r : List UInt8} {c : UInt8} (h : St text o t (c :: r)) (hc : special c = false) : St text o (t ++ [c]) r := by
  unfold St at *
  rw [h, toks_plain r hc, Option.map_map]
  rfl
theorem St.plain {text : List UInt8} {o : List Pc} : ∀ {p t r : List UInt8}, St text o t (p ++ r) → (∀ c ∈ p, special c = false) → St text o (t ++ p) r
  | [], t, r, h, _ => by rw [List.append_nil]; exact h
  | c :: p, t, r, h, hp => by
    have := St.plain (p := p) (t := t ++ [c]) (r := r) (St.byte h (hp c (by simp))) (fun d hd => hp d (by simp [hd]))
    rwa [List.append_assoc] at this
theorem St.esc {text : List UInt8} {o : List Pc} {t r : List UInt8} {d : UInt8} (h : St text o t (92 :: d :: r)) (hd : special d = true) : St text o (t ++ [d]) r := by
  unfold St at *
  rw [h, toks_esc r hd, Option.map_map]
  rfl
theorem St.mark {text : List UInt8} {o : List Pc} {t r : List UInt8} {c : UInt8} {j : Nat} {x : Pc} (h : St text o t (c :: r)) (hc : c = 60 ∨ c = 123) (hj : indexByte (c :: r) (endOf c) = (j : Int)) (hx : Mk x ((c :: r).take (j + 1))) :
    St text (o ++ flush t ++ [x]) [] ((c :: r).drop (j + 1)) := by
  unfold St at *
  rw [h, toks_mark hc hj (markOf_of hx), Option.map_map]
  congr 1
  funext ts
  simp [joinF]
theorem St.done {text : List UInt8} {o : List Pc} {t : List UInt8} (h : St text o t []) : readsB text = some (o ++ flush t) := by
  unfold St at h
  rw [h, toks_nil]; rfl
/-- the text is ended where a mark follows, or nothing -/
theorem St.flush {text : List UInt8} {o : List Pc} {t rest : List UInt8} (h : St text o t rest) (hr : rest = [] ∨ ∃ c r, rest = c :: r ∧ (c = 60 ∨ c = 123)) : St text (o ++ flush t) [] rest := by
  unfold St at *
  rw [h]
  rcases hr with rfl | ⟨c, r, rfl, hc⟩
  · rw [toks_nil]
    simp [joinF, Go.Proofs.YtnkpjkomokkhcaaGreatDoor.flush]
  · by_cases hj : indexByte (c :: r) (endOf c) = -1
    · rw [toks_mark_end hc hj]; rfl
    · obtain ⟨j, hj⟩ : ∃ j : Nat, indexByte (c :: r) (endOf c) = (j : Int) := ⟨(indexByte (c :: r) (endOf c)).toNat, by have := indexByte_ge (c :: r) (endOf c); omega⟩
      cases hx : markOf ((c :: r).take (j + 1)) with
      | none => rw [toks_mark_bad hc hj hx]; rfl
      | some x =>
        rw [toks_mark hc hj hx, Option.map_map, Option.map_map]
        congr 1
        funext ts
        simp [joinF, Go.Proofs.YtnkpjkomokkhcaaGreatDoor.flush]
/-! ### text -/
theorem isT_plain {b : UInt8} (h : isT (b.toNat : Int) = true) : plainA b := by
  unfold isT isL at h
  simp only [Bool.or_eq_true, Bool.and_eq_true, decide_eq_true_eq] at h
  unfold plainA ctl
  simp only [Bool.or_eq_false_iff, decide_eq_false_iff_not]
  omega
theorem Mk.plain {x : Pc} {s : List UInt8} (h : Mk x s) : (∀ c ∈ s, plainA c) ∧ s ≠ [] := by
  obtain ⟨hn, hs, hk⟩ := h.kinds
  obtain ⟨_, hall, _, _⟩ := nameB_chars hn
  have p60 : plainA 60 := ⟨by decide, by decide⟩
  have p47 : plainA 47 := ⟨by decide, by decide⟩
  have p43 : plainA 43 := ⟨by decide, by decide⟩
  have p62 : plainA 62 := ⟨by decide, by decide⟩
  have p123 : plainA 123 := ⟨by decide, by decide⟩
  have p125 : plainA 125 := ⟨by decide, by decide⟩
  have key : (∀ c ∈ markA x.k x.c, plainA c) ∧ (∀ c ∈ markZ x.k, plainA c) ∧ markA x.k x.c ≠ [] := by
    rcases hk with ⟨_, h1, h2⟩ | ⟨_, h1, h2⟩ | ⟨_, _, h1, h2⟩ | ⟨_, _, h1, h2⟩ <;> rw [h1, h2]
    · cases x.c <;> simp [p60, p43, p62]
    · cases x.c <;> simp [p60, p43, p62, p47]
    · simp [p60, p62, p47]
    · simp [p123, p125]
  refine ⟨?_, ?_⟩
  · intro c hc
    rw [hs] at hc
    simp only [List.mem_append] at hc
    rcases hc with (hc | hc) | hc
    · exact key.1 c hc
    · exact isT_plain (hall c hc)
    · exact key.2.1 c hc
  · rw [hs]
    intro e
    have := congrArg List.length e
    simp only [List.length_append, List.length_nil] at this
    exact key.2.2 (List.eq_nil_of_length_eq_zero (by omega))
def okT (x : Pc) : Bool := decide (x.k ≠ 1) || textB x.s
/-! ### what Read returns -/
noncomputable def readV (s : ByteArray) : Option (List Pc) := if textB s = true then readsB s.data.toList else none
noncomputable def readE (s : ByteArray) : Int := if 65536 < s.size then 3 else match readV s with
  | none => 4
  | some l => checkE l
noncomputable def readP (s : ByteArray) : List Pc := if 65536 < s.size then [] else match readV s with
  | none => []
  | some l => if checkE l = 0 then l else []
end Go.Proofs.YtnkpjkomokkhcaaGreatDoor
namespace Go.Proofs.YtnkpjkomokkhcaaGreatDoor
open Go Go.RowKit
set_option maxRecDepth 100000
theorem info_pc : (Tryz.prog.info? 52).map (fun i => (i.zero, i.size, i.bytes)) = some (some (.agg #[.int .u8 0, .string ⟨#[]⟩, .bool false]), 3, 32) := by kernel_rfl
/-- below a bound all is as it was, but for one block -/
structure KeptBut (B b : Nat) (w w' : World) : Prop where
  os : w'.os = w.os
  tape : w'.tape = w.tape
  output : w'.output = w.output
  size : w.heap.size ≤ w'.heap.size
  block : ∀ k, k < B → k ≠ b → w'.heap[k]? = w.heap[k]?
theorem KeptBut.refl (B b : Nat) (w : World) : KeptBut B b w w := ⟨rfl, rfl, rfl, Nat.le_refl _, fun _ _ _ => rfl⟩
theorem KeptBut.trans {B b : Nat} {x y z : World} (h : KeptBut B b x y) (k : KeptBut B b y z) : KeptBut B b x z :=
  ⟨k.os.trans h.os, k.tape.trans h.tape, k.output.trans h.output, Nat.le_trans h.size k.size, fun i hi hb => (k.block i hi hb).trans (h.block i hi hb)⟩
theorem KeptBut.of {B b : Nat} {w w' : World} (h : Below B w w') : KeptBut B b w w' := ⟨h.os, h.tape, h.output, h.size, fun k hk _ => h.block k hk⟩
theorem KeptBut.below {B b C : Nat} {w w' : World} (h : KeptBut B b w w') (h1 : C ≤ B) (h2 : C ≤ b) : Below C w w' := ⟨h.os, h.tape, h.output, h.size, fun k hk => h.block k (by omega) (by omega)⟩
theorem KeptBut.alloc {B b : Nat} {a w : World} (h : KeptBut B b a w) (hB : B ≤ w.heap.size) (o : Obj) : KeptBut B b a (w.alloc o) :=
  h.trans (KeptBut.of ((Below.refl B w).alloc hB o))
theorem KeptBut.grown {B b : Nat} {a w w' : World} {row : Option Nat} (h : KeptBut B b a w) (hg : w.grownBy w' row) (hB : B ≤ w.heap.size) (hr : ∀ k, row = some k → B ≤ k) : KeptBut B b a w' :=
  h.trans (KeptBut.of ((Below.refl B w).grown hg hB hr))
theorem KeptBut.setCell {B b : Nat} {a w : World} (h : KeptBut B b a w) (j : Nat) (u : Value) : KeptBut B b a (w.setCell ⟨b, j, none⟩ u) :=
  h.trans ⟨rfl, rfl, rfl, by simp [World.setCell], fun k _ hk => Below.heap_setCell _ _ _ _ hk⟩
def cells3 (l : List Pc) : List Value := l.flatMap fun x => [.int .u8 x.k, .string x.s, .bool x.c]
/-- a slice of pieces that the call has made itself -/
def OwnP (B : Nat) (v : Value) (l : List Pc) (w : World) : Prop := w.ownsRow B 52 3 v l.length (cells3 l)
theorem OwnP.step {B : Nat} {v : Value} {l : List Pc} {w w' : World} (hb : Below w.heap.size w w') (h : OwnP B v l w) : OwnP B v l w' := ownsRow_step hb h
theorem OwnP.form {B : Nat} {v : Value} {l : List Pc} {w : World} (h : OwnP B v l w) : ∃ ao cap, v = .slice ao l.length cap := by
  rcases h.2 with ⟨hv, h0⟩ | ⟨g, cap, cur, hv, _⟩
  · exact ⟨none, 0, by rw [hv, h0]⟩
  · exact ⟨_, _, hv⟩
theorem OwnP.low {B : Nat} {v : Value} {l : List Pc} {w : World} (h : OwnP B v l w) : OwnP 0 v l w :=
  ⟨h.1, h.2.imp id fun ⟨g, cap, cur, e, _, r⟩ => ⟨g, cap, cur, e, Nat.zero_le _, r⟩⟩
theorem OwnP.nil (B : Nat) (w : World) : OwnP B (.slice none 0 0) [] w := World.ownsRow_nil _ _ _ _
theorem cells3_app (l m : List Pc) : cells3 (l ++ m) = cells3 l ++ cells3 m := by unfold cells3; simp
theorem OwnP.more {B : Nat} {v : Value} {l : List Pc} {x : Pc} {w : World} (h : w.ownsRow B 52 3 v (l.length + 1) (cells3 l ++ [.int .u8 x.k, .string x.s, .bool x.c])) : OwnP B v (l ++ [x]) w := by
  unfold OwnP
  rw [cells3_app, List.length_append]
  exact h
theorem cells3_get : ∀ (l : List Pc) (i j : Nat), i < l.length → j < 3 → (cells3 l)[i * 3 + j]? = some (pcF l i j)
  | x :: l, 0, j, _, hj => by
    unfold cells3 pcF
    match j, hj with
    | 0, _ => rfl
    | 1, _ => rfl
    | 2, _ => rfl
  | x :: l, i + 1, j, hi, hj => by
    have := cells3_get l i j (by simpa using hi) hj
    have e : (cells3 (x :: l))[(i + 1) * 3 + j]? = (cells3 l)[i * 3 + j]? := by
      rw [show (i + 1) * 3 + j = (i * 3 + j) + 1 + 1 + 1 by omega]
      rfl
    rw [e, this]
    unfold pcF
    simp
theorem OwnP.at {B : Nat} {v : Value} {l : List Pc} {w : World} (h : OwnP B v l w) : PcsAt w v l := by
  have hc := h
  rcases h.2 with ⟨rfl, h0⟩ | ⟨g, cap, cur, rfl, hg, hh, hn, hm, _⟩
  · exact ⟨none, 0, by rw [h0], by omega, by unfold maxLen; omega, fun h => by omega⟩
  · refine ⟨some ⟨g, 0, none⟩, cap, rfl, hn, hm, fun _ => ⟨_, rfl, lt_of_block hh, fun i j hi hj => ?_⟩⟩
    exact World.ownsRow.cells hc (g := g) rfl _ _ (cells3_get l i j hi hj)
theorem own_other {w : World} {B b sz : Nat} {e t : TypeId} {v : Value} {n : Nat} {xs : List Value} {cs : Array Value} (hown : w.ownsRow B e sz v n xs) (hb : w.heap[b]? = some (.cells cs t (0, 0))) (hne : e ≠ t) : v.ownBlock ≠ some b := by
  rcases hown.2 with ⟨rfl, _⟩ | ⟨g, cap, cur, rfl, _, hg, _⟩
  · simp [Value.ownBlock]
  · intro e'
    simp only [Value.ownBlock, Option.some.injEq] at e'
    subst e'
    rw [hg] at hb
    injection hb with hb
    injection hb with _ ht _
    exact hne ht
theorem own_apart {w : World} {B sz sz' : Nat} {e e' : TypeId} {v v' : Value} {n n' : Nat} {xs xs' : List Value} (h : w.ownsRow B e sz v n xs) (h' : w.ownsRow B e' sz' v' n' xs') (hne : e ≠ e') : v.ownBlock = none ∨ v.ownBlock ≠ v'.ownBlock := by
  rcases h'.2 with ⟨rfl, _⟩ | ⟨g, cap, cur, rfl, _, hg, _⟩
  · cases hv : v.ownBlock
    · exact .inl rfl
    · right; simp [Value.ownBlock]
  · right
    exact own_other h hg hne
/-- a joiner stands in a block of its own: its pieces, and the text that may go on -/
def JoinAt (B b : Nat) (o : List Pc) (t : List UInt8) (w : World) : Prop := 0 ≤ b ∧ ∃ vo vt, w.heap[b]? = some (.cells #[vo, vt] 66 (0, 0)) ∧ OwnP B vo o w ∧ OwnB B vt t w
theorem JoinAt.step {B b : Nat} {o : List Pc} {t : List UInt8} {w w' : World} (hb : Below w.heap.size w w') (h : JoinAt B b o t w) : JoinAt B b o t w' := by
  obtain ⟨h0, vo, vt, h1, h2, h3⟩ := h
  exact ⟨h0, vo, vt, by rw [hb.block b (lt_of_block h1)]; exact h1, h2.step hb, h3.step hb⟩
theorem JoinAt.lt {B b : Nat} {o : List Pc} {t : List UInt8} {w : World} (h : JoinAt B b o t w) : b < w.heap.size := by obtain ⟨_, vo, vt, hb, _⟩ := h; exact lt_of_block hb
theorem JoinAt.put {B b : Nat} {o : List Pc} {t : List UInt8} {w w' : World} {vo vt : Value} (hB : 0 ≤ b) (hw : w'.heap[b]? = some (.cells #[vo, vt] 66 (0, 0))) (hg : w.grownBy w' (some b)) (hb : ∃ cs, w.heap[b]? = some (.cells cs 66 (0, 0)))
    (ho : OwnP B vo o w) (ht : OwnB B vt t w) : JoinAt B b o t w' := by
  obtain ⟨cs, hb⟩ := hb
  exact ⟨hB, vo, vt, hw, ho.kept hg (.inr (own_other ho hb (by decide))), ht.kept hg (.inr (own_other ht hb (by decide)))⟩
theorem grown_setCell (w : World) (b k : Nat) (v : Value) : w.grownBy (w.setCell ⟨b, k, none⟩ v) (some b) :=
  ⟨rfl, rfl, rfl, by simp [World.setCell], fun k' _ hk => Below.heap_setCell _ _ _ _ (fun e => hk (by simp [e]))⟩
theorem JoinAt.putO {B b : Nat} {o : List Pc} {t : List UInt8} {w : World} {vo vo' vt : Value} (hB : 0 ≤ b) (hb : w.heap[b]? = some (.cells #[vo, vt] 66 (0, 0))) (ho : OwnP B vo' o w) (ht : OwnB B vt t w) : JoinAt B b o t (w.setCell ⟨b, 0, none⟩ vo') :=
  JoinAt.put hB (by simp [World.setCell, Array.getElem?_modify, hb]) (grown_setCell _ _ _ _) ⟨_, hb⟩ ho ht
theorem JoinAt.putT {B b : Nat} {o : List Pc} {t : List UInt8} {w : World} {vo vt vt' : Value} (hB : 0 ≤ b) (hb : w.heap[b]? = some (.cells #[vo, vt] 66 (0, 0))) (ho : OwnP B vo o w) (ht : OwnB B vt' t w) : JoinAt B b o t (w.setCell ⟨b, 1, none⟩ vt') :=
  JoinAt.put hB (by simp [World.setCell, Array.getElem?_modify, hb]) (grown_setCell _ _ _ _) ⟨_, hb⟩ ho ht
set_option maxHeartbeats 2000000 in
theorem putText_any (B b : Nat) (o : List Pc) (t : List UInt8) (s : ByteArray) (w : World) (h : JoinAt B b o t w) (hlen : t.length + s.size ≤ 100000000) (hBw : B ≤ w.heap.size) :
    Calls Tryz.prog 75 #[.pointer (some ⟨b, 0, none⟩), .string s] w fun e w' => e = .returned (.tuple #[]) ∧ JoinAt B b o (t ++ s.data.toList) w' ∧ KeptBut B b w w' := by
  obtain ⟨i0, hi, hz0, hz1, hz2⟩ := info_parts info_byte
  obtain ⟨hB, vo, vt, hbk, ho, ht⟩ := h
  have c1 : w.cell? ⟨b, 1, none⟩ = some vt := by rw [Lib.cell_of_heap hbk]; rfl
  have hown := ht
  unfold OwnB at hown
  have HO := Lib.hid ho
  have HT := Lib.hid ht
  have HBK := Lib.hid hbk
  clear ho ht
  go_enter Tryz.func75, Tryz.ntmps75
  go_wp2_with (at_builtin; refine Lib.wpList_append_own_string _ rfl _ _ 64 9 rfl B 5 i0 Tryz.underlying64 Tryz.underlying9 hi hz0 hz1 hz2 _ _ _ rfl hown s rfl ?c3 ?c4 ?c5 ?_)
  case c3 => unfold maxLen; omega
  case c4 => omega
  case c5 => omega
  intro v' w2 hown' hgrow _
  have hb2 : w2.heap[b]? = some (.cells #[vo, vt] 66 (0, 0)) := by
    rw [hgrow.block b (lt_of_block HBK.out) (fun e => own_other HT.out HBK.out (by decide) e.symm)]
    exact HBK.out
  have d1 : w2.cell? ⟨b, 1, none⟩ = some vt := by rw [Lib.cell_of_heap hb2]; rfl
  have f1 : w2.frozen? ⟨b, 1, none⟩ = false := Lib.frozen_of_heap hb2 1
  have ho2 : OwnP B vo o w2 := HO.out.kept hgrow (own_apart HO.out HT.out (by decide))
  have hT2 := OwnB.more (m := s.data.toList) hown'
  have HW := Lib.hid (JoinAt.putT hB hb2 ho2 hT2)
  obtain ⟨ao, cap, rfl⟩ := hT2.form
  have HB := Lib.hid (((KeptBut.refl B b w).grown hgrow hBw (fun k hk => (hown.lt k hk).1)).setCell 1 (.slice ao (t ++ s.data.toList).length cap))
  rw [show (t ++ s.data.toList).length = t.length + s.size by simp] at HW HB
  clear hown hown' hgrow ho2 hT2
  go_wp2
  go_end0
  exact ⟨rfl, HW.out, HB.out⟩
theorem own_cut {w : World} {B sz g n cap : Nat} {e : TypeId} {xs : List Value} (h : w.ownsRow B e sz (.slice (some ⟨g, 0, none⟩) n cap) n xs) : w.ownsRow B e sz (.slice (some ⟨g, 0, none⟩) 0 cap) 0 [] := by
  refine ⟨by simp, ?_⟩
  rcases h.2 with ⟨hv, _⟩ | ⟨g', cap', cur, hv, h1, h2, h3, h4, h5, h6⟩
  · cases hv
  · injection hv with hv1 hv2 hv3
    injection hv1 with hv1
    injection hv1 with hv1
    subst hv1 hv3
    exact .inr ⟨_, _, cur, rfl, h1, h2, by omega, h4, h5, by simp⟩
/-- but for the joiner, and for the row of its pieces, all is as it was -/
def Others (b : Nat) (w w' : World) : Prop := w.heap.size ≤ w'.heap.size ∧ ∀ vo, w.cell? ⟨b, 0, none⟩ = some vo → ∀ k, k < w.heap.size → k ≠ b → vo.ownBlock ≠ some k → w'.heap[k]? = w.heap[k]?
theorem Others.refl (b : Nat) (w : World) : Others b w w := ⟨Nat.le_refl _, fun _ _ _ _ _ _ => rfl⟩
set_option maxHeartbeats 4000000 in
theorem endText_any (B b : Nat) (o : List Pc) (t : List UInt8) (w : World) (h : JoinAt B b o t w) (hlen : t.length ≤ 100000000) (holen : o.length ≤ 1000000) (hBw : B ≤ w.heap.size) :
    Calls Tryz.prog 76 #[.pointer (some ⟨b, 0, none⟩)] w fun e w' => e = .returned (.tuple #[]) ∧ JoinAt B b (o ++ flush t) [] w' ∧ KeptBut B b w w' ∧ Others b w w' := by
  obtain ⟨i0, hi, hz0, hz1, hz2⟩ := info_parts info_pc
  have h0 := Lib.hid h
  obtain ⟨hB, vo, vt, hbk, ho, ht⟩ := h
  have c0 : w.cell? ⟨b, 0, none⟩ = some vo := by rw [Lib.cell_of_heap hbk]; rfl
  have c1 : w.cell? ⟨b, 1, none⟩ = some vt := by rw [Lib.cell_of_heap hbk]; rfl
  have hlt := lt_of_block hbk
  by_cases hne : t = []
  · subst hne
    obtain ⟨ao, cap, rfl⟩ := ht.form
    clear ho ht hbk
    go_enter Tryz.func76, Tryz.ntmps76
    go_wp2
    go_end0
    exact ⟨rfl, by have := h0.out; simpa [flush] using this, KeptBut.refl _ _ _, Others.refl _ _⟩
  · have hl := List.length_pos_iff.2 hne
    rcases ht.2 with ⟨_, hn0⟩ | ⟨g, cap, cur, rfl, _, _, hncap, hcapm, _, _⟩
    · omega
    have hcv := convert_own ht
    have hcv1 := convert_own (w := w.drew) ht
    have hI : (0 : Int) < (t.length : Int) := by omega
    have hF : flush t = [⟨1, bytes t, false⟩] := by unfold flush; rw [if_neg hne]
    have HF := Lib.hid hF
    clear hF
    have HO := Lib.hid ho
    have HT := Lib.hid ht
    have HBK := Lib.hid hbk
    have hown := ho
    unfold OwnP at hown
    clear ho ht hbk hne
    unfold maxLen at hcapm
    have q0 := Lib.hid (show 0 < 3 by decide)
    have q1 := Lib.hid (show o.length + 1 ≤ maxLen by unfold maxLen; omega)
    have q2 := Lib.hid (show (o.length + 1) * 32 ≤ 140737488355328 by omega)
    have q3 := Lib.hid (show B ≤ (w.alloc (.cells #[.int .u8 1, .string (bytes t), .bool false] 52)).heap.size by simp; omega)
    have q4 := Lib.hid (World.news_of_block (w := w.alloc (.cells #[.int .u8 1, .string (bytes t), .bool false] 52)) (B := w.heap.size) (cs := #[.int .u8 1, .string (bytes t), .bool false]) (t := 52) (fr := (0, 0)) (by show (w.heap.push _)[_]? = _; simp))
    have q5 := Lib.hid (hown.alloc (.cells #[.int .u8 1, .string (bytes t), .bool false] 52))
    have q6 := Lib.hid (show ∀ u ∈ ([.int .u8 1, .string (bytes t), .bool false] : List Value), u.oneCell' = true by intro u hu; simp at hu; rcases hu with rfl | rfl | rfl <;> rfl)
    have q7 := Lib.hid (show 0 < 1 by decide)
    clear hown
    go_enter Tryz.func76, Tryz.ntmps76
    go_wp2
    have mid : Hid (∀ g2 cap2 w2, World.ownsRow w2 B 52 3 (.slice (some ⟨g2, 0, none⟩) (o.length + 1) cap2) (o.length + 1) (cells3 o ++ [.int .u8 1, .string (bytes t), .bool false]) → World.grownBy (w.alloc (.cells #[.int .u8 1, .string (bytes t), .bool false] 52)).drew w2 vo.ownBlock →
        w2.cell? ⟨b, 0, none⟩ = some vo ∧ w2.cell? ⟨b, 1, none⟩ = some (.slice (some ⟨g, 0, none⟩) t.length cap) ∧ w2.frozen? ⟨b, 0, none⟩ = false ∧ w2.frozen? ⟨b, 1, none⟩ = false ∧
        Hid (JoinAt B b (o ++ [⟨1, bytes t, false⟩]) [] ((w2.setCell ⟨b, 0, none⟩ (.slice (some ⟨g2, 0, none⟩) (o.length + 1) cap2)).setCell ⟨b, 1, none⟩ (.slice (some ⟨g, 0, none⟩) 0 cap))) ∧ Hid (KeptBut B b w ((w2.setCell ⟨b, 0, none⟩ (.slice (some ⟨g2, 0, none⟩) (o.length + 1) cap2)).setCell ⟨b, 1, none⟩ (.slice (some ⟨g, 0, none⟩) 0 cap))) ∧ Hid (Others b w ((w2.setCell ⟨b, 0, none⟩ (.slice (some ⟨g2, 0, none⟩) (o.length + 1) cap2)).setCell ⟨b, 1, none⟩ (.slice (some ⟨g, 0, none⟩) 0 cap)))) := by
      intro g2 cap2 w2 hown2 hgrow2
      have hb2 : w2.heap[b]? = some (.cells #[vo, .slice (some ⟨g, 0, none⟩) t.length cap] 66 (0, 0)) := by
        rw [hgrow2.block b (by show b < (w.alloc _).heap.size; simp; omega) (fun e => own_other HO.out HBK.out (by decide) e.symm)]
        show (w.alloc _).heap[b]? = _
        rw [Below.heap_alloc _ _ _ hlt]
        exact HBK.out
      have d0 : w2.cell? ⟨b, 0, none⟩ = some vo := by rw [Lib.cell_of_heap hb2]; rfl
      have d1 : w2.cell? ⟨b, 1, none⟩ = some (.slice (some ⟨g, 0, none⟩) t.length cap) := by rw [Lib.cell_of_heap hb2]; rfl
      have f0 : w2.frozen? ⟨b, 0, none⟩ = false := Lib.frozen_of_heap hb2 0
      have f1 : w2.frozen? ⟨b, 1, none⟩ = false := Lib.frozen_of_heap hb2 1
      have ht2 : OwnB B (.slice (some ⟨g, 0, none⟩) t.length cap) t w2 := World.ownsRow.kept (w := w.alloc (.cells #[.int .u8 1, .string (bytes t), .bool false] 52)) (HT.out.alloc _) ⟨hgrow2.os, hgrow2.tape, hgrow2.output, hgrow2.size, hgrow2.block⟩ (own_apart HT.out HO.out (by decide))
      have HJ := Lib.hid (JoinAt.putO (o := o ++ [⟨1, bytes t, false⟩]) hB hb2 (OwnP.more (x := ⟨1, bytes t, false⟩) hown2) ht2)
      have HBEL := Lib.hid ((((KeptBut.refl B b w).alloc hBw (.cells #[.int .u8 1, .string (bytes t), .bool false] 52)).grown (w := w.alloc (.cells #[.int .u8 1, .string (bytes t), .bool false] 52)) (w' := w2) (row := vo.ownBlock) ⟨hgrow2.os, hgrow2.tape, hgrow2.output, hgrow2.size, hgrow2.block⟩ q3.out (fun k hk => (q5.out.lt k hk).1)))
      refine ⟨d0, d1, f0, f1, ?_, (HBEL.out.setCell 0 _).setCell 1 _, ?_⟩
      rotate_left
      · refine ⟨?_, fun vo' hvo' k hk hkb hkv => ?_⟩
        · have := hgrow2.size
          have h0 : (w.alloc (.cells #[.int .u8 1, .string (bytes t), .bool false] 52)).drew.heap.size = w.heap.size + 1 := by show (w.alloc _).heap.size = _; simp
          rw [h0] at this
          simp [World.setCell]; omega
        · have hv : vo' = vo := by rw [c0] at hvo'; exact (Option.some.inj hvo').symm
          subst hv
          rw [Below.heap_setCell _ _ _ _ (by exact hkb), Below.heap_setCell _ _ _ _ (by exact hkb), hgrow2.block k (by show k < (w.alloc _).heap.size; simp; omega) (fun e => hkv e.symm)]
          show (w.alloc _).heap[k]? = _
          rw [Below.heap_alloc _ _ _ hk]
      obtain ⟨_, vo', vt', k1, k2, k3⟩ := HJ.out
      have e1 : (w2.setCell ⟨b, 0, none⟩ (.slice (some ⟨g2, 0, none⟩) (o.length + 1) cap2)).heap[b]? = some (.cells #[.slice (some ⟨g2, 0, none⟩) (o.length + 1) cap2, .slice (some ⟨g, 0, none⟩) t.length cap] 66 (0, 0)) := by simp [World.setCell, Array.getElem?_modify, hb2]
      rw [e1] at k1
      injection k1 with k1
      injection k1 with k1 _ _
      have k4 : vo' = .slice (some ⟨g2, 0, none⟩) (o.length + 1) cap2 ∧ vt' = .slice (some ⟨g, 0, none⟩) t.length cap := by simpa using k1.symm
      obtain ⟨rfl, rfl⟩ := k4
      exact JoinAt.putT hB e1 k2 (own_cut k3)
    go_region_law (refine step_append_lies _ rfl (.tmp 12) (.tmp 19) 22 rfl B 52 i0 (.agg #[.int .u8 0, .string ⟨#[]⟩, .bool false]) 3 32 Tryz.underlying22 hi hz0 hz1 hz2 rfl q0.out vo o.length (cells3 o) (by simp [Act.eval]) q5.out ⟨w.heap.size, 0, none⟩ 1 1 [.int .u8 1, .string (bytes t), .bool false] (by simp [Act.eval]) rfl q4.out q6.out q7.out q1.out q2.out q3.out _ rfl ?_; intro g2 cap2 w2 hown2 hgrow2 hat2 hlt2; obtain ⟨d0, d1, f0, f1, HJ, HBEL, HOT⟩ := mid.out g2 cap2 w2 hown2 hgrow2; clear hown2 hgrow2 hat2 hlt2)
    all_goals
      go_wp2
      go_end0
      exact ⟨rfl, by rw [HF.out]; exact HJ.out, HBEL.out, HOT.out⟩
/-- one more piece put behind those of a joiner without a text -/
theorem join_push (B b : Nat) (o : List Pc) (x : Pc) (w : World) (h : JoinAt B b o [] w) (hBw : B ≤ w.heap.size) :
    Hid (B ≤ (w.alloc (.cells #[.int .u8 x.k, .string x.s, .bool x.c] 52)).heap.size) ∧
    Hid (∀ j u, (#[.int .u8 x.k, .string x.s, .bool x.c] : Array Value).toList[j]? = some u → (w.alloc (.cells #[.int .u8 x.k, .string x.s, .bool x.c] 52)).cell? ((⟨w.heap.size, 0, none⟩ : Addr).add j) = some u) ∧
    ∃ vo, Hid ((w.alloc (.cells #[.int .u8 x.k, .string x.s, .bool x.c] 52)).ownsRow B 52 3 vo o.length (cells3 o)) ∧ w.cell? ⟨b, 0, none⟩ = some vo ∧
      Hid (∀ g2 cap2 w2, World.ownsRow w2 B 52 3 (.slice (some ⟨g2, 0, none⟩) (o.length + 1) cap2) (o.length + 1) (cells3 o ++ [.int .u8 x.k, .string x.s, .bool x.c]) → World.grownBy (w.alloc (.cells #[.int .u8 x.k, .string x.s, .bool x.c] 52)).drew w2 vo.ownBlock →
        w2.cell? ⟨b, 0, none⟩ = some vo ∧ w2.frozen? ⟨b, 0, none⟩ = false ∧ Hid (JoinAt B b (o ++ [x]) [] (w2.setCell ⟨b, 0, none⟩ (.slice (some ⟨g2, 0, none⟩) (o.length + 1) cap2))) ∧ Hid (KeptBut B b w (w2.setCell ⟨b, 0, none⟩ (.slice (some ⟨g2, 0, none⟩) (o.length + 1) cap2)))) := by
  obtain ⟨hB, vo, vt, hbk, ho, ht⟩ := h
  have hlt := lt_of_block hbk
  have q3 : B ≤ (w.alloc (.cells #[.int .u8 x.k, .string x.s, .bool x.c] 52)).heap.size := by simp; omega
  have q5 := World.ownsRow.alloc ho (.cells #[.int .u8 x.k, .string x.s, .bool x.c] 52)
  refine ⟨q3, World.news_of_block (w := w.alloc (.cells #[.int .u8 x.k, .string x.s, .bool x.c] 52)) (B := w.heap.size) (cs := #[.int .u8 x.k, .string x.s, .bool x.c]) (t := 52) (fr := (0, 0)) (by show (w.heap.push _)[_]? = _; simp), vo, q5, by rw [Lib.cell_of_heap hbk]; rfl, ?_⟩
  intro g2 cap2 w2 hown2 hgrow2
  have hb2 : w2.heap[b]? = some (.cells #[vo, vt] 66 (0, 0)) := by
    rw [hgrow2.block b (by show b < (w.alloc _).heap.size; simp; omega) (fun e => own_other ho hbk (by decide) e.symm)]
    show (w.alloc _).heap[b]? = _
    rw [Below.heap_alloc _ _ _ hlt]
    exact hbk
  have ht2 : OwnB B vt [] w2 := World.ownsRow.kept (w := w.alloc (.cells #[.int .u8 x.k, .string x.s, .bool x.c] 52)) (World.ownsRow.alloc ht _) ⟨hgrow2.os, hgrow2.tape, hgrow2.output, hgrow2.size, hgrow2.block⟩ (own_apart ht ho (by decide))
  exact ⟨by rw [Lib.cell_of_heap hb2]; rfl, Lib.frozen_of_heap hb2 0, JoinAt.putO (o := o ++ [x]) hB hb2 (OwnP.more hown2) ht2,
    (((KeptBut.refl B b w).alloc hBw (.cells #[.int .u8 x.k, .string x.s, .bool x.c] 52)).grown (w := w.alloc (.cells #[.int .u8 x.k, .string x.s, .bool x.c] 52)) (w' := w2) (row := vo.ownBlock) ⟨hgrow2.os, hgrow2.tape, hgrow2.output, hgrow2.size, hgrow2.block⟩ q3 (fun k hk => (q5.lt k hk).1)).setCell 0 _⟩
set_option maxHeartbeats 4000000 in
theorem put_any (B b : Nat) (o : List Pc) (t : List UInt8) (x : Pc) (w : World) (h : JoinAt B b o t w) (hk : x.k ≠ 1) (hlen : t.length ≤ 100000000) (holen : o.length ≤ 1000000) (hBw : B ≤ w.heap.size) :
    Calls Tryz.prog 37 #[.pointer (some ⟨b, 0, none⟩), pcV x] w fun e w' => e = .returned (.tuple #[]) ∧ JoinAt B b (o ++ flush t ++ [x]) [] w' ∧ KeptBut B b w w' := by
  obtain ⟨i0, hi, hz0, hz1, hz2⟩ := info_parts info_pc
  have ag := Tryz.isAgg52
  have zg := Tryz.sizeOf52
  have hbx := below_box (w := w) (pcC x)
  have hblt := h.lt
  have hj := h.step hbx
  have hB1 : B ≤ (w.alloc (pcC x)).heap.size := Nat.le_trans hBw hbx.size
  have cE := endText_any B b o t _ hj hlen holen hB1
  have hX := Boxed.new w x
  have hfl : (o ++ flush t).length ≤ 1000001 := by unfold flush; split <;> simp <;> omega
  obtain ⟨hB, vo, vt, hbk, ho, ht⟩ := h
  have hvo := ho.lt
  have hkb : (x.k == 1) = false := beq_eq_false_iff_ne.2 hk
  have keep : Hid (∀ w2, Others b (w.alloc (pcC x)) w2 → Boxed w.heap.size x w2) := by
    intro w2 h2
    have e : w2.heap[w.heap.size]? = (w.alloc (pcC x)).heap[w.heap.size]? := h2.2 vo (by rw [Lib.cell_of_heap (show (w.alloc (pcC x)).heap[b]? = some (.cells #[vo, vt] 66 (0, 0)) by rw [Below.heap_alloc _ _ _ hblt]; exact hbk)]; rfl) _ (by simp) (by omega) (fun e => by have := (hvo _ e).2; omega)
    obtain ⟨x0, x1, x2, x3⟩ := hX
    exact ⟨(World.cell?_of_block (a := ⟨w.heap.size, 0, none⟩) e).trans x0, (World.cell?_of_block (a := ⟨w.heap.size, 1, none⟩) e).trans x1, (World.cell?_of_block (a := ⟨w.heap.size, 2, none⟩) e).trans x2, Nat.lt_of_lt_of_le (by simp) h2.1⟩
  have hBX := Lib.hid ((KeptBut.refl B b w).alloc hBw (pcC x))
  clear ho ht hvo hX hbx
  obtain ⟨k, s, c⟩ := x
  unfold pcV
  unfold pcC at cE keep hBX
  simp only at hkb
  have q0 := Lib.hid (show 0 < 3 by decide)
  have q1 := Lib.hid (show (o ++ flush t).length + 1 ≤ maxLen by unfold maxLen; omega)
  have q2 := Lib.hid (show ((o ++ flush t).length + 1) * 32 ≤ 140737488355328 by omega)
  have q6 := Lib.hid (show ∀ u ∈ ([.int .u8 k, .string s, .bool c] : List Value), u.oneCell' = true by intro u hu; simp at hu; rcases hu with rfl | rfl | rfl <;> rfl)
  have q7 := Lib.hid (show 0 < 1 by decide)
  have mid := Lib.hid (fun w2 hj2 hs2 => join_push B b (o ++ flush t) ⟨k, s, c⟩ w2 hj2 (Nat.le_trans hB1 hs2))
  clear hj hbk
  go_enter Tryz.func37, Tryz.ntmps37
  go_wp2_with (go_at_call 76; (with_reducible refine cE.mono ?_); rintro e w2 ⟨rfl, hj2, hb2, ho2⟩; obtain ⟨x0, x1, x2, x3⟩ := keep.out w2 ho2; have hbl2 := hj2.lt; have hm2 := mid.out w2 hj2 hb2.size; obtain ⟨q3, q4, vo2, q5, c02, M⟩ := hm2; have HB2 := Lib.hid (hBX.out.trans hb2); clear hj2 hb2 ho2)
  go_region_law (refine step_append_lies _ rfl (.tmp 17) (.tmp 19) 22 rfl B 52 i0 (.agg #[.int .u8 0, .string ⟨#[]⟩, .bool false]) 3 32 Tryz.underlying22 hi hz0 hz1 hz2 rfl q0.out vo2 (o ++ flush t).length (cells3 (o ++ flush t)) (by simp [Act.eval]) q5.out ⟨w2.heap.size, 0, none⟩ 1 1 [.int .u8 k, .string s, .bool c] (by simp [Act.eval]) rfl q4.out q6.out q7.out q1.out q2.out q3.out _ rfl ?_; intro g3 cap3 w3 hown3 hgrow3 hat3 hlt3; obtain ⟨e0, f0, HJ, HBEL⟩ := M.out g3 cap3 w3 hown3 hgrow3; clear hown3 hgrow3 hat3 hlt3)
  all_goals
    go_wp2
    go_end0
    rw [List.length_append] at HJ HBEL
    exact ⟨rfl, HJ.out, HB2.out.trans HBEL.out⟩
set_option maxHeartbeats 2000000 in
theorem done_any (B b : Nat) (o : List Pc) (t : List UInt8) (w : World) (h : JoinAt B b o t w) (hlen : t.length ≤ 100000000) (holen : o.length ≤ 1000000) (hBw : B ≤ w.heap.size) :
    Calls Tryz.prog 38 #[.pointer (some ⟨b, 0, none⟩)] w fun e w' => ∃ v, e = .returned v ∧ OwnP B v (o ++ flush t) w' ∧ KeptBut B b w w' := by
  have cE := endText_any B b o t _ h hlen holen hBw
  have open2 : Hid (∀ w2, JoinAt B b (o ++ flush t) [] w2 → ∃ vo, w2.cell? ⟨b, 0, none⟩ = some vo ∧ OwnP B vo (o ++ flush t) w2) := by
    rintro w2 ⟨_, vo, vt, hbk, ho, _⟩
    exact ⟨vo, by rw [Lib.cell_of_heap hbk]; rfl, ho⟩
  clear h
  go_enter Tryz.func38, Tryz.ntmps38
  go_wp2_with (go_at_call 76; (with_reducible refine cE.mono ?_); rintro e w2 ⟨rfl, hj2, hb2, ho2⟩; obtain ⟨vo, c0, hp⟩ := open2.out w2 hj2; have HP := Lib.hid hp; obtain ⟨ao, cap, rfl⟩ := HP.out.form; have HB := Lib.hid hb2; clear hj2 hb2 ho2 hp)
  go_ret
  exact ⟨.slice ao (o.length + (flush t).length) cap, rfl, by have h := HP.out; rw [List.length_append] at h; exact h, HB.out⟩
end Go.Proofs.YtnkpjkomokkhcaaGreatDoor
