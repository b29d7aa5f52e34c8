/- What text is: the decoder and the encoder undo each other just where a string is valid UTF-8; no run of any program here. Pieces as data: which lists are valid, how they are written. No run of any program here. -/
import Derived.Lib.ValidLaws
import Derived.Lib.MapLaws
import Derived.Laws.Cover4
import Derived.Laws.IdiomStrings
namespace Go.Proofs.YtnkpjkomokkhcaaGreatDoor
open Go Go.Lib
theorem u8 {b : UInt8} {n : Nat} (h : n = b.toNat) : UInt8.ofNat n = b := by subst h; exact UInt8.ofNat_toNat
theorem enc1 {c : Nat} (h : c < 128) : (Utf8.encode (c : Int)).data.toList = [UInt8.ofNat c] := by
  have hv : Utf8.valid (c : Int) = true := by simp [Utf8.valid]; omega
  unfold Utf8.encode; simp [hv, h]
theorem enc2 {c : Nat} (h : 128 ≤ c) (h2 : c < 2048) : (Utf8.encode (c : Int)).data.toList = [UInt8.ofNat (192 + c / 64), UInt8.ofNat (128 + c % 64)] := by
  have hv : Utf8.valid (c : Int) = true := by simp [Utf8.valid]; omega
  unfold Utf8.encode; simp [hv, h2, show ¬ c < 128 by omega]
theorem enc3 {c : Nat} (h : 2048 ≤ c) (h2 : c < 65536) (hv' : c < 55296 ∨ 57344 ≤ c) : (Utf8.encode (c : Int)).data.toList = [UInt8.ofNat (224 + c / 4096), UInt8.ofNat (128 + c / 64 % 64), UInt8.ofNat (128 + c % 64)] := by
  have hv : Utf8.valid (c : Int) = true := by simp [Utf8.valid]; omega
  unfold Utf8.encode; simp [hv, h2, show ¬ c < 128 by omega, show ¬ c < 2048 by omega]
theorem enc4 {c : Nat} (h : 65536 ≤ c) (h2 : c ≤ 1114111) : (Utf8.encode (c : Int)).data.toList = [UInt8.ofNat (240 + c / 262144), UInt8.ofNat (128 + c / 4096 % 64), UInt8.ofNat (128 + c / 64 % 64), UInt8.ofNat (128 + c % 64)] := by
  have hv : Utf8.valid (c : Int) = true := by simp [Utf8.valid]; omega
  unfold Utf8.encode; simp [hv, show ¬ c < 128 by omega, show ¬ c < 2048 by omega, show ¬ c < 65536 by omega]
/-- what the decoder takes is what the encoder gives, but for a byte that is no rune -/
theorem roundtrip (l : List UInt8) (hne : l ≠ []) (h : ¬ ((decodeL l).1 = 65533 ∧ (decodeL l).2 = 1)) : (Utf8.encode ((decodeL l).1 : Int)).data.toList = l.take (decodeL l).2 := by
  rw [decodeL_N] at h ⊢
  match l, hne with
  | b0 :: t, _ =>
    have k0 := b0.toNat_lt
    rcases t with _ | ⟨b1, t⟩
    · simp only [List.getD_cons_zero, List.length_cons, List.length_nil] at h ⊢
      unfold decodeN at h ⊢
      by_cases c0 : b0.toNat < 128
      · rw [if_pos c0]; rw [enc1 c0]; simp
      · rw [if_neg c0] at h ⊢; simp at h
    · have k1 := b1.toNat_lt
      rcases t with _ | ⟨b2, t⟩
      · simp only [List.getD_cons_zero, List.getD_cons_succ, List.length_cons, List.length_nil] at h ⊢
        unfold decodeN at h ⊢
        by_cases c0 : b0.toNat < 128
        · rw [if_pos c0]; rw [enc1 c0]; simp
        · rw [if_neg c0] at h ⊢
          by_cases c1 : b0.toNat / 32 = 6 ∧ (1 < 0 + 1 + 1 ∧ b1.toNat / 64 = 2)
          · rw [if_pos c1] at h ⊢
            by_cases c2 : b0.toNat % 32 * 64 + b1.toNat % 64 ≥ 128
            · rw [if_pos c2]
              rw [enc2 c2 (by omega)]
              simp only [List.take_succ_cons, List.take_zero]
              rw [u8 (b := b0) (by omega), u8 (b := b1) (by omega)]
            · rw [if_neg c2] at h; simp at h
          · rw [if_neg c1] at h ⊢; simp at h
      · have k2 := b2.toNat_lt
        rcases t with _ | ⟨b3, t⟩
        all_goals
          simp only [List.getD_cons_zero, List.getD_cons_succ, List.length_cons, List.length_nil] at h ⊢
          unfold decodeN at h ⊢
          by_cases c0 : b0.toNat < 128
          · rw [if_pos c0]; rw [enc1 c0]; simp
          · rw [if_neg c0] at h ⊢
            split at h
            · rename_i c1
              rw [if_pos c1]
              split at h
              · rename_i c2
                rw [if_pos c2, enc2 c2 (by omega)]
                simp only [List.take_succ_cons, List.take_zero]
                rw [u8 (b := b0) (by omega), u8 (b := b1) (by omega)]
              · simp at h
            · rename_i c1
              rw [if_neg c1]
              split at h
              · rename_i c2
                rw [if_pos c2]
                split at h
                · rename_i c3
                  rw [if_pos c3, enc3 (by omega) (by omega) (by omega)]
                  simp only [List.take_succ_cons, List.take_zero]
                  rw [u8 (b := b0) (by omega), u8 (b := b1) (by omega), u8 (b := b2) (by omega)]
                · simp at h
              · rename_i c2
                rw [if_neg c2]
                split at h
                · rename_i c3
                  rw [if_pos c3]
                  first
                  | (exfalso; omega)
                  | (have k3 := b3.toNat_lt
                     split at h
                     · rename_i c4
                       rw [if_pos c4, enc4 (by omega) (by omega)]
                       simp only [List.take_succ_cons, List.take_zero]
                       rw [u8 (b := b0) (by omega), u8 (b := b1) (by omega), u8 (b := b2) (by omega), u8 (b := b3) (by omega)]
                     · simp at h)
                · simp at h
theorem bad_head (rest : List UInt8) : decodeL ((Utf8.encode (65533 : Int)).data.toList ++ rest) = (65533, 3) := by
  have e : (Utf8.encode (65533 : Int)).data.toList = [239, 191, 189] := by decide +kernel
  rw [e, decodeL_N]
  simp only [List.cons_append, List.getD_cons_zero, List.getD_cons_succ, List.length_cons, List.nil_append]
  unfold decodeN
  have e0 : (239 : UInt8).toNat = 239 := rfl
  have e1 : (191 : UInt8).toNat = 191 := rfl
  have e2 : (189 : UInt8).toNat = 189 := rfl
  rw [e0, e1, e2]
  rw [if_neg (by omega), if_neg (by omega), if_pos (by omega), if_pos (by omega)]
/-- the runes of a text, as the decoder gives them -/
def runesG : Nat → List UInt8 → List Nat
  | 0, _ => []
  | n + 1, l => if l = [] then [] else (decodeL l).1 :: runesG n (l.drop (decodeL l).2)
def encAll (rs : List Nat) : List UInt8 := rs.flatMap fun r : Nat => (Utf8.encode (r : Int)).data.toList
theorem enc_iff : ∀ (n : Nat) (l : List UInt8), l.length ≤ n → (encAll (runesG n l) = l ↔ validGoD n l = true) := by
  intro n
  induction n with
  | zero => intro l h; cases l with
    | nil => simp [runesG, encAll, validGoD]
    | cons _ _ => simp at h
  | succ n ih =>
    intro l h
    by_cases hl : l = []
    · subst hl; simp [runesG, encAll, validGoD]
    · simp only [runesG, validGoD, if_neg hl]
      have hw := decodeL_width l
      by_cases hb : (decodeL l).1 = 65533 ∧ (decodeL l).2 = 1
      · rw [if_pos hb]
        simp only [encAll, List.flatMap_cons]
        constructor
        · intro e
          exfalso
          rw [hb.1] at e
          have := bad_head (List.flatMap (fun r : Nat => (Utf8.encode (r : Int)).data.toList) (runesG n (List.drop (decodeL l).2 l)))
          rw [show ((65533 : Nat) : Int) = 65533 from rfl] at e
          rw [e] at this
          rw [this] at hb
          simp at hb
        · intro e; cases e
      · rw [if_neg hb]
        rw [← ih (l.drop (decodeL l).2) (by simp; omega)]
        have hr := roundtrip l hl hb
        simp only [encAll, List.flatMap_cons]
        rw [hr]
        constructor
        · intro e
          have e' : List.take (decodeL l).2 l ++ List.flatMap (fun r : Nat => (Utf8.encode (r : Int)).data.toList) (runesG n (List.drop (decodeL l).2 l)) = List.take (decodeL l).2 l ++ List.drop (decodeL l).2 l := by rw [List.take_append_drop]; exact e
          exact List.append_cancel_left e'
        · intro e
          rw [e, List.take_append_drop]
end Go.Proofs.YtnkpjkomokkhcaaGreatDoor
namespace Go.Proofs.YtnkpjkomokkhcaaGreatDoor
open Go Go.Lib
structure Pc where
  k : Int
  s : ByteArray
  c : Bool
def ctl (r : Nat) : Bool := decide (r < 32) || decide (r = 127)
/-- text -/
def textB (s : ByteArray) : Bool := validD s.data.toList && (runesG s.data.toList.length s.data.toList).all fun r => !ctl r
def isL (c : Int) : Bool := decide (97 ≤ c) && decide (c ≤ 122)
def isT (c : Int) : Bool := isL c || (decide (48 ≤ c) && decide (c ≤ 57)) || decide (c = 45)
def allB (p : Int → Bool) (s : ByteArray) : Bool := s.data.toList.all fun b => p (b.toNat : Int)
/-- a name of tags and holes -/
def nameB (s : ByteArray) : Bool := decide (1 ≤ s.size) && decide (s.size ≤ 16) && isL ((s.get! 0).toNat : Int) && allB isT s
/-- the first error that a piece has by itself -/
def pieceE (x : Pc) : Int :=
  if x.k < 1 ∨ 5 < x.k then 1
  else if x.c = true ∧ x.k ≠ 2 ∧ x.k ≠ 3 then 1
  else if x.k = 1 then (if x.s.size = 0 ∨ textB x.s = false then 4 else 0)
  else if nameB x.s = true then 0 else 5
def coB (x : Pc) : Bool := decide (x.k = 2) && x.c
def ccB (x : Pc) : Bool := decide (x.k = 3) && x.c
def misB (a p : Pc) : Bool := (coB p && !coB a) || (ccB a && !ccB p)
def nbrE (a p : Pc) : Int := if p.k = 1 ∧ a.k = 1 then 4 else if misB a p = true then 8 else 0
def folE (op : List ByteArray) (x : Pc) : Except Int (List ByteArray) :=
  if x.k = 2 then (if op.length + 1 > 16 then .error 3 else .ok (op ++ [x.s]))
  else if x.k = 3 then (if op.getLast? = some x.s then .ok op.dropLast else .error 9)
  else .ok op
def nil : Pc := ⟨0, ⟨#[]⟩, false⟩
/-- the error of the piece at a place, of itself and of the one ahead of it -/
def hereE (l : List Pc) (i : Nat) : Int :=
  if pieceE (l.getD i nil) ≠ 0 then pieceE (l.getD i nil)
  else if i = 0 then 0 else nbrE (l.getD (i - 1) nil) (l.getD i nil)
/-- what the first i pieces leave open, or the first error -/
def runC (l : List Pc) : Nat → Except Int (List ByteArray)
  | 0 => .ok []
  | i + 1 => match runC l i with
    | .error e => .error e
    | .ok op => if hereE l i ≠ 0 then .error (hereE l i) else folE op (l.getD i nil)
def checkE (l : List Pc) : Int :=
  if 512 < l.length then 3 else match runC l l.length with
    | .error e => e
    | .ok op => if op = [] then 0 else 9
theorem runC_error {l : List Pc} {i : Nat} {e : Int} (h : runC l i = .error e) : ∀ n, i ≤ n → runC l n = .error e := by
  intro n hn
  induction n with
  | zero => obtain rfl : i = 0 := by omega
            exact h
  | succ n ih =>
    by_cases e' : i = n + 1
    · subst e'; exact h
    · simp only [runC, ih (by omega)]
theorem runC_ok {l : List Pc} {n : Nat} {op : List ByteArray} (h : runC l n = .ok op) : ∀ i, i ≤ n → ∃ o, runC l i = .ok o := by
  intro i hi
  cases e : runC l i with
  | ok o => exact ⟨o, rfl⟩
  | error x => rw [runC_error e n hi] at h; cases h
theorem runC_here {l : List Pc} {n : Nat} {op : List ByteArray} (h : runC l n = .ok op) : ∀ i, i < n → hereE l i = 0 := by
  intro i hi
  obtain ⟨o, ho⟩ := runC_ok h (i + 1) (by omega)
  simp only [runC] at ho
  cases e : runC l i with
  | error x => rw [e] at ho; cases ho
  | ok o' =>
    rw [e] at ho
    by_cases h0 : hereE l i = 0
    · exact h0
    · simp only [ne_eq, h0, not_false_eq_true, if_true] at ho; cases ho
theorem checkE_error {l : List Pc} {i : Nat} {e : Int} (h0 : ¬ 512 < l.length) (h : runC l i = .error e) (hi : i ≤ l.length) : checkE l = e := by
  unfold checkE
  rw [if_neg h0, runC_error h _ hi]
theorem checkE_ok {l : List Pc} {op : List ByteArray} (h0 : ¬ 512 < l.length) (h : runC l l.length = .ok op) : checkE l = if op = [] then 0 else 9 := by
  unfold checkE
  rw [if_neg h0, h]
theorem checkE_limit {l : List Pc} (h0 : 512 < l.length) : checkE l = 3 := by
  unfold checkE
  rw [if_pos h0]
theorem pieceE_zero {l : List Pc} {n : Nat} {op : List ByteArray} (h : runC l n = .ok op) : ∀ i, i < n → pieceE (l.getD i nil) = 0 := by
  intro i hi
  have := runC_here h i hi
  unfold hereE at this
  by_cases h0 : pieceE (l.getD i nil) = 0
  · exact h0
  · simp only [ne_eq, h0, not_false_eq_true, if_true] at this
theorem nbr_zero {l : List Pc} {n : Nat} {op : List ByteArray} (h : runC l n = .ok op) : ∀ i, i < n → 0 < i → misB (l.getD (i - 1) nil) (l.getD i nil) = false := by
  intro i hi h1
  have := runC_here h i hi
  unfold hereE at this
  rw [if_neg (by rw [pieceE_zero h i hi]; simp), if_neg (by omega)] at this
  unfold nbrE at this
  split at this
  · omega
  · split at this
    · omega
    · rename_i h; simpa using h
/-- a carried tag is out of place behind any piece ahead of it -/
def carB (l : List Pc) (i : Nat) : Bool := (List.range i).any fun k => misB (l.getD k nil) (l.getD i nil)
/-- it is enough to ask of the piece right ahead -/
theorem carB_eq {l : List Pc} {i : Nat} {op : List ByteArray} (h : runC l i = .ok op) (hi : 0 < i) : carB l i = misB (l.getD (i - 1) nil) (l.getD i nil) := by
  have hn := nbr_zero h
  have co : ∀ d k, k + d + 1 = i → coB (l.getD (i - 1) nil) = true → coB (l.getD k nil) = true := by
    intro d
    induction d with
    | zero => intro k hk hc; rw [show k = i - 1 by omega]; exact hc
    | succ d ih =>
      intro k hk hc
      have h1 := ih (k + 1) (by omega) hc
      have h2 := hn (k + 1) (by omega) (by omega)
      rw [show k + 1 - 1 = k by omega] at h2
      unfold misB at h2
      rw [h1] at h2
      cases hk : coB (l.getD k nil)
      · rw [hk] at h2; simp at h2
      · rfl
  have cc : ∀ d k, k + d + 1 = i → ccB (l.getD k nil) = true → ccB (l.getD (i - 1) nil) = true := by
    intro d
    induction d with
    | zero => intro k hk hc; rw [show i - 1 = k by omega]; exact hc
    | succ d ih =>
      intro k hk hc
      have h2 := hn (k + 1) (by omega) (by omega)
      rw [show k + 1 - 1 = k by omega] at h2
      unfold misB at h2
      rw [hc] at h2
      refine ih (k + 1) (by omega) ?_
      cases hk : ccB (l.getD (k + 1) nil)
      · rw [hk] at h2; simp at h2
      · rfl
  rw [Bool.eq_iff_iff]
  constructor
  · intro hc
    unfold carB at hc
    rw [List.any_eq_true] at hc
    obtain ⟨k, hk, hm⟩ := hc
    rw [List.mem_range] at hk
    unfold misB at hm ⊢
    rw [Bool.or_eq_true, Bool.and_eq_true, Bool.and_eq_true] at hm ⊢
    rcases hm with ⟨h1, h2⟩ | ⟨h1, h2⟩
    · left
      refine ⟨h1, ?_⟩
      cases hq : coB (l.getD (i - 1) nil)
      · rfl
      · rw [co (i - 1 - k) k (by omega) hq] at h2; simp at h2
    · right
      exact ⟨cc (i - 1 - k) k (by omega) h1, h2⟩
  · intro hm
    unfold carB
    rw [List.any_eq_true]
    exact ⟨i - 1, List.mem_range.2 (by omega), hm⟩
/-- the error of a piece as the specification tells it -/
def aloneE (l : List Pc) (i : Nat) : Int :=
  if (l.getD i nil).k < 1 ∨ 5 < (l.getD i nil).k then 1
  else if (l.getD i nil).c = true ∧ (l.getD i nil).k ≠ 2 ∧ (l.getD i nil).k ≠ 3 then 1
  else if (l.getD i nil).k = 1 ∧ ((l.getD i nil).s.size = 0 ∨ textB (l.getD i nil).s = false ∨ (0 < i ∧ (l.getD (i - 1) nil).k = 1)) then 4
  else if (l.getD i nil).k ≠ 1 ∧ nameB (l.getD i nil).s = false then 5 else 0
def refE (l : List Pc) (i : Nat) : Int := if aloneE l i ≠ 0 then aloneE l i else if carB l i = true then 8 else 0
theorem refE_eq {l : List Pc} {i : Nat} {op : List ByteArray} (h : runC l i = .ok op) : refE l i = hereE l i := by
  unfold refE hereE
  have hc : i ≠ 0 → carB l i = misB (l.getD (i - 1) nil) (l.getD i nil) := fun h0 => carB_eq h (by omega)
  have hc0 : i = 0 → carB l i = false := fun h0 => by subst h0; rfl
  unfold aloneE pieceE nbrE
  generalize l.getD (i - 1) nil = a at hc ⊢
  generalize l.getD i nil = x at hc ⊢
  generalize textB x.s = T at *
  generalize nameB x.s = N at *
  generalize carB l i = C at *
  generalize misB a x = M at *
  by_cases h1 : x.k < 1 ∨ 5 < x.k
  · simp [h1]
  · by_cases h2 : x.c = true ∧ x.k ≠ 2 ∧ x.k ≠ 3
    · simp [h1, h2]
    · rw [if_neg h1, if_neg h1, if_neg h2, if_neg h2]
      by_cases h3 : x.k = 1
      · by_cases hi : i = 0
        · have := hc0 hi
          subst hi
          cases T <;> by_cases h4 : x.s.size = 0 <;> simp [h3, h4, this]
        · have := hc hi
          have hi' : 0 < i := by omega
          cases T <;> by_cases h4 : x.s.size = 0 <;> by_cases h5 : a.k = 1 <;> simp [h3, h4, h5, this, hi, hi']
      · by_cases hi : i = 0
        · have := hc0 hi
          subst hi
          cases N <;> simp [h3, this]
        · have := hc hi
          cases N <;> simp [h3, this, hi]
/-- the written form -/
def special (b : UInt8) : Bool := b == 92 || b == 60 || b == 123
def esc (s : List UInt8) : List UInt8 := s.flatMap fun b => if special b then [92, b] else [b]
def markA (k : Int) (c : Bool) : List UInt8 := if k = 5 then [123] else if k = 3 then (if c then [60, 47, 43] else [60, 47]) else if c = true ∧ k = 2 then [60, 43] else [60]
def markZ (k : Int) : List UInt8 := if k = 5 then [125] else if k = 4 then [47, 62] else [62]
def wB (x : Pc) : List UInt8 := if x.k = 1 then esc x.s.data.toList else markA x.k x.c ++ x.s.data.toList ++ markZ x.k
def formB (l : List Pc) : List UInt8 := l.flatMap wB
def plainB (l : List Pc) : List UInt8 := l.flatMap fun x => if x.k = 1 then x.s.data.toList else []
def bytes (l : List UInt8) : ByteArray := ⟨l.toArray⟩
/-- the written form of a list, and the error -/
def writeB (l : List Pc) : List UInt8 := if checkE l ≠ 0 then [] else if 65536 < (formB l).length then [] else formB l
def writeE (l : List Pc) : Int := if checkE l ≠ 0 then checkE l else if 65536 < (formB l).length then 3 else 0
/-- not too long to be asked -/
def bulk (l : List Pc) : Nat := l.length + (l.map fun x => x.s.size).sum
theorem bulk_cons (x : Pc) (l : List Pc) : bulk (x :: l) = bulk l + x.s.size + 1 := by unfold bulk; simp; omega
theorem bulk_get {l : List Pc} {i : Nat} (hi : i < l.length) : l[i].s.size + l.length ≤ bulk l := by
  induction l generalizing i with
  | nil => simp at hi
  | cons x l ih =>
    rw [bulk_cons]
    cases i with
    | zero =>
      have : l.length ≤ bulk l := by unfold bulk; omega
      simp; omega
    | succ i =>
      have := ih (i := i) (by simpa using hi)
      simp; omega
end Go.Proofs.YtnkpjkomokkhcaaGreatDoor
