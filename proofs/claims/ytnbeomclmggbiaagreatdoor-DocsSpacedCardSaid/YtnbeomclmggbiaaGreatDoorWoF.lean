/- Spaced: texts put together; the words of what is put together. No run of any program here. Spaced: which lists are valid, as a fold; the spaced form of valid words is a valid list of these words. No run of any program here. Spaced: the spaced form of valid words is a valid list of these words. No run of any program here. Spaced: the words of a valid list are valid words. No run of any program here. The law DocsSpaced over any list of pieces and any words, given that the layer's examples hold. The law DocsSpaced over any list of pieces and any words, given that the layer's examples hold. -/
import Derived.Test.YtnbeomclmggbiaaGreatDoorWoE
import Derived.Test.YtnbeomclmggbiaaGreatDoorWo28
namespace Go.Proofs.YtnbeomclmggbiaaGreatDoor
open Go Go.RowKit Go.Lib
set_option maxRecDepth 100000
theorem decN_mono {n n' b0 b1 b2 b3 b1' b2' b3' : Nat} (hn : n ≤ n') (h1 : 1 < n → b1' = b1) (h2 : 2 < n → b2' = b2) (h3 : 3 < n → b3' = b3) (hv : ¬ ((decodeN n b0 b1 b2 b3).1 = 65533 ∧ (decodeN n b0 b1 b2 b3).2 = 1)) :
    decodeN n' b0 b1' b2' b3' = decodeN n b0 b1 b2 b3 := by
  unfold decodeN at hv ⊢
  by_cases c0 : b0 < 128
  · rw [if_pos c0, if_pos c0]
  rw [if_neg c0] at hv ⊢
  rw [if_neg c0]
  by_cases c1 : b0 / 32 = 6 ∧ (1 < n ∧ b1 / 64 = 2)
  · have e1 := h1 c1.2.1
    rw [if_pos c1, if_pos ⟨c1.1, by omega, by rw [e1]; exact c1.2.2⟩, e1]
  rw [if_neg c1] at hv ⊢
  by_cases c2 : b0 / 16 = 14 ∧ (1 < n ∧ b1 / 64 = 2) ∧ (2 < n ∧ b2 / 64 = 2)
  · have e1 := h1 c2.2.1.1
    have e2 := h2 c2.2.2.1
    rw [if_pos c2, if_neg (by omega), if_pos ⟨c2.1, ⟨by omega, by rw [e1]; exact c2.2.1.2⟩, by omega, by rw [e2]; exact c2.2.2.2⟩, e1, e2]
  rw [if_neg c2] at hv ⊢
  by_cases c3 : b0 / 8 = 30 ∧ (1 < n ∧ b1 / 64 = 2) ∧ (2 < n ∧ b2 / 64 = 2) ∧ (3 < n ∧ b3 / 64 = 2)
  · have e1 := h1 c3.2.1.1
    have e2 := h2 c3.2.2.1.1
    have e3 := h3 c3.2.2.2.1
    rw [if_pos c3, if_neg (by omega), if_neg (by omega), if_pos ⟨c3.1, ⟨by omega, by rw [e1]; exact c3.2.1.2⟩, ⟨by omega, by rw [e2]; exact c3.2.2.1.2⟩, by omega, by rw [e3]; exact c3.2.2.2.2⟩, e1, e2, e3]
  rw [if_neg c3] at hv
  exact absurd ⟨rfl, rfl⟩ hv
theorem getD_app {a b : List UInt8} {i : Nat} (h : i < a.length) : (a ++ b).getD i 0 = a.getD i 0 := by
  rw [List.getD_eq_getElem?_getD, List.getD_eq_getElem?_getD, List.getElem?_append_left h]
theorem dec_app {a b : List UInt8} (hne : a ≠ []) (hv : ¬ ((decodeL a).1 = 65533 ∧ (decodeL a).2 = 1)) : decodeL (a ++ b) = decodeL a := by
  have hl : 0 < a.length := List.length_pos_iff.2 hne
  rw [decodeL_N] at hv
  rw [decodeL_N, decodeL_N, getD_app hl]
  exact decN_mono (by rw [List.length_append]; omega) (fun h => by rw [getD_app h]) (fun h => by rw [getD_app h]) (fun h => by rw [getD_app h]) hv
/-- the runes of a text -/
def runesL (l : List UInt8) : List Nat := runesG l.length l
theorem runesL_nil : runesL [] = [] := rfl
theorem runesL_step {l : List UInt8} (hne : l ≠ []) : runesL l = (decodeL l).1 :: runesL (l.drop (decodeL l).2) := by
  have hl : 0 < l.length := List.length_pos_iff.2 hne
  have hw := decodeL_width l
  obtain ⟨n, hn⟩ : ∃ n, l.length = n + 1 := ⟨l.length - 1, by omega⟩
  unfold runesL
  rw [hn]
  simp only [runesG, if_neg hne]
  rw [runesG_fuel n (l.drop (decodeL l).2).length _ (by rw [List.length_drop]; omega) (Nat.le_refl _)]
theorem text_app : ∀ (n : Nat) (a b : List UInt8), a.length ≤ n → textL a = true → textL b = true → textL (a ++ b) = true ∧ runesL (a ++ b) = runesL a ++ runesL b
  | 0, a, b, h, _, hb => by
    obtain rfl : a = [] := List.eq_nil_of_length_eq_zero (by omega)
    exact ⟨hb, rfl⟩
  | n + 1, a, b, h, ha, hb => by
    by_cases hne : a = []
    · subst hne
      exact ⟨hb, rfl⟩
    · have hl : 0 < a.length := List.length_pos_iff.2 hne
      have hw := decodeL_width a
      have hle := decodeL_le a hne
      have hne2 : a ++ b ≠ [] := by simp [hne]
      rw [textL_step a hne] at ha
      simp only [Bool.and_eq_true, Bool.not_eq_true', decide_eq_false_iff_not] at ha
      obtain ⟨⟨h1, h2⟩, h3⟩ := ha
      have hd := dec_app (b := b) hne h1
      have hdr : (a ++ b).drop (decodeL a).2 = a.drop (decodeL a).2 ++ b := List.drop_append_of_le_length hle
      obtain ⟨i1, i2⟩ := text_app n (a.drop (decodeL a).2) b (by rw [List.length_drop]; omega) h3 hb
      refine ⟨?_, ?_⟩
      · rw [textL_step _ hne2, hd, hdr, i1, h2]
        simp [h1]
      · rw [runesL_step hne2, runesL_step hne, hd, hdr, i2]
        rfl
theorem textL_app {a b : List UInt8} (ha : textL a = true) (hb : textL b = true) : textL (a ++ b) = true := (text_app _ a b (Nat.le_refl _) ha hb).1
theorem runesL_app {a b : List UInt8} (ha : textL a = true) (hb : textL b = true) : runesL (a ++ b) = runesL a ++ runesL b := (text_app _ a b (Nat.le_refl _) ha hb).2
theorem enc_runes {t : List UInt8} (h : textL t = true) : encAll (runesL t) = t := by
  unfold textL at h
  rw [Bool.and_eq_true] at h
  exact (enc_iff t.length t (Nat.le_refl _)).2 h.1
def fwL (rs : List Nat) : List ByteArray × ByteArray := rs.foldl cutStep ([], ByteArray.empty)
/-- the row that a text ends with -/
def pend (t : List UInt8) : ByteArray := (fwL (runesL t)).2
/-- the words of a text -/
def wordsT (t : List UInt8) : List ByteArray := (fwL (runesL t)).1 ++ rowEnd (pend t)
theorem wordsP_text {s : ByteArray} {c : Bool} (h : textB s = true) : wordsP ⟨1, s, c⟩ = wordsT s.data.toList := by
  have e := cutPc_app [] ⟨1, s, c⟩ (fun _ => h)
  rw [List.nil_append] at e
  rw [← e]
  unfold cutPc cutRun
  rw [if_pos rfl, List.take_length]
  rfl
theorem isE_empty {s : ByteArray} (h : isE s = true) : s = ByteArray.empty := empty_of h
theorem rowEnd_empty : rowEnd ByteArray.empty = [] := by unfold rowEnd; rw [if_pos isE_nil]
theorem rowEnd_full {s : ByteArray} (h : 0 < s.size) : rowEnd s = [s] := by unfold rowEnd; rw [isE_no h]; rfl
theorem fold_in (L : List ByteArray) : ∀ (rs : List Nat) (r : ByteArray), rs.all inN = true → rs.foldl cutStep (L, r) = (L, r ++ bytes (encAll rs))
  | [], r, _ => by
    have : bytes (encAll []) = ByteArray.empty := rfl
    rw [this, ByteArray.append_empty]; rfl
  | x :: rs, r, h => by
    rw [List.all_cons, Bool.and_eq_true] at h
    rw [List.foldl_cons]
    have e : cutStep (L, r) x = (L, r ++ Utf8.encode (x : Int)) := by unfold cutStep; rw [if_pos h.1]
    rw [e, fold_in L rs _ h.2]
    apply congrArg (fun z => (L, z))
    apply ByteArray.ext
    apply Array.ext'
    simp [bytes, encAll]
theorem fwL_app (a b : List Nat) : fwL (a ++ b) = b.foldl cutStep (fwL a) := List.foldl_append
theorem text_blank : textL [32] = true := by decide +kernel
theorem runes_blank : runesL [32] = [32] := by decide +kernel
/-- a blank behind a text -/
theorem wT_blank {t : List UInt8} (h : textL t = true) : wordsT (t ++ [32]) = wordsT t ∧ pend (t ++ [32]) = ByteArray.empty := by
  have e : fwL (runesL (t ++ [32])) = ((fwL (runesL t)).1 ++ rowEnd (pend t), ByteArray.empty) := by
    rw [runesL_app h text_blank, runes_blank, fwL_app, List.foldl_cons, List.foldl_nil]
    unfold cutStep
    rw [if_neg (by decide), if_pos rfl, List.append_nil]
    rfl
  unfold wordsT pend
  rw [e]
  exact ⟨by rw [rowEnd_empty, List.append_nil]; rfl, rfl⟩
/-- a row behind a text that ends with none -/
theorem wT_row {t : List UInt8} {w : ByteArray} (h : textL t = true) (hp : pend t = ByteArray.empty) (hw : textL w.data.toList = true) (hr : (runesL w.data.toList).all inN = true) (hs : 0 < w.size) : wordsT (t ++ w.data.toList) = wordsT t ++ [w] := by
  have e : fwL (runesL (t ++ w.data.toList)) = ((fwL (runesL t)).1, w) := by
    rw [runesL_app h hw, fwL_app]
    have : fwL (runesL t) = ((fwL (runesL t)).1, ByteArray.empty) := by rw [← hp]; rfl
    rw [this, fold_in _ _ _ hr, enc_runes hw, ByteArray.empty_append]
    rfl
  unfold wordsT pend
  rw [e]
  unfold pend at hp
  rw [hp, rowEnd_empty, List.append_nil, rowEnd_full hs]
/-- a mark behind a text -/
theorem wT_mark {t : List UInt8} {w : ByteArray} {r : Nat} (h : textL t = true) (hw : textL w.data.toList = true) (hr : runesL w.data.toList = [r]) (hm : markN r = true) : wordsT (t ++ w.data.toList) = wordsT t ++ [w] ∧ pend (t ++ w.data.toList) = ByteArray.empty := by
  have hen : Utf8.encode (r : Int) = w := by
    have := enc_runes hw
    rw [hr] at this
    apply ByteArray.ext
    apply Array.ext'
    rw [← this]
    simp [encAll]
  have hi : inN r = false := by
    unfold markN at hm
    unfold inN
    simp only [Bool.and_eq_true, Bool.not_eq_true'] at hm
    rw [hm.1.2, hm.2]; rfl
  have h32 : r ≠ 32 := by
    unfold markN at hm
    simp only [Bool.and_eq_true, decide_eq_true_eq] at hm
    exact hm.1.1
  have e : fwL (runesL (t ++ w.data.toList)) = ((fwL (runesL t)).1 ++ rowEnd (pend t) ++ [w], ByteArray.empty) := by
    rw [runesL_app h hw, hr, fwL_app, List.foldl_cons, List.foldl_nil]
    unfold cutStep
    rw [if_neg (by rw [hi]; simp), if_neg h32, hen]
    rfl
  unfold wordsT pend
  rw [e]
  exact ⟨by rw [rowEnd_empty, List.append_nil]; rfl, rfl⟩
theorem wT_nil : wordsT [] = [] := by
  unfold wordsT pend
  show [] ++ rowEnd ByteArray.empty = _
  rw [rowEnd_empty]; rfl
theorem pend_nil : pend [] = ByteArray.empty := rfl
/-- a word is a row of letters and digits, or one mark -/
theorem row_kinds {s : ByteArray} (h : rowB s = true) : textL s.data.toList = true ∧ 0 < s.size ∧ ((runesL s.data.toList).all inN = true ∨ ∃ r, runesL s.data.toList = [r] ∧ markN r = true) := by
  have hs := row_size h
  unfold rowB at h
  simp only [Bool.and_eq_true, Bool.or_eq_true, decide_eq_true_eq] at h
  obtain ⟨h1, h2, h3⟩ := h
  refine ⟨h1, hs, ?_⟩
  rcases h3 with ⟨h4, h5⟩ | h3
  · right
    have e : runesL s.data.toList = runesOf s := rfl
    rw [e]
    match hq : runesOf s, h4 with
    | [r], _ => rw [hq] at h5; exact ⟨r, rfl, h5⟩
  · exact .inl h3
theorem marks_not : ∀ y ∈ marks8, ∃ c : UInt8, y.toList = [c] ∧ c.toNat < 128 ∧ inN c.toNat = false := by
  intro y hy
  simp only [marks8, List.mem_cons, List.not_mem_nil, or_false] at hy
  rcases hy with rfl | rfl | rfl | rfl | rfl | rfl | rfl | rfl <;> exact ⟨_, ByteArray.toList_eq _, by decide, by decide⟩
theorem opens_not : ∀ y ∈ opens2, ∃ c : UInt8, y.toList = [c] ∧ c.toNat < 128 ∧ inN c.toNat = false := by
  intro y hy
  simp only [opens2, List.mem_cons, List.not_mem_nil, or_false] at hy
  rcases hy with rfl | rfl <;> exact ⟨_, ByteArray.toList_eq _, by decide, by decide⟩
theorem runes_one {c : UInt8} (h : c.toNat < 128) : runesL [c] = [c.toNat] := by
  have hd : decodeL [c] = (c.toNat, 1) := by
    rw [decodeL_N]
    unfold decodeN
    exact if_pos h
  rw [runesL_step (by simp), hd]
  rfl
/-- a row is no mark -/
theorem row_no {L : List ByteArray} {s : ByteArray} (hL : ∀ y ∈ L, ∃ c : UInt8, y.toList = [c] ∧ c.toNat < 128 ∧ inN c.toNat = false) (hr : (runesL s.data.toList).all inN = true) : inB L s = false := by
  unfold inB
  rw [List.any_eq_false]
  intro y hy h
  obtain ⟨c, h1, h2, h3⟩ := hL y hy
  have h4 := eq_of_beq h
  rw [h1, ByteArray.toList_eq] at h4
  rw [← h4, runes_one h2] at hr
  simp [h3] at hr
end Go.Proofs.YtnbeomclmggbiaaGreatDoor
namespace Go.Proofs.YtnbeomclmggbiaaGreatDoor
open Go Go.RowKit Go.Lib
set_option maxRecDepth 100000
/-- the error with the piece ahead, if there is one -/
def nbO (a : Option Pc) (x : Pc) : Int := match a with
  | none => 0
  | some y => nbrE y x
abbrev St0 := Option (Option Pc × List ByteArray)
def stepC (s : St0) (x : Pc) : St0 := match s with
  | none => none
  | some (a, op) => if pieceE x = 0 ∧ nbO a x = 0 then (match folE op x with | .ok op' => some (some x, op') | .error _ => none) else none
def foldC (l : List Pc) : St0 := l.foldl stepC (some (none, []))
theorem foldC_snoc (l : List Pc) (x : Pc) : foldC (l ++ [x]) = stepC (foldC l) x := by unfold foldC; rw [List.foldl_append]; rfl
theorem stepC_some {s : St0} {x : Pc} {r : Option Pc × List ByteArray} (h : stepC s x = some r) : ∃ a op op', s = some (a, op) ∧ pieceE x = 0 ∧ nbO a x = 0 ∧ folE op x = .ok op' ∧ r = (some x, op') := by
  unfold stepC at h
  match s, h with
  | some (a, op), h =>
    dsimp only at h
    split at h
    · rename_i h1
      cases hf : folE op x with
      | ok op' => rw [hf] at h; cases h; exact ⟨a, op, op', rfl, h1.1, h1.2, hf, rfl⟩
      | error _ => rw [hf] at h; cases h
    · cases h
theorem stepC_of {a : Option Pc} {op op' : List ByteArray} {x : Pc} (h1 : pieceE x = 0) (h2 : nbO a x = 0) (h3 : folE op x = .ok op') : stepC (some (a, op)) x = some (some x, op') := by
  unfold stepC
  dsimp only
  rw [if_pos ⟨h1, h2⟩, h3]
/-- the state behind a list ends with its last piece -/
theorem foldC_last {l : List Pc} {a : Option Pc} {op : List ByteArray} (h : foldC l = some (a, op)) : a = l.getLast? := by
  rcases List.eq_nil_or_concat l with rfl | ⟨o, x, rfl⟩
  · cases h; rfl
  · rw [List.concat_eq_append] at h ⊢
    rw [foldC_snoc] at h
    obtain ⟨_, _, _, _, _, _, _, e⟩ := stepC_some h
    rw [List.getLast?_concat]
    exact congrArg Prod.fst e
theorem last_take {l : List Pc} {i : Nat} (hi : i ≤ l.length) (h0 : 0 < i) : (l.take i).getLast? = some (l.getD (i - 1) nil) := by
  obtain ⟨j, rfl⟩ : ∃ j, i = j + 1 := ⟨i - 1, by omega⟩
  rw [takeP_succ (by omega), List.getLast?_concat]
  rfl
theorem runC_fold (l : List Pc) : ∀ i, i ≤ l.length → ∀ op, runC l i = .ok op ↔ ∃ a, foldC (l.take i) = some (a, op)
  | 0, _, op => by
    constructor
    · intro h; cases h; exact ⟨none, rfl⟩
    · rintro ⟨a, h⟩; cases h; rfl
  | i + 1, hi, op => by
    have ih := runC_fold l i (by omega)
    have hnb : ∀ a op', foldC (l.take i) = some (a, op') → (hereE l i = 0 ↔ pieceE (l.getD i nil) = 0 ∧ nbO a (l.getD i nil) = 0) := by
      intro a op' h
      have ha := foldC_last h
      unfold hereE
      have hi0 : ¬ i = 0 → a = some (l.getD (i - 1) nil) := fun h0 => by rw [ha, last_take (by omega) (by omega)]
      have hz : i = 0 → a = none := fun h0 => by subst h0; rw [ha]; rfl
      generalize l.getD i nil = x
      generalize l.getD (i - 1) nil = y at *
      by_cases hp : pieceE x = 0
      · rw [if_neg (show ¬ pieceE x ≠ 0 from fun h => h hp)]
        by_cases h0 : i = 0
        · rw [if_pos h0, hz h0]
          exact ⟨fun _ => ⟨hp, rfl⟩, fun _ => rfl⟩
        · rw [if_neg h0, hi0 h0]
          exact ⟨fun h => ⟨hp, h⟩, fun h => h.2⟩
      · rw [if_pos (show pieceE x ≠ 0 from hp)]
        exact ⟨fun h => absurd h hp, fun h => absurd h.1 hp⟩
    rw [takeP_succ (by omega), foldC_snoc]
    constructor
    · intro h
      simp only [runC] at h
      cases e : runC l i with
      | error z => rw [e] at h; cases h
      | ok o =>
        rw [e] at h
        obtain ⟨a, ha⟩ := (ih o).1 e
        dsimp only at h
        split at h
        · cases h
        · rename_i hh
          have h1 := (hnb a o ha).1 (by simpa using hh)
          rw [ha, stepC_of h1.1 h1.2 h]
          exact ⟨_, rfl⟩
    · rintro ⟨a', h⟩
      obtain ⟨a, o, op', h1, h2, h3, h4, h5⟩ := stepC_some h
      cases h5
      have e := (ih o).2 ⟨a, h1⟩
      simp only [runC, e]
      rw [if_neg (by rw [(hnb a o h1).2 ⟨h2, h3⟩]; simp)]
      exact h4
/-- a list is valid just if it is short, and leaves nothing open -/
theorem checkE_fold (l : List Pc) : checkE l = 0 ↔ ¬ 512 < l.length ∧ ∃ a, foldC l = some (a, []) := by
  constructor
  · intro h
    have hall := h
    unfold checkE at h
    split at h
    · cases h
    · rename_i hl
      refine ⟨hl, ?_⟩
      cases e : runC l l.length with
      | error z =>
        exfalso
        have hv := all_valid hall
        rw [e] at h
        dsimp only at h
        subst h
        have key : ∀ n, runC l n ≠ .error 0 := by
          intro n
          induction n with
          | zero => intro h; cases h
          | succ n ih =>
            intro hop
            simp only [runC] at hop
            cases e : runC l n with
            | error x => rw [e] at hop; exact ih (by rw [e]; exact hop)
            | ok o =>
              rw [e] at hop
              dsimp only at hop
              split at hop
              · rename_i hh; injection hop with h0; exact hh h0
              · unfold folE at hop
                split at hop
                · split at hop <;> cases hop
                · split at hop
                  · split at hop <;> cases hop
                  · cases hop
        exact key _ e
      | ok op =>
        rw [e] at h
        dsimp only at h
        split at h
        · rename_i h0
          subst h0
          obtain ⟨a, ha⟩ := (runC_fold l l.length (Nat.le_refl _) []).1 e
          rw [List.take_length] at ha
          exact ⟨a, ha⟩
        · cases h
  · rintro ⟨hl, a, ha⟩
    have e := (runC_fold l l.length (Nat.le_refl _) []).2 ⟨a, by rw [List.take_length]; exact ha⟩
    rw [checkE_ok hl e, if_pos rfl]
/-- the first part of a list that does well does well -/
theorem foldC_take {l : List Pc} {r : Option Pc × List ByteArray} (h : foldC l = some r) (k : Nat) (hk : k ≤ l.length) : ∃ a op, foldC (l.take k) = some (a, op) := by
  obtain ⟨a, op⟩ := r
  have e := (runC_fold l l.length (Nat.le_refl _) op).2 ⟨a, by rw [List.take_length]; exact h⟩
  obtain ⟨o, ho⟩ := runC_ok e k hk
  obtain ⟨a', ha⟩ := (runC_fold l k hk o).1 ho
  exact ⟨a', o, ha⟩
/-- the words of a list -/
def wordsA (l : List Pc) : List ByteArray := l.flatMap wordsP
theorem wordsA_app (l m : List Pc) : wordsA (l ++ m) = wordsA l ++ wordsA m := List.flatMap_append
theorem wordsA_one (x : Pc) : wordsA [x] = wordsP x := by unfold wordsA; simp
theorem cutL_words {l : List Pc} (ht : ∀ i, i < l.length → (l.getD i nil).k = 1 → textB (l.getD i nil).s = true) : cutL l = wordsA l := by
  have key : ∀ k, k ≤ l.length → cutTo l k = wordsA (l.take k) := by
    intro k
    induction k with
    | zero => intro _; rfl
    | succ k ih =>
      intro hk
      rw [cutTo_step (by omega) ht, ih (by omega), takeP_succ (by omega), wordsA_app, wordsA_one]
  unfold cutL
  rw [key _ (Nat.le_refl _), List.take_length]
theorem wordsP_tag {x : Pc} (h : x.k ≠ 1) : wordsP x = [bytes (wB x)] := by unfold wordsP; rw [if_neg h]
theorem wordsA_flush {t : List UInt8} (h : textL t = true) : wordsA (flush t) = wordsT t := by
  unfold flush
  split
  · rename_i e; subst e; rw [wT_nil]; rfl
  · rw [wordsA_one]
    exact wordsP_text (s := bytes t) (by rw [textB_L]; exact h)
theorem text_piece {t : List UInt8} (h : textL t = true) (hne : t ≠ []) : pieceE ⟨1, bytes t, false⟩ = 0 := by
  have hs : (bytes t).size ≠ 0 := by
    rw [bsize]
    intro h0
    exact hne (List.eq_nil_of_length_eq_zero h0)
  have ht : textB (bytes t) = true := by rw [textB_L]; exact h
  unfold pieceE
  simp [hs, ht]
end Go.Proofs.YtnbeomclmggbiaaGreatDoor
namespace Go.Proofs.YtnbeomclmggbiaaGreatDoor
open Go Go.RowKit Go.Lib
set_option maxRecDepth 100000
theorem nb_zero {a p : Pc} : nbrE a p = 0 ↔ ¬ (p.k = 1 ∧ a.k = 1) ∧ misB a p = false := by
  unfold nbrE
  by_cases h : p.k = 1 ∧ a.k = 1
  · rw [if_pos h]; simp [h]
  · rw [if_neg h]
    cases hm : misB a p <;> simp [h]
def flg (a : Option Pc) : Option (Bool × Bool) := a.map fun y => (coB y, ccB y)
structure SpV (ws : List ByteArray) (k : Nat) (st : Js) (aH : Option Pc) (op : List ByteArray) : Prop where
  words : wordsA st.o ++ wordsT st.t = ws.take k
  text : textL st.t = true
  pending : isE (pend st.t) = false → st.due = true ∧ inB opens2 st.last.s = false
  fold : ∃ aJ, foldC st.o = some (aJ, op) ∧ (∀ z, aJ = some z → z.k ≠ 1) ∧ (st.t = [] → flg aJ = flg aH) ∧ (st.t ≠ [] → (∀ z, aJ = some z → ccB z = false) ∧ ∃ y, aH = some y ∧ coB y = false ∧ ccB y = false)
  dueH : st.due = true → ∃ y, aH = some y ∧ coB y = false
theorem js1_cases (l : List Pc) (k : Nat) (x : Pc) (st : Js) : ∃ t' due', js1 l k x st = ⟨st.o, t', st.last, due'⟩ ∧
    ((t' = st.t ∧ due' = st.due ∧ (st.due = false ∨ x.k = 3)) ∨ (st.due = true ∧ x.k ≠ 3 ∧ due' = false ∧ ((sepB l k st.last = false ∧ t' = st.t) ∨ (sepB l k st.last = true ∧ t' = st.t ++ [32])))) := by
  unfold js1
  by_cases h : st.due = true ∧ x.k ≠ 3
  · rw [if_pos h]
    refine ⟨_, _, rfl, .inr ⟨h.1, h.2, rfl, ?_⟩⟩
    cases hs : sepB l k st.last
    · exact .inl ⟨rfl, by rw [if_neg (by simp)]⟩
    · exact .inr ⟨rfl, by rw [if_pos rfl]⟩
  · rw [if_neg h]
    refine ⟨st.t, st.due, rfl, .inl ⟨rfl, rfl, ?_⟩⟩
    cases hd : st.due
    · exact .inl rfl
    · right
      rw [hd] at h
      simpa using h
theorem co_text {t : ByteArray} : coB ⟨1, t, false⟩ = false := rfl
theorem cc_text {t : ByteArray} : ccB ⟨1, t, false⟩ = false := rfl
theorem mis_split {a p : Pc} (h : misB a p = false) : (coB p = true → coB a = true) ∧ (ccB a = true → ccB p = true) := by
  unfold misB at h
  cases h1 : coB p <;> cases h2 : coB a <;> cases h3 : ccB a <;> cases h4 : ccB p <;> simp_all
theorem mis_of {a p : Pc} (h1 : coB p = true → coB a = true) (h2 : ccB a = true → ccB p = true) : misB a p = false := by
  unfold misB
  cases e1 : coB p <;> cases e2 : coB a <;> cases e3 : ccB a <;> cases e4 : ccB p <;> simp_all
/-- a text is put behind, then a tag or a hole -/
theorem push_other {ws : List ByteArray} {k : Nat} {st : Js} {aH : Option Pc} {op op' : List ByteArray} {x : Pc} {t' : List UInt8} (h : SpV ws k st aH op) (hx : x.k ≠ 1) (h1 : pieceE x = 0) (h2 : nbO aH x = 0) (h3 : folE op x = .ok op')
    (ht : t' = st.t ∨ (t' = st.t ++ [32] ∧ st.due = true ∧ x.k ≠ 3)) :
    foldC (st.o ++ flush t' ++ [x]) = some (some x, op') ∧ wordsA (st.o ++ flush t' ++ [x]) = ws.take k ++ wordsP x := by
  obtain ⟨hw, htx, hpd, ⟨aJ, f1, f2, f3, f4⟩, hdue⟩ := h
  have htx' : textL t' = true := by
    rcases ht with rfl | ⟨rfl, _⟩
    · exact htx
    · exact textL_app htx text_blank
  have hwt : wordsT t' = wordsT st.t := by
    rcases ht with rfl | ⟨rfl, _⟩
    · rfl
    · exact (wT_blank htx).1
  refine ⟨?_, by rw [wordsA_app, wordsA_app, wordsA_one, wordsA_flush htx', hwt, hw]⟩
  rw [foldC_snoc]
  by_cases hne : t' = []
  · have e : flush t' = [] := by unfold flush; rw [if_pos hne]
    rw [e, List.append_nil, f1]
    have h0 : st.t = [] := by
      rcases ht with rfl | ⟨rfl, _⟩
      · exact hne
      · simp at hne
    have hfl := f3 h0
    refine stepC_of h1 ?_ h3
    cases aJ with
    | none => rfl
    | some z =>
      cases aH with
      | none => cases hfl
      | some y =>
        simp only [flg, Option.map_some, Option.some.injEq, Prod.mk.injEq] at hfl
        have hm := (nb_zero.1 (show nbrE y x = 0 from h2)).2
        refine nb_zero.2 ⟨fun hh => hx hh.1, ?_⟩
        unfold misB at hm ⊢
        rw [hfl.1, hfl.2]
        exact hm
  · have e : flush t' = [⟨1, bytes t', false⟩] := by unfold flush; rw [if_neg hne]
    rw [e, foldC_snoc, f1]
    have key : (∀ z, aJ = some z → ccB z = false) ∧ coB x = false := by
      by_cases h0 : st.t = []
      · rcases ht with rfl | ⟨rfl, hd, h3k⟩
        · exact absurd h0 hne
        · obtain ⟨y, rfl, hy⟩ := hdue hd
          have hm := mis_split (nb_zero.1 (show nbrE y x = 0 from h2)).2
          have hcc : ccB x = false := by unfold ccB; simp [h3k]
          have hyc : ccB y = false := by
            cases e : ccB y
            · rfl
            · have := hm.2 e; rw [hcc] at this; cases this
          refine ⟨fun z hz => ?_, ?_⟩
          · have hfl := f3 h0
            rw [hz] at hfl
            simp only [flg, Option.map_some, Option.some.injEq, Prod.mk.injEq] at hfl
            rw [hfl.2]; exact hyc
          · cases e : coB x
            · rfl
            · have := hm.1 e; rw [hy] at this; cases this
      · obtain ⟨g1, y, rfl, hy, _⟩ := f4 h0
        refine ⟨g1, ?_⟩
        have hm := mis_split (nb_zero.1 (show nbrE y x = 0 from h2)).2
        cases e : coB x
        · rfl
        · have := hm.1 e; rw [hy] at this; cases this
    have s1 : stepC (some (aJ, op)) ⟨1, bytes t', false⟩ = some (some ⟨1, bytes t', false⟩, op) := by
      refine stepC_of (text_piece htx' hne) ?_ rfl
      cases aJ with
      | none => rfl
      | some z =>
        refine nb_zero.2 ⟨fun hh => f2 z rfl hh.2, mis_of (fun h => ?_) (fun h => ?_)⟩
        · rw [co_text] at h; cases h
        · rw [key.1 z rfl] at h; cases h
    rw [s1]
    refine stepC_of h1 (nb_zero.2 ⟨fun hh => hx hh.1, mis_of (fun h => ?_) (fun h => ?_)⟩) h3
    · rw [key.2] at h; cases h
    · rw [cc_text] at h; cases h
theorem Mk.bytes {x : Pc} {s : ByteArray} (h : Mk x s.data.toList) : Go.Proofs.YtnbeomclmggbiaaGreatDoor.bytes (wB x) = s := by
  rw [← h.2.2]; rfl
theorem takeW_succ {ws : List ByteArray} {k : Nat} (h : k < ws.length) : ws.take (k + 1) = ws.take k ++ [ws.getD k ByteArray.empty] := takeS_succ h
/-- one word more -/
theorem SpV.next {ws : List ByteArray} (hok : okW ws = true) {k : Nat} (hk : k < ws.length) {st : Js} {aH : Option Pc} {op : List ByteArray} (h : SpV ws k st aH op) {r : Option Pc × List ByteArray}
    (hs : stepC (some (aH, op)) (holeW (pieceW (ws.getD k ByteArray.empty)).1) = some r) :
    SpV ws (k + 1) (js3 (pieceW (ws.getD k ByteArray.empty)).1 (js2 (pieceW (ws.getD k ByteArray.empty)).1 (js1 (pcsL ws) k (pieceW (ws.getD k ByteArray.empty)).1 st))) r.1 r.2 := by
  have hw := okW_get hok hk
  have htk := takeW_succ hk
  have hfind := first_same ws k
  have hdrop := dropS_cons hk
  have htp := tagW_piece (ws.getD k ByteArray.empty)
  obtain ⟨t', due', hj1, hcase⟩ := js1_cases (pcsL ws) k (pieceW (ws.getD k ByteArray.empty)).1 st
  rw [hj1]
  rw [hdrop] at hfind
  generalize ws.getD k ByteArray.empty = s at *
  obtain ⟨a, o, op', e0, h1, h2, h3, e1⟩ := stepC_some hs
  cases e0
  rcases word_cases hw with hm | ⟨hx, hrow⟩
  · have hk1 := hm.1
    have hb := hm.bytes
    generalize (pieceW s).1 = x at *
    have hh : holeW x = x := by unfold holeW; rw [if_neg hk1]
    rw [hh] at h1 h2 h3 e1
    have ht : t' = st.t ∨ (t' = st.t ++ [32] ∧ st.due = true ∧ x.k ≠ 3) := by
      rcases hcase with ⟨c1, _, _⟩ | ⟨c1, c2, _, ⟨_, c4⟩ | ⟨_, c4⟩⟩
      · exact .inl c1
      · exact .inl c4
      · exact .inr ⟨c4, c1, c2⟩
    obtain ⟨p1, p2⟩ := push_other h hk1 h1 h2 h3 ht
    have hj3 : js3 x (js2 x ⟨st.o, t', st.last, due'⟩) = ⟨st.o ++ flush t' ++ [x], [], (js2 x ⟨st.o, t', st.last, due'⟩).last, (js2 x ⟨st.o, t', st.last, due'⟩).due⟩ := by
      unfold js3
      rw [if_neg hk1]
      unfold js2
      split <;> rfl
    rw [hj3, e1]
    refine ⟨?_, textL_nil, fun hp => ?_, ⟨some x, p1, fun z hz => by cases hz; exact hk1, fun _ => rfl, fun hne => absurd rfl hne⟩, fun hd => ⟨x, rfl, ?_⟩⟩
    · rw [wT_nil, List.append_nil, p2, htk, wordsP_tag hk1, hb]
    · rw [pend_nil, isE_nil] at hp; cases hp
    · cases htg : isTagB x
      · unfold isTagB at htg
        unfold coB
        simp only [Bool.or_eq_false_iff, decide_eq_false_iff_not] at htg
        simp [htg.1.1]
      · unfold js2 at hd
        rw [htg] at hd
        rw [if_pos rfl] at hd
        dsimp only at hd
        rcases hcase with ⟨_, c2, c3⟩ | ⟨_, _, c3, _⟩
        · rcases c3 with c3 | c3
          · rw [c2, c3] at hd; cases hd
          · unfold coB; simp [c3]
        · rw [c3] at hd; cases hd
  · obtain ⟨r1, r2, r3⟩ := row_kinds hrow
    have htw : tagW s = false := by rw [htp, hx]; rfl
    have hf : firstB ((pcsL ws).drop k) = some ⟨1, s, false⟩ := by
      rw [hfind, List.find?_cons_of_pos (by rw [htw]; rfl), Option.map_some, hx]
    have hsp : sepB (pcsL ws) k st.last = apartB st.last.s s := by unfold sepB; rw [hf]
    rw [hx] at hs h1 h2 h3 e1 hcase ⊢
    have hh : holeW ⟨1, s, false⟩ = holeX := rfl
    rw [hh] at h2 h3 e1
    have h3' : op' = op := by cases h3; rfl
    subst h3'
    obtain ⟨hwd, htx, hpd, ⟨aJ, f1, f2, f3, f4⟩, hdue⟩ := h
    have hj3 : js3 ⟨1, s, false⟩ (js2 ⟨1, s, false⟩ ⟨st.o, t', st.last, due'⟩) = ⟨st.o, t' ++ s.data.toList, ⟨1, s, false⟩, true⟩ := rfl
    rw [hj3, e1]
    have htx' : textL t' = true := by
      rcases hcase with ⟨rfl, _⟩ | ⟨_, _, _, ⟨_, rfl⟩ | ⟨_, rfl⟩⟩
      · exact htx
      · exact htx
      · exact textL_app htx text_blank
    have hwt : wordsT t' = wordsT st.t := by
      rcases hcase with ⟨rfl, _⟩ | ⟨_, _, _, ⟨_, rfl⟩ | ⟨_, rfl⟩⟩
      · rfl
      · rfl
      · exact (wT_blank htx).1
    have hne : t' ++ s.data.toList ≠ [] := by
      intro h
      have := congrArg List.length h
      rw [List.length_append, list_size, List.length_nil] at this
      omega
    have hrowp : (runesL s.data.toList).all inN = true → pend t' = ByteArray.empty := by
      intro hr
      have hm8 := row_no marks_not hr
      have hclash : st.due = false ∨ (st.due = true ∧ apartB st.last.s s = false) → pend st.t = ByteArray.empty := by
        intro hc
        cases hpe : isE (pend st.t)
        · obtain ⟨q1, q2⟩ := hpd hpe
          rcases hc with hc | ⟨_, hc⟩
          · rw [hc] at q1; cases q1
          · unfold apartB at hc
            rw [hm8, q2] at hc
            cases hc
        · exact isE_empty hpe
      rcases hcase with ⟨rfl, _, c3⟩ | ⟨c1, _, _, ⟨c3, rfl⟩ | ⟨_, rfl⟩⟩
      · rcases c3 with c3 | c3
        · exact hclash (.inl c3)
        · exact absurd c3 (by show ¬ (1 : Int) = 3; decide)
      · exact hclash (.inr ⟨c1, by rw [← hsp]; exact c3⟩)
      · exact (wT_blank htx).2
    refine ⟨?_, textL_app htx' r1, fun hp => ⟨rfl, ?_⟩, ⟨aJ, f1, f2, fun h0 => absurd h0 hne, fun _ => ⟨fun z hz => ?_, holeX, rfl, rfl, rfl⟩⟩, fun _ => ⟨holeX, rfl, rfl⟩⟩
    · show wordsA st.o ++ wordsT (t' ++ s.data.toList) = _
      have e : wordsT (t' ++ s.data.toList) = wordsT st.t ++ [s] := by
        rw [← hwt]
        rcases r3 with r3 | ⟨q, q1, q2⟩
        · exact wT_row htx' (hrowp r3) r1 r3 r2
        · exact (wT_mark htx' r1 q1 q2).1
      rw [e, htk, ← hwd, List.append_assoc]
    · rcases r3 with r3 | ⟨q, q1, q2⟩
      · exact row_no opens_not r3
      · dsimp only at hp
        rw [(wT_mark htx' r1 q1 q2).2, isE_nil] at hp
        cases hp
    · by_cases h0 : st.t = []
      · have hfl := f3 h0
        rw [hz] at hfl
        cases aH with
        | none => cases hfl
        | some y =>
          simp only [flg, Option.map_some, Option.some.injEq, Prod.mk.injEq] at hfl
          rw [hfl.2]
          have hm := mis_split (nb_zero.1 (show nbrE y holeX = 0 from h2)).2
          cases e : ccB y
          · rfl
          · have := hm.2 e; cases this
      · exact (f4 h0).1 z hz
/-- the spaced form of valid words is valid, and has these words -/
theorem spaced_valid {ws : List ByteArray} (h : wordsE ws = 0) (hl : ¬ 512 < (spacedL ws).length) : checkE (spacedL ws) = 0 ∧ cutL (spacedL ws) = ws := by
  have hok := okW_of h
  have hsh := wordsE_short h
  have hc : checkE (holesL ws) = 0 := by
    unfold wordsE at h
    rw [if_neg hsh] at h
    exact (if_pos (show okW ws = true from hok)).symm.trans h
  obtain ⟨_, aE, hE⟩ := (checkE_fold _).1 hc
  have hlen : (holesL ws).length = ws.length := by unfold holesL; rw [List.length_map]
  have key : ∀ k, k ≤ ws.length → ∃ a op, foldC ((holesL ws).take k) = some (a, op) ∧ SpV ws k (jTo (pcsL ws) k) a op := by
    intro k
    induction k with
    | zero =>
      intro _
      refine ⟨none, [], rfl, ⟨?_, textL_nil, fun hp => ?_, ⟨none, rfl, fun z hz => (by cases hz), fun _ => rfl, fun hne => absurd rfl hne⟩, fun hd => (by cases hd)⟩⟩
      · show [] ++ wordsT [] = _
        rw [wT_nil]; rfl
      · have hp' : isE (pend []) = false := hp
        rw [pend_nil, isE_nil] at hp'; cases hp'
    | succ k ih =>
      intro hk
      obtain ⟨a, op, h1, h2⟩ := ih (by omega)
      obtain ⟨a', op', h3⟩ := foldC_take hE (k + 1) (by omega)
      have hg : (holesL ws).getD k nil = holeW (pieceW (ws.getD k ByteArray.empty)).1 := by
        unfold holesL
        rw [List.getD_eq_getElem?_getD, List.getElem?_map, List.getD_eq_getElem?_getD, List.getElem?_eq_getElem (by omega)]
        rfl
      refine ⟨a', op', h3, ?_⟩
      rw [takeP_succ (by omega), foldC_snoc, h1, hg] at h3
      have := SpV.next hok (by omega) h2 h3
      show SpV ws (k + 1) (js3 ((pcsL ws).getD k nil) (js2 ((pcsL ws).getD k nil) (js1 (pcsL ws) k ((pcsL ws).getD k nil) (jTo (pcsL ws) k)))) a' op'
      rw [pcsL_get (by omega)]
      exact this
  obtain ⟨a, op, h1, hV⟩ := key ws.length (Nat.le_refl _)
  have hsl : spacedL ws = (jTo (pcsL ws) ws.length).o ++ flush (jTo (pcsL ws) ws.length).t := (jTo_eq hok ws.length (Nat.le_refl _)).1
  rw [← hlen, List.take_length, hE] at h1
  cases h1
  obtain ⟨hwd, htx, hpd, ⟨aJ, f1, f2, f3, f4⟩, hdue⟩ := hV
  rw [List.take_length] at hwd
  have hfold : ∃ b, foldC (spacedL ws) = some (b, []) := by
    rw [hsl]
    by_cases h0 : (jTo (pcsL ws) ws.length).t = []
    · have e : flush (jTo (pcsL ws) ws.length).t = [] := by unfold flush; rw [if_pos h0]
      rw [e, List.append_nil]
      exact ⟨_, f1⟩
    · have e : flush (jTo (pcsL ws) ws.length).t = [⟨1, bytes (jTo (pcsL ws) ws.length).t, false⟩] := by unfold flush; rw [if_neg h0]
      rw [e, foldC_snoc, f1]
      refine ⟨_, stepC_of (text_piece htx h0) ?_ rfl⟩
      cases aJ with
      | none => rfl
      | some z =>
        refine nb_zero.2 ⟨fun hh => f2 z rfl hh.2, mis_of (fun h => ?_) (fun h => ?_)⟩
        · rw [co_text] at h; cases h
        · rw [(f4 h0).1 z rfl] at h; cases h
  have hval := (checkE_fold _).2 ⟨hl, hfold⟩
  refine ⟨hval, ?_⟩
  rw [cutL_words (fun i hi h => textPc (all_valid hval i hi) h), hsl, wordsA_app, wordsA_flush htx]
  exact hwd
end Go.Proofs.YtnbeomclmggbiaaGreatDoor
namespace Go.Proofs.YtnbeomclmggbiaaGreatDoor
open Go Go.RowKit Go.Lib
set_option maxRecDepth 100000
theorem decN_take {n n' b0 b1 b2 b3 b1' b2' b3' : Nat} (hn : (decodeN n b0 b1 b2 b3).2 ≤ n') (h1 : 1 < n' → b1' = b1) (h2 : 2 < n' → b2' = b2) (h3 : 3 < n' → b3' = b3) (hv : ¬ ((decodeN n b0 b1 b2 b3).1 = 65533 ∧ (decodeN n b0 b1 b2 b3).2 = 1)) :
    decodeN n' b0 b1' b2' b3' = decodeN n b0 b1 b2 b3 := by
  unfold decodeN at hv hn ⊢
  by_cases c0 : b0 < 128
  · rw [if_pos c0, if_pos c0]
  rw [if_neg c0] at hv hn ⊢
  rw [if_neg c0]
  by_cases c1 : b0 / 32 = 6 ∧ (1 < n ∧ b1 / 64 = 2)
  · rw [if_pos c1] at hv hn ⊢
    split at hn
    · rename_i v1
      have e1 := h1 (by omega)
      have hn2 : 2 ≤ n' := hn
      rw [if_pos ⟨c1.1, by omega, by rw [e1]; exact c1.2.2⟩, e1]
    · rename_i v1
      rw [if_neg v1] at hv
      exact absurd ⟨rfl, rfl⟩ hv
  rw [if_neg c1] at hv hn ⊢
  by_cases c2 : b0 / 16 = 14 ∧ (1 < n ∧ b1 / 64 = 2) ∧ (2 < n ∧ b2 / 64 = 2)
  · rw [if_pos c2] at hv hn ⊢
    split at hn
    · rename_i v1
      have hn3 : 3 ≤ n' := hn
      have e1 := h1 (by omega)
      have e2 := h2 (by omega)
      rw [if_neg (by omega), if_pos ⟨c2.1, ⟨by omega, by rw [e1]; exact c2.2.1.2⟩, by omega, by rw [e2]; exact c2.2.2.2⟩, e1, e2]
    · rename_i v1
      rw [if_neg v1] at hv
      exact absurd ⟨rfl, rfl⟩ hv
  rw [if_neg c2] at hv hn ⊢
  by_cases c3 : b0 / 8 = 30 ∧ (1 < n ∧ b1 / 64 = 2) ∧ (2 < n ∧ b2 / 64 = 2) ∧ (3 < n ∧ b3 / 64 = 2)
  · rw [if_pos c3] at hv hn ⊢
    split at hn
    · rename_i v1
      have hn4 : 4 ≤ n' := hn
      have e1 := h1 (by omega)
      have e2 := h2 (by omega)
      have e3 := h3 (by omega)
      rw [if_neg (by omega), if_neg (by omega), if_pos ⟨c3.1, ⟨by omega, by rw [e1]; exact c3.2.1.2⟩, ⟨by omega, by rw [e2]; exact c3.2.2.1.2⟩, by omega, by rw [e3]; exact c3.2.2.2.2⟩, e1, e2, e3]
    · rename_i v1
      rw [if_neg v1] at hv
      exact absurd ⟨rfl, rfl⟩ hv
  rw [if_neg c3] at hv
  exact absurd ⟨rfl, rfl⟩ hv
theorem getD_take {a : List UInt8} {i d : Nat} (h : i < d) : (a.take d).getD i 0 = a.getD i 0 := by
  rw [List.getD_eq_getElem?_getD, List.getD_eq_getElem?_getD, List.getElem?_take_of_lt h]
theorem dec_take {a : List UInt8} (hne : a ≠ []) (hv : ¬ ((decodeL a).1 = 65533 ∧ (decodeL a).2 = 1)) : decodeL (a.take (decodeL a).2) = decodeL a := by
  have hw := decodeL_width a
  have hle := decodeL_le a hne
  generalize hd : (decodeL a).2 = d at hw hle
  have hlen : (a.take d).length = d := by rw [List.length_take]; omega
  have h0 : (a.take d).getD 0 0 = a.getD 0 0 := getD_take (by omega)
  have hv' := hv
  have hd' := hd
  rw [decodeL_N] at hv' hd'
  rw [decodeL_N, decodeL_N, h0, hlen]
  exact decN_take (Nat.le_of_eq hd') (fun h => by rw [getD_take h]) (fun h => by rw [getD_take h]) (fun h => by rw [getD_take h]) hv'
/-- the first rune of a text, by itself -/
theorem first_rune {t : List UInt8} (hne : t ≠ []) (h : textL t = true) : textL (Utf8.encode ((decodeL t).1 : Int)).data.toList = true ∧ runesL (Utf8.encode ((decodeL t).1 : Int)).data.toList = [(decodeL t).1] ∧ 0 < (Utf8.encode ((decodeL t).1 : Int)).size ∧ textL (t.drop (decodeL t).2) = true := by
  have hs := textL_step t hne
  rw [h] at hs
  have hs' := hs.symm
  simp only [Bool.and_eq_true, Bool.not_eq_true', decide_eq_false_iff_not] at hs'
  obtain ⟨⟨h1, h2⟩, h3⟩ := hs'
  have hw := decodeL_width t
  have hle := decodeL_le t hne
  have hr := roundtrip t hne h1
  have hd := dec_take hne h1
  have hlen : (t.take (decodeL t).2).length = (decodeL t).2 := by rw [List.length_take]; omega
  have hne2 : t.take (decodeL t).2 ≠ [] := by
    intro e
    rw [e] at hlen
    simp at hlen
    omega
  have hdrop : (t.take (decodeL t).2).drop (decodeL t).2 = [] := List.drop_eq_nil_of_le (by rw [hlen]; exact Nat.le_refl _)
  refine ⟨?_, ?_, ?_, h3⟩
  · rw [hr, textL_step _ hne2, hd, h2, hdrop, textL_nil]
    simp [h1]
  · rw [hr, runesL_step hne2, hd, hdrop, runesL_nil]
  · rw [← list_size, hr, hlen]; omega
/-- what the fold over a text's runes keeps -/
def RowsOk (st : List ByteArray × ByteArray) : Prop := (∀ y ∈ st.1, rowB y = true) ∧ (st.2 = ByteArray.empty ∨ (textL st.2.data.toList = true ∧ (runesL st.2.data.toList).all inN = true ∧ 0 < st.2.size))
theorem rowB_all {y : ByteArray} (h1 : textL y.data.toList = true) (h2 : (runesL y.data.toList).all inN = true) (h3 : 0 < y.size) : rowB y = true := by
  have hne : y.data.toList ≠ [] := by intro e; rw [← list_size, e] at h3; simp at h3
  have hl : 0 < (runesOf y).length := by
    show 0 < (runesL y.data.toList).length
    rw [runesL_step hne]; simp
  unfold rowB
  rw [show textB y = true from h1, show (runesOf y).all inN = true from h2]
  simp [hl]
theorem rowEnd_ok {st : List ByteArray × ByteArray} (h : RowsOk st) : ∀ y ∈ rowEnd st.2, rowB y = true := by
  intro y hy
  rcases h.2 with e | ⟨h1, h2, h3⟩
  · rw [e, rowEnd_empty] at hy; cases hy
  · rw [rowEnd_full h3] at hy
    rw [List.mem_singleton.1 hy]
    exact rowB_all h1 h2 h3
theorem fold_rows : ∀ (n : Nat) (t : List UInt8) (st : List ByteArray × ByteArray), t.length ≤ n → textL t = true → RowsOk st → RowsOk ((runesL t).foldl cutStep st)
  | 0, t, st, h, _, hs => by
    obtain rfl : t = [] := List.eq_nil_of_length_eq_zero (by omega)
    exact hs
  | n + 1, t, st, h, ht, hs => by
    by_cases hne : t = []
    · subst hne; exact hs
    · have hw := decodeL_width t
      have hl : 0 < t.length := List.length_pos_iff.2 hne
      obtain ⟨e1, e2, e3, e4⟩ := first_rune hne ht
      rw [runesL_step hne, List.foldl_cons]
      refine fold_rows n _ _ (by rw [List.length_drop]; omega) e4 ?_
      generalize (decodeL t).1 = r at *
      unfold cutStep
      cases hi : inN r
      · rw [if_neg (by simp)]
        refine ⟨fun y hy => ?_, .inl rfl⟩
        rcases List.mem_append.1 hy with hy | hy
        · rcases List.mem_append.1 hy with hy | hy
          · exact hs.1 y hy
          · exact rowEnd_ok hs y hy
        · split at hy
          · cases hy
          · rename_i h32
            rw [List.mem_singleton.1 hy]
            unfold inN at hi
            simp only [Bool.or_eq_false_iff] at hi
            refine rowB_mark e1 ?_ ?_
            · show (runesL _).length = 1
              rw [e2]; rfl
            · show markN ((runesL _).getD 0 0) = true
              rw [e2]
              unfold markN
              simp [h32, hi.1, hi.2]
      · rw [if_pos rfl]
        refine ⟨hs.1, .inr ?_⟩
        have ha : (st.2 ++ Utf8.encode (r : Int)).data.toList = st.2.data.toList ++ (Utf8.encode (r : Int)).data.toList := by simp
        have hz : 0 < (st.2 ++ Utf8.encode (r : Int)).size := by rw [ByteArray.size_append]; omega
        dsimp only
        rw [ha]
        rcases hs.2 with e | ⟨h1, h2, h3⟩
        · have he0 : st.2.data.toList = [] := by rw [e]; rfl
          rw [he0, List.nil_append]
          refine ⟨e1, ?_, hz⟩
          rw [e2]
          simp [hi]
        · refine ⟨textL_app h1 e1, ?_, hz⟩
          rw [runesL_app h1 e1, List.all_append, h2, e2]
          simp [hi]
/-- the words of a text are rows and marks -/
theorem wordsT_rows {t : List UInt8} (h : textL t = true) : ∀ y ∈ wordsT t, rowB y = true := by
  have hk := fold_rows t.length t ([], ByteArray.empty) (Nat.le_refl _) h ⟨fun _ h => (by cases h), .inl rfl⟩
  intro y hy
  unfold wordsT at hy
  rcases List.mem_append.1 hy with hy | hy
  · exact hk.1 y hy
  · exact rowEnd_ok hk y hy
/-- a row or a mark is no written form of a tag or a hole -/
theorem row_noMk {y : ByteArray} (h : rowB y = true) : ∀ z, ¬ Mk z y.data.toList := by
  intro z hm
  obtain ⟨_, _, hk⟩ := row_kinds h
  have hz := hm.size
  obtain ⟨hnm, he, hkind⟩ := hm.kinds
  have h1 : 1 ≤ z.s.size := by
    unfold nameB at hnm
    simp only [Bool.and_eq_true, decide_eq_true_eq] at hnm
    exact hnm.1.1.1
  have hfirst : ∃ (c : UInt8) (m : List UInt8), y.data.toList = c :: m ∧ (c = 60 ∨ c = 123) := by
    rw [he]
    rcases hkind with ⟨_, h2, _⟩ | ⟨_, h2, _⟩ | ⟨_, _, h2, _⟩ | ⟨_, _, h2, _⟩
    · rw [h2]; cases z.c <;> exact ⟨_, _, rfl, .inl rfl⟩
    · rw [h2]; cases z.c <;> exact ⟨_, _, rfl, .inl rfl⟩
    · rw [h2]; exact ⟨_, _, rfl, .inl rfl⟩
    · rw [h2]; exact ⟨_, _, rfl, .inr rfl⟩
  obtain ⟨c, m, hc, hcc⟩ := hfirst
  have hlt : c.toNat < 128 := by rcases hcc with rfl | rfl <;> decide
  have hin : inN c.toNat = false := by rcases hcc with rfl | rfl <;> decide
  have hd : decodeL (c :: m) = (c.toNat, 1) := by
    rw [decodeL_N]
    unfold decodeN
    exact if_pos hlt
  have hr : runesL y.data.toList = c.toNat :: runesL m := by
    rw [hc, runesL_step (by simp), hd]; rfl
  have hm0 : m ≠ [] := by
    intro e
    rw [hc, e] at hz
    simp only [List.length_cons, List.length_nil] at hz
    omega
  rcases hk with hk | ⟨r, hk, _⟩
  · rw [hr] at hk; simp [hin] at hk
  · rw [hr, runesL_step hm0] at hk
    cases hk
theorem holes_row {y : ByteArray} (h : rowB y = true) : holeW (pieceW y).1 = holeX ∧ (pieceW y).2 = true := by
  rw [pieceW_none (row_noMk h)]
  exact ⟨rfl, h⟩
theorem holesL_app (a b : List ByteArray) : holesL (a ++ b) = holesL a ++ holesL b := by unfold holesL; rw [List.map_append]
theorem holesL_rows {ys : List ByteArray} (h : ∀ y ∈ ys, rowB y = true) : holesL ys = List.replicate ys.length holeX := by
  unfold holesL
  rw [List.eq_replicate_iff]
  refine ⟨by rw [List.length_map], fun b hb => ?_⟩
  obtain ⟨y, hy, rfl⟩ := List.mem_map.1 hb
  exact (holes_row (h y hy)).1
def misO (a : Option Pc) (p : Pc) : Bool := match a with
  | none => false
  | some y => misB y p
theorem nbO_of {a : Option Pc} {p : Pc} (hp : p.k ≠ 1) (h : misO a p = false) : nbO a p = 0 := by
  cases a with
  | none => rfl
  | some y => exact nb_zero.2 ⟨fun hh => hp hh.1, h⟩
theorem misO_of {a : Option Pc} {p : Pc} (h : nbO a p = 0) : misO a p = false := by
  cases a with
  | none => rfl
  | some y => exact (nb_zero.1 h).2
theorem step_hole {a : Option Pc} {op : List ByteArray} (h : misO a holeX = false) : stepC (some (a, op)) holeX = some (some holeX, op) :=
  stepC_of (by decide +kernel) (nbO_of (by decide) h) rfl
theorem fold_holes (op : List ByteArray) : ∀ n, (List.replicate n holeX).foldl stepC (some (some holeX, op)) = some (some holeX, op)
  | 0 => rfl
  | n + 1 => by
    rw [List.replicate_succ, List.foldl_cons, step_hole (a := some holeX) (show misB holeX holeX = false by decide)]
    exact fold_holes op n
theorem fold_none (l : List Pc) : l.foldl stepC none = none := by
  induction l with
  | nil => rfl
  | cons x l ih => exact ih
theorem mis_flags {a : Option Pc} {x p : Pc} (h1 : coB x = coB p) (h2 : ccB x = ccB p) (h : misO a x = false) : misO a p = false := by
  cases a with
  | none => rfl
  | some y =>
    show misB y p = false
    have : misB y x = false := h
    unfold misB at this ⊢
    rw [← h1, ← h2]; exact this
theorem words_fold : ∀ (l : List Pc) (a aH : Option Pc) (op : List ByteArray) (r : Option Pc × List ByteArray), l.foldl stepC (some (a, op)) = some r → (∀ p, misO a p = false → misO aH p = false) →
    ∃ b, (holesL (wordsA l)).foldl stepC (some (aH, op)) = some (b, r.2)
  | [], a, aH, op, r, h, _ => by cases h; exact ⟨aH, rfl⟩
  | x :: l, a, aH, op, r, h, hR => by
    rw [List.foldl_cons] at h
    cases e : stepC (some (a, op)) x with
    | none => rw [e, fold_none] at h; cases h
    | some s =>
      obtain ⟨a', o', op', e0, h1, h2, h3, e1⟩ := stepC_some e
      cases e0
      rw [e, e1] at h
      have hw : wordsA (x :: l) = wordsP x ++ wordsA l := rfl
      rw [hw, holesL_app, List.foldl_append]
      have hm := hR x (misO_of h2)
      by_cases hk : x.k = 1
      · have ht := textPc h1 hk
        obtain ⟨xk, xs, xc⟩ := x
        dsimp only at hk ht
        subst hk
        have hco : coB ⟨1, xs, xc⟩ = false := rfl
        have hcc : ccB ⟨1, xs, xc⟩ = false := rfl
        have hop : op' = op := by cases h3; rfl
        subst hop
        rw [wordsP_text ht, holesL_rows (wordsT_rows (by rw [← textB_L]; exact ht))]
        have hmh : misO aH holeX = false := mis_flags (x := ⟨1, xs, xc⟩) hco hcc hm
        cases hn : (wordsT xs.data.toList).length with
        | zero =>
          rw [List.replicate_zero, List.foldl_nil]
          refine words_fold l _ aH _ r h fun p hp => ?_
          have hp' : misB ⟨1, xs, xc⟩ p = false := hp
          cases aH with
          | none => rfl
          | some y =>
            have hms := mis_split (show misB y ⟨1, xs, xc⟩ = false from hm)
            have hps := mis_split hp'
            refine mis_of (fun hc => ?_) (fun hc => ?_)
            · have := hps.1 hc; rw [hco] at this; cases this
            · have := hms.2 hc; rw [hcc] at this; cases this
        | succ n =>
          rw [List.replicate_succ, List.foldl_cons, step_hole hmh, fold_holes]
          refine words_fold l _ _ _ r h fun p hp => ?_
          have hps := mis_split (show misB ⟨1, xs, xc⟩ p = false from hp)
          show misB holeX p = false
          refine mis_of (fun hc => ?_) (fun hc => (by cases hc))
          have := hps.1 hc; rw [hco] at this; cases this
      · have hmk : Mk x (bytes (wB x)).data.toList := ⟨hk, h1, rfl⟩
        have hh : holesL (wordsP x) = [x] := by
          rw [wordsP_tag hk]
          unfold holesL
          rw [List.map_singleton, pieceW_some hmk]
          unfold holeW
          rw [if_neg hk]
        rw [hh, List.foldl_cons, List.foldl_nil, stepC_of h1 (nbO_of hk hm) h3]
        exact words_fold l _ _ _ r h fun p hp => hp
/-- the words of a valid list are valid words -/
theorem words_valid {l : List Pc} (h : checkE l = 0) (hl : ¬ 512 < (cutL l).length) : wordsE (cutL l) = 0 := by
  have hv := all_valid h
  have hc : cutL l = wordsA l := cutL_words (fun i hi hk => textPc (hv i hi) hk)
  obtain ⟨_, a, hf⟩ := (checkE_fold l).1 h
  obtain ⟨b, hb⟩ := words_fold l none none [] _ hf (fun _ _ => rfl)
  rw [hc] at hl ⊢
  have hlen : (holesL (wordsA l)).length = (wordsA l).length := by unfold holesL; rw [List.length_map]
  have hE : checkE (holesL (wordsA l)) = 0 := (checkE_fold _).2 ⟨by rw [hlen]; exact hl, b, hb⟩
  have hok : okW (wordsA l) = true := by
    unfold okW
    rw [List.all_eq_true]
    intro y hy
    obtain ⟨x, hx, hyx⟩ := List.mem_flatMap.1 hy
    obtain ⟨i, hi, rfl⟩ := List.getElem_of_mem hx
    have h1 := hv i hi
    rw [List.getD_eq_getElem?_getD, List.getElem?_eq_getElem hi] at h1
    have h1' : pieceE l[i] = 0 := h1
    by_cases hk : l[i].k = 1
    · have ht := textPc h1' hk
      generalize l[i] = x at *
      obtain ⟨xk, xs, xc⟩ := x
      dsimp only at hk ht
      subst hk
      rw [wordsP_text ht] at hyx
      exact (holes_row (wordsT_rows (by rw [← textB_L]; exact ht) y hyx)).2
    · rw [wordsP_tag hk] at hyx
      rw [List.mem_singleton.1 hyx, pieceW_some (x := l[i]) ⟨hk, h1', rfl⟩]
  unfold wordsE
  rw [if_neg hl]
  exact (if_pos (show okW (wordsA l) = true from hok)).trans hE
end Go.Proofs.YtnbeomclmggbiaaGreatDoor
namespace Go.Proofs.YtnbeomclmggbiaaGreatDoor
open Go Go.RowKit Go.Lib
set_option maxRecDepth 100000
def sumS (ws : List ByteArray) : Nat := (ws.map ByteArray.size).sum
theorem sumS_app (a b : List ByteArray) : sumS (a ++ b) = sumS a + sumS b := by unfold sumS; rw [List.map_append, List.sum_append]
theorem sumS_rowEnd (r : ByteArray) : sumS (rowEnd r) ≤ r.size := by
  unfold rowEnd sumS
  split <;> simp
theorem fold_bytes : ∀ (rs : List Nat) (st : List ByteArray × ByteArray), sumS (rs.foldl cutStep st).1 + (rs.foldl cutStep st).2.size ≤ sumS st.1 + st.2.size + (encAll rs).length
  | [], st => by simp [encAll]
  | r :: rs, st => by
    rw [List.foldl_cons]
    have ih := fold_bytes rs (cutStep st r)
    have he : (encAll (r :: rs)).length = (Utf8.encode (r : Int)).size + (encAll rs).length := by
      unfold encAll
      rw [List.flatMap_cons, List.length_append, list_size]
    have hs : sumS (cutStep st r).1 + (cutStep st r).2.size ≤ sumS st.1 + st.2.size + (Utf8.encode (r : Int)).size := by
      unfold cutStep
      split
      · dsimp only
        rw [ByteArray.size_append]; omega
      · dsimp only
        rw [sumS_app, sumS_app]
        have h1 := sumS_rowEnd st.2
        have h2 : sumS (if r = 32 then [] else [Utf8.encode (r : Int)]) ≤ (Utf8.encode (r : Int)).size := by
          split <;> simp [sumS]
        have h3 : (ByteArray.empty).size = 0 := rfl
        omega
    omega
theorem wordsT_bytes {t : List UInt8} (h : textL t = true) : sumS (wordsT t) ≤ t.length := by
  have h1 := fold_bytes (runesL t) ([], ByteArray.empty)
  rw [enc_runes h] at h1
  unfold wordsT
  rw [sumS_app]
  have h2 := sumS_rowEnd (pend t)
  have h3 : (ByteArray.empty).size = 0 := rfl
  have h4 : sumS [] = 0 := rfl
  unfold pend fwL at *
  dsimp only at h1
  omega
theorem wordsP_bytes {x : Pc} (h : pieceE x = 0) : sumS (wordsP x) ≤ x.s.size + 4 := by
  by_cases hk : x.k = 1
  · have ht := textPc h hk
    obtain ⟨xk, xs, xc⟩ := x
    dsimp only at hk ht
    subst hk
    rw [wordsP_text ht]
    have := wordsT_bytes (t := xs.data.toList) (by rw [← textB_L]; exact ht)
    rw [list_size] at this
    show _ ≤ xs.size + 4
    omega
  · rw [wordsP_tag hk]
    have hm : Mk x (bytes (wB x)).data.toList := ⟨hk, h, rfl⟩
    obtain ⟨_, he, hkind⟩ := hm.kinds
    have hl : (bytes (wB x)).size = (markA x.k x.c).length + x.s.size + (markZ x.k).length := by
      rw [← list_size, he, List.length_append, List.length_append, list_size]
    have h4 : (markA x.k x.c).length + (markZ x.k).length ≤ 4 := by
      rcases hkind with ⟨_, h2, h3⟩ | ⟨_, h2, h3⟩ | ⟨_, _, h2, h3⟩ | ⟨_, _, h2, h3⟩
      · rw [h2, h3]; cases x.c <;> decide
      · rw [h2, h3]; cases x.c <;> decide
      · rw [h2, h3]; decide
      · rw [h2, h3]; decide
    unfold sumS
    simp only [List.map_cons, List.map_nil, List.sum_cons, List.sum_nil]
    omega
theorem wordsA_bytes : ∀ l : List Pc, (∀ x ∈ l, pieceE x = 0) → sumS (wordsA l) ≤ bulk l + 4 * l.length
  | [], _ => by show sumS [] ≤ _; have : sumS [] = 0 := rfl; omega
  | x :: l, h => by
    have ih := wordsA_bytes l (fun y hy => h y (List.mem_cons_of_mem _ hy))
    have h1 := wordsP_bytes (h x (List.mem_cons_self ..))
    show sumS (wordsP x ++ wordsA l) ≤ _
    rw [sumS_app, bulk_cons, List.length_cons]
    omega
theorem bytesK_sum (ws : List ByteArray) : bytesK ws ws.length = sumS ws := by unfold bytesK sumS; rw [List.take_length]
/-- what words of few bytes are -/
theorem sum_bounds {ws : List ByteArray} (h : sumS ws ≤ 5000) (hl : ws.length ≤ 512) : (∀ s ∈ ws, s.size ≤ 5000) ∧ bulk (holesL ws) ≤ 100000 ∧ ∀ k, k ≤ ws.length → bulk (spTo ws k).1 ≤ 10000 := by
  refine ⟨fun s hs => ?_, ?_, fun k hk => ?_⟩
  · have := bytesK_all hs
    rw [bytesK_sum] at this
    omega
  · have := holesL_bulk ws
    unfold sumS at h
    omega
  · have h1 := spTo_bulk ws k hk
    have h2 := bytesK_le ws (ws.length - k) k (by omega)
    rw [bytesK_sum] at h2
    omega
theorem pieces_len {l : List Pc} (h : checkE l = 0) : l.length ≤ 512 := by
  have := ((checkE_fold l).1 h).1
  omega
/-- the words of a valid list are few -/
theorem cutL_sum {l : List Pc} (h : checkE l = 0) (hb : bulk l ≤ 2500) : sumS (cutL l) ≤ 5000 := by
  have hv := all_valid h
  have hl := pieces_len h
  rw [cutL_words (fun i hi hk => textPc (hv i hi) hk)]
  have := wordsA_bytes l (fun x hx => by
    obtain ⟨i, hi, rfl⟩ := List.getElem_of_mem hx
    have h1 := hv i hi
    rw [List.getD_eq_getElem?_getD, List.getElem?_eq_getElem hi] at h1
    exact h1)
  omega
theorem cutE_zero {l : List Pc} (h : cutE l = 0) : checkE l = 0 ∧ (cutL l).length ≤ 512 ∧ cutW l = cutL l := by
  have hw : cutW l = cutL l := by unfold cutW; rw [if_pos h]
  unfold cutE at h
  split at h
  · rename_i h0
    split at h
    · cases h
    · exact ⟨h0, by omega, hw⟩
  · rename_i h0; exact absurd h h0
theorem fromE_zero {ws : List ByteArray} (h : fromE ws = 0) : wordsE ws = 0 ∧ ¬ 512 < (spacedL ws).length ∧ fromL ws = spacedL ws := by
  have hw : fromL ws = spacedL ws := by unfold fromL; rw [if_pos h]
  unfold fromE at h
  split at h
  · rename_i h0
    split at h
    · cases h
    · rename_i h1; exact ⟨h0, h1, hw⟩
  · rename_i h0; exact absurd h h0
/-- the spaced form of words that have one: its words -/
theorem spaced_words {ws : List ByteArray} (h : fromE ws = 0) : cutE (fromL ws) = 0 ∧ cutW (fromL ws) = ws ∧ checkE (fromL ws) = 0 := by
  obtain ⟨h1, h2, h3⟩ := fromE_zero h
  obtain ⟨h4, h5⟩ := spaced_valid h1 h2
  have hsh := wordsE_short h1
  rw [h3]
  obtain ⟨e1, e2⟩ := cutE_fine h4 (by rw [h5]; exact hsh)
  exact ⟨e1, by rw [e2, h5], h4⟩
theorem from_limit {l : List Pc} (h : cutE l = 0) : wordsE (cutL l) = 0 ∧ (fromE (cutL l) = 0 ∨ fromE (cutL l) = 3) := by
  obtain ⟨h1, h2, _⟩ := cutE_zero h
  have hw := words_valid h1 (by omega)
  refine ⟨hw, ?_⟩
  unfold fromE
  rw [if_pos hw]
  split
  · exact .inr rfl
  · exact .inl rfl
end Go.Proofs.YtnbeomclmggbiaaGreatDoor
namespace Go.Proofs.YtnbeomclmggbiaaGreatDoor
open Go Go.RowKit Go.Lib
set_option maxRecDepth 100000
theorem refCheckP_any (l : List Pc) (v : Value) (w : World) (hv : PcsAt w v l) (hb : bulk l ≤ 10000) : Calls Tryz.prog 31 #[v] w fun e w' => e = .returned (.int .u8 (checkE l)) ∧ Below w.heap.size w w' := refCheck_any l v w hv (by omega)
set_option maxHeartbeats 32000000 in
theorem spaced_law (l : List Pc) (ws : List ByteArray) (v u : Value) (w : World) (hv : PcsAt w v l) (hu : StrsAt w u ws) (hsz : ∀ x ∈ l, x.s.size ≤ 140737488355328) (hll : l.length ≤ 140737488355328) (hws : ∀ s ∈ ws, s.size ≤ 140737488355328) (hwn : ws.length ≤ 140737488355328) (hT : Tabs w) (hC : Cls2 w) (hN : Nts w)
    (hR : ∀ w', Below w.heap.size w w' → Calls Tryz.prog 8 #[] w' fun e w'' => e = .returned (.bool true) ∧ Below w'.heap.size w' w'') :
    Calls Tryz.prog 6 #[v, u] w fun e w' => e = .returned (.bool true) ∧ Below w.heap.size w w' := by
  have HB1 := Lib.hid (below_box (w := w) (.cells #[v] 35))
  have hv1 := hv.step HB1.out
  have hu1 := hu.step HB1.out
  have cL := long_any l v w.heap.size (w.alloc (.cells #[v] 35)) (by rw [Lib.cell_of_heap (heap_alloc_new w _)]; rfl) hv1 hsz hll
  have cY := wordy_any ws u (w.alloc (.cells #[v] 35)) hu1 hws hwn
  have cR1 := hR _ HB1.out
  obtain ⟨ao, ca, rfl⟩ := pcs_form hv
  obtain ⟨bo, cb, rfl⟩ := hu.form
  have HV := Lib.hid hv
  have HU := Lib.hid hu
  by_cases hb : bulk l ≤ 2500
  · by_cases hf : Few ws
    · have hlen := hf.len
      have hg := hN.1
      have hct : ∀ k, k ≤ l.length → (cutTo l k).length ≤ 100000 := by
        intro k hk
        have h1 := cutTo_len l k hk
        have h2 := bulk_take l k
        omega
      have cF1 := from_any ws _ _ hu1 hws (by omega) (fun h5 => (few_bounds hf h5).1) (fun h5 => (few_bounds hf h5).2.1) (fun h5 => (few_bounds hf h5).2.2) (hT.step HB1.out) (hC.below HB1.out (by omega)) (hN.step HB1.out)
      have cW2 := fun wr (h : Below w.heap.size w wr) => words_any l _ wr (HV.out.step h) (by omega) (hT.step h) (hC.below h (by omega)) (hN.step h)
      have cWp := fun (m : List Pc) (hm : bulk m ≤ 10000) x wr (h : Below w.heap.size w wr) (hp : PcsAt wr x m) => words_any m x wr hp hm (hT.step h) (hC.below h (by omega)) (hN.step h)
      have cCw := fun (vs : List ByteArray) (h5 : sumS vs ≤ 5000) (h6 : vs.length ≤ 512) x wr (h : Below w.heap.size w wr) (hp : StrsAt wr x vs) => checkWords_any vs x wr hp (fun s hs => by have := (sum_bounds h5 h6).1 s hs; omega) (fun _ => (sum_bounds h5 h6).2.1) (hT.step h) (hC.below h (by omega)) (hN.step h)
      have cFw := fun (vs : List ByteArray) (h5 : sumS vs ≤ 5000) (h6 : vs.length ≤ 512) x wr (h : Below w.heap.size w wr) (hp : StrsAt wr x vs) => from_any vs x wr hp (fun s hs => by have := (sum_bounds h5 h6).1 s hs; omega) (by omega) (fun _ s hs => by have := (sum_bounds h5 h6).1 s hs; omega) (fun _ => (sum_bounds h5 h6).2.1) (fun _ k hk => by have := (sum_bounds h5 h6).2.2 k hk; omega) (hT.step h) (hC.below h (by omega)) (hN.step h)
      have HBU := Lib.hid (fun h5 : wordsE ws = 0 => show sumS ws ≤ 5000 by
        have h6 := wordsE_short h5
        have := hf.all (by omega)
        rw [bytesK_sum] at this
        omega)
      clear hv1 hu1 hf hT hN hC hsz hll hws hwn hlen hg hv hu hct
      by_cases h1 : fromE ws = 0
      · obtain ⟨a1, a2, a3⟩ := spaced_words h1
        have hsh := wordsE_short (fromE_zero h1).1
        have HCK := Lib.hid a3
        have HX1 := Lib.hid (show bulk (fromL ws) ≤ 10000 by
          rw [(fromE_zero h1).2.2]
          exact (sum_bounds (HBU.out (fromE_zero h1).1) (by omega)).2.2 ws.length (Nat.le_refl _))
        have hl1 : ws.length ≤ 1000000 := by omega
        have finF1 := Lib.hid (fun B e wr (h : FromEnd B ws e wr) => show ∃ v2, e = .returned (.tuple #[v2, .int .u8 0]) ∧ PcsAt wr v2 (fromL ws) from by obtain ⟨v2, h3, h4⟩ := h; rw [h1] at h3; exact ⟨v2, h3, h4.at⟩)
        have finX1 := Lib.hid (fun B e wr (h : WordsEnd B (fromL ws) e wr) => show ∃ v2, e = .returned (.tuple #[v2, .int .u8 0]) ∧ StrsAt wr v2 ws from by obtain ⟨v2, h3, h4⟩ := h; rw [a1] at h3; rw [a2] at h4; exact ⟨v2, h3, h4.at⟩)
        clear h1 a1 a2 a3 hsh
        by_cases h2 : cutE l = 0
        · obtain ⟨c1, c2, c3⟩ := cutE_zero h2
          obtain ⟨c4, c5⟩ := from_limit h2
          have HS5 := Lib.hid (cutL_sum c1 hb)
          have HS6 := Lib.hid c2
          have HCW := Lib.hid c4
          have hl2 : (cutL l).length ≤ 1000000 := by omega
          have finW2 := Lib.hid (fun B e wr (h : WordsEnd B l e wr) => show ∃ v2, e = .returned (.tuple #[v2, .int .u8 0]) ∧ StrsAt wr v2 (cutL l) from by obtain ⟨v2, h3, h4⟩ := h; rw [h2] at h3; rw [c3] at h4; exact ⟨v2, h3, h4.at⟩)
          rcases c5 with c5 | c5
          · obtain ⟨d1, d2, d3⟩ := spaced_words c5
            have HX3 := Lib.hid (show bulk (fromL (cutL l)) ≤ 10000 by
              rw [(fromE_zero c5).2.2]
              have := (sum_bounds (cutL_sum c1 hb) c2).2.2 (cutL l).length (Nat.le_refl _)
              exact this)
            have finF3 := Lib.hid (fun B e wr (h : FromEnd B (cutL l) e wr) => show ∃ v2, e = .returned (.tuple #[v2, .int .u8 0]) ∧ PcsAt wr v2 (fromL (cutL l)) from by obtain ⟨v2, h3, h4⟩ := h; rw [c5] at h3; exact ⟨v2, h3, h4.at⟩)
            have finX3 := Lib.hid (fun B e wr (h : WordsEnd B (fromL (cutL l)) e wr) => show ∃ v2, e = .returned (.tuple #[v2, .int .u8 0]) ∧ StrsAt wr v2 (cutL l) from by obtain ⟨v2, h3, h4⟩ := h; rw [d1] at h3; rw [d2] at h4; exact ⟨v2, h3, h4.at⟩)
            clear hb h2 c1 c2 c3 c4 c5 d1 d2 d3
            go_enter Tryz.func6, Tryz.ntmps6
            go_wp2_with (first
              | (go_at_call 17; (with_reducible refine cL.mono ?_); rintro e w1 ⟨⟨b, rfl, _⟩, hw⟩; obtain rfl := hw.symm; cases b)
              | (go_at_call 18; (with_reducible refine cY.mono ?_); rintro e w1 ⟨⟨b, rfl, _⟩, hw⟩; obtain rfl := hw.symm; cases b)
              | (go_at_call 26; (with_reducible refine cF1.mono ?_); rintro e w2 ⟨he2, hb2⟩; obtain ⟨v2, rfl, hp2⟩ := finF1.out _ _ _ he2; have HB2 := Lib.hid (below_next HB1.out hb2); have cX := cWp _ HX1.out _ w2 HB2.out hp2; have HP2 := Lib.hid hp2; obtain ⟨ao2, ca2, rfl⟩ := pcs_form hp2; clear he2 hb2 hp2)
              | (go_at_call 19; (with_reducible refine cX.mono ?_); rintro e w3 ⟨he3, hb3⟩; obtain ⟨v3, rfl, hp3⟩ := finX1.out _ _ _ he3; have HB3 := Lib.hid (below_next HB2.out hb3); have cS1 := sameS_any ws _ _ w3 hp3 (HU.out.step HB3.out) hl1; have HP3 := Lib.hid (HP2.out.step hb3); obtain ⟨ao3, ca3, rfl⟩ := hp3.form; clear he3 hb3 hp3)
              | (go_at_call 21; (with_reducible refine cS1.mono ?_); rintro e w4 ⟨rfl, n4, hw4⟩; have HB4 := Lib.hid (show Below w.heap.size w w4 by rw [hw4]; exact below_drewN HB3.out n4); have cK := refCheckP_any _ _ w4 (show PcsAt w4 _ (fromL ws) by rw [hw4]; exact HP3.out.step (below_drewN (Below.refl _ _) n4)) HX1.out; rw [HCK.out] at cK; clear hw4)
              | (go_at_call 31; (with_reducible refine cK.mono ?_); rintro e w5 ⟨rfl, hb5⟩; have HP := Lib.hid (below_next HB4.out hb5); clear hb5)
              | (go_at_call 19; (with_reducible refine (cW2 _ HP.out).mono ?_); rintro e w7 ⟨he7, hb7⟩; obtain ⟨v7, rfl, hp7⟩ := finW2.out _ _ _ he7; have HB7 := Lib.hid (below_next HP.out hb7); have cC7 := cCw _ HS5.out HS6.out _ w7 HB7.out hp7; have HP7 := Lib.hid hp7; obtain ⟨ao7, ca7, rfl⟩ := hp7.form; rw [HCW.out] at cC7; clear he7 hb7 hp7)
              | (go_at_call 22; (with_reducible refine cC7.mono ?_); rintro e w8 ⟨rfl, hb8⟩; have HB8 := Lib.hid (below_next HB7.out hb8); have cF8 := cFw _ HS5.out HS6.out _ w8 HB8.out (HP7.out.step hb8); have HP8 := Lib.hid (HP7.out.step hb8); clear hb8)
              | (go_at_call 26; (with_reducible refine cF8.mono ?_); rintro e w9 ⟨he9, hb9⟩; obtain ⟨v9, rfl, hp9⟩ := finF3.out _ _ _ he9; have HB9 := Lib.hid (below_next HB8.out hb9); have cZ := cWp _ HX3.out _ w9 HB9.out hp9; have HP9 := Lib.hid (HP8.out.step hb9); obtain ⟨ao9, ca9, rfl⟩ := pcs_form hp9; clear he9 hb9 hp9)
              | (go_at_call 19; (with_reducible refine cZ.mono ?_); rintro e wa ⟨hea, hba⟩; obtain ⟨va, rfl, hpa⟩ := finX3.out _ _ _ hea; have HBa := Lib.hid (below_next HB9.out hba); have cS2 := sameS_any (cutL l) _ _ wa hpa (HP9.out.step hba) hl2; obtain ⟨aoa, caa, rfl⟩ := hpa.form; clear hea hba hpa)
              | (go_at_call 21; (with_reducible refine cS2.mono ?_); rintro e wb ⟨rfl, nb, hwb⟩; have HBb := Lib.hid (show Below w.heap.size w wb by rw [hwb]; exact below_drewN HBa.out nb); clear hwb)
              | (go_at_call 8; (with_reducible refine (hR _ HBb.out).mono ?_); rintro e wz ⟨rfl, hbz⟩; have HBz := Lib.hid (below_next HBb.out hbz); clear hbz)
              | (go_at_call 8; (with_reducible refine cR1.mono ?_); rintro e wz ⟨rfl, hbz⟩; have HBz := Lib.hid (below_next HB1.out hbz); clear hbz))
            all_goals
              go_ret
              exact ⟨rfl, HBz.out⟩
          · have finF3 := Lib.hid (fun B e wr (h : FromEnd B (cutL l) e wr) => show ∃ v2, e = .returned (.tuple #[v2, .int .u8 3]) ∧ PcsAt wr v2 (fromL (cutL l)) from by obtain ⟨v2, h3, h4⟩ := h; rw [c5] at h3; exact ⟨v2, h3, h4.at⟩)
            clear hb h2 c1 c2 c3 c4 c5
            go_enter Tryz.func6, Tryz.ntmps6
            go_wp2_with (first
              | (go_at_call 17; (with_reducible refine cL.mono ?_); rintro e w1 ⟨⟨b, rfl, _⟩, hw⟩; obtain rfl := hw.symm; cases b)
              | (go_at_call 18; (with_reducible refine cY.mono ?_); rintro e w1 ⟨⟨b, rfl, _⟩, hw⟩; obtain rfl := hw.symm; cases b)
              | (go_at_call 26; (with_reducible refine cF1.mono ?_); rintro e w2 ⟨he2, hb2⟩; obtain ⟨v2, rfl, hp2⟩ := finF1.out _ _ _ he2; have HB2 := Lib.hid (below_next HB1.out hb2); have cX := cWp _ HX1.out _ w2 HB2.out hp2; have HP2 := Lib.hid hp2; obtain ⟨ao2, ca2, rfl⟩ := pcs_form hp2; clear he2 hb2 hp2)
              | (go_at_call 19; (with_reducible refine cX.mono ?_); rintro e w3 ⟨he3, hb3⟩; obtain ⟨v3, rfl, hp3⟩ := finX1.out _ _ _ he3; have HB3 := Lib.hid (below_next HB2.out hb3); have cS1 := sameS_any ws _ _ w3 hp3 (HU.out.step HB3.out) hl1; have HP3 := Lib.hid (HP2.out.step hb3); obtain ⟨ao3, ca3, rfl⟩ := hp3.form; clear he3 hb3 hp3)
              | (go_at_call 21; (with_reducible refine cS1.mono ?_); rintro e w4 ⟨rfl, n4, hw4⟩; have HB4 := Lib.hid (show Below w.heap.size w w4 by rw [hw4]; exact below_drewN HB3.out n4); have cK := refCheckP_any _ _ w4 (show PcsAt w4 _ (fromL ws) by rw [hw4]; exact HP3.out.step (below_drewN (Below.refl _ _) n4)) HX1.out; rw [HCK.out] at cK; clear hw4)
              | (go_at_call 31; (with_reducible refine cK.mono ?_); rintro e w5 ⟨rfl, hb5⟩; have HP := Lib.hid (below_next HB4.out hb5); clear hb5)
              | (go_at_call 19; (with_reducible refine (cW2 _ HP.out).mono ?_); rintro e w7 ⟨he7, hb7⟩; obtain ⟨v7, rfl, hp7⟩ := finW2.out _ _ _ he7; have HB7 := Lib.hid (below_next HP.out hb7); have cC7 := cCw _ HS5.out HS6.out _ w7 HB7.out hp7; have HP7 := Lib.hid hp7; obtain ⟨ao7, ca7, rfl⟩ := hp7.form; rw [HCW.out] at cC7; clear he7 hb7 hp7)
              | (go_at_call 22; (with_reducible refine cC7.mono ?_); rintro e w8 ⟨rfl, hb8⟩; have HB8 := Lib.hid (below_next HB7.out hb8); have cF8 := cFw _ HS5.out HS6.out _ w8 HB8.out (HP7.out.step hb8); have HP8 := Lib.hid (HP7.out.step hb8); clear hb8)
              | (go_at_call 26; (with_reducible refine cF8.mono ?_); rintro e w9 ⟨he9, hb9⟩; obtain ⟨v9, rfl, hp9⟩ := finF3.out _ _ _ he9; obtain ⟨ao9, ca9, rfl⟩ := pcs_form hp9; have HB9 := Lib.hid (below_next HB8.out hb9); clear he9 hb9 hp9)
              | (go_at_call 8; (with_reducible refine (hR _ HB9.out).mono ?_); rintro e wz ⟨rfl, hbz⟩; have HBz := Lib.hid (below_next HB9.out hbz); clear hbz)
              | (go_at_call 8; (with_reducible refine cR1.mono ?_); rintro e wz ⟨rfl, hbz⟩; have HBz := Lib.hid (below_next HB1.out hbz); clear hbz))
            all_goals
              go_ret
              exact ⟨rfl, HBz.out⟩
        · have hcw : cutW l = [] := by unfold cutW; rw [if_neg h2]
          obtain ⟨Z, hZ⟩ : ∃ Z, cutE l = Z := ⟨_, rfl⟩
          have finW2 := Lib.hid (fun B e wr (h : WordsEnd B l e wr) => show ∃ v2, e = .returned (.tuple #[v2, .int .u8 Z]) ∧ StrsAt wr v2 ([] : List ByteArray) from by obtain ⟨v2, h3, h4⟩ := h; rw [hZ] at h3; rw [hcw] at h4; exact ⟨v2, h3, h4.at⟩)
          rw [hZ] at h2
          have hz1 : (Z == 0) = false := by simpa using h2
          have hz2 : (Z != 0) = true := by simpa using h2
          clear hb h2 hZ hcw
          go_enter Tryz.func6, Tryz.ntmps6
          go_wp2_with (first
            | (go_at_call 17; (with_reducible refine cL.mono ?_); rintro e w1 ⟨⟨b, rfl, _⟩, hw⟩; obtain rfl := hw.symm; cases b)
            | (go_at_call 18; (with_reducible refine cY.mono ?_); rintro e w1 ⟨⟨b, rfl, _⟩, hw⟩; obtain rfl := hw.symm; cases b)
            | (go_at_call 26; (with_reducible refine cF1.mono ?_); rintro e w2 ⟨he2, hb2⟩; obtain ⟨v2, rfl, hp2⟩ := finF1.out _ _ _ he2; have HB2 := Lib.hid (below_next HB1.out hb2); have cX := cWp _ HX1.out _ w2 HB2.out hp2; have HP2 := Lib.hid hp2; obtain ⟨ao2, ca2, rfl⟩ := pcs_form hp2; clear he2 hb2 hp2)
            | (go_at_call 19; (with_reducible refine cX.mono ?_); rintro e w3 ⟨he3, hb3⟩; obtain ⟨v3, rfl, hp3⟩ := finX1.out _ _ _ he3; have HB3 := Lib.hid (below_next HB2.out hb3); have cS1 := sameS_any ws _ _ w3 hp3 (HU.out.step HB3.out) hl1; have HP3 := Lib.hid (HP2.out.step hb3); obtain ⟨ao3, ca3, rfl⟩ := hp3.form; clear he3 hb3 hp3)
            | (go_at_call 21; (with_reducible refine cS1.mono ?_); rintro e w4 ⟨rfl, n4, hw4⟩; have HB4 := Lib.hid (show Below w.heap.size w w4 by rw [hw4]; exact below_drewN HB3.out n4); have cK := refCheckP_any _ _ w4 (show PcsAt w4 _ (fromL ws) by rw [hw4]; exact HP3.out.step (below_drewN (Below.refl _ _) n4)) HX1.out; rw [HCK.out] at cK; clear hw4)
            | (go_at_call 31; (with_reducible refine cK.mono ?_); rintro e w5 ⟨rfl, hb5⟩; have HP := Lib.hid (below_next HB4.out hb5); clear hb5)
            | (go_at_call 19; (with_reducible refine (cW2 _ HP.out).mono ?_); rintro e w7 ⟨he7, hb7⟩; obtain ⟨v7, rfl, hp7⟩ := finW2.out _ _ _ he7; obtain ⟨ao7, ca7, rfl⟩ := hp7.form; have HB7 := Lib.hid (below_next HP.out hb7); clear he7 hb7 hp7)
            | (go_at_call 8; (with_reducible refine (hR _ HB7.out).mono ?_); rintro e wz ⟨rfl, hbz⟩; have HBz := Lib.hid (below_next HB7.out hbz); clear hbz)
            | (go_at_call 8; (with_reducible refine cR1.mono ?_); rintro e wz ⟨rfl, hbz⟩; have HBz := Lib.hid (below_next HB1.out hbz); clear hbz))
          all_goals
            go_ret
            exact ⟨rfl, HBz.out⟩
      · obtain ⟨Y, hY⟩ : ∃ Y, fromE ws = Y := ⟨_, rfl⟩
        have HNE := Lib.hid h1
        rw [hY] at h1
        have hy1 : (Y == 0) = false := by simpa using h1
        have hy2 : (Y != 0) = true := by simpa using h1
        have finF1 := Lib.hid (fun B e wr (h : FromEnd B ws e wr) => show ∃ v2, e = .returned (.tuple #[v2, .int .u8 Y]) ∧ PcsAt wr v2 (fromL ws) from by obtain ⟨v2, h3, h4⟩ := h; rw [hY] at h3; exact ⟨v2, h3, h4.at⟩)
        clear h1 hY
        by_cases h2 : cutE l = 0
        · obtain ⟨c1, c2, c3⟩ := cutE_zero h2
          obtain ⟨c4, c5⟩ := from_limit h2
          have HS5 := Lib.hid (cutL_sum c1 hb)
          have HS6 := Lib.hid c2
          have HCW := Lib.hid c4
          have hl2 : (cutL l).length ≤ 1000000 := by omega
          have finW2 := Lib.hid (fun B e wr (h : WordsEnd B l e wr) => show ∃ v2, e = .returned (.tuple #[v2, .int .u8 0]) ∧ StrsAt wr v2 (cutL l) from by obtain ⟨v2, h3, h4⟩ := h; rw [h2] at h3; rw [c3] at h4; exact ⟨v2, h3, h4.at⟩)
          rcases c5 with c5 | c5
          · obtain ⟨d1, d2, d3⟩ := spaced_words c5
            have HX3 := Lib.hid (show bulk (fromL (cutL l)) ≤ 10000 by
              rw [(fromE_zero c5).2.2]
              have := (sum_bounds (cutL_sum c1 hb) c2).2.2 (cutL l).length (Nat.le_refl _)
              exact this)
            have finF3 := Lib.hid (fun B e wr (h : FromEnd B (cutL l) e wr) => show ∃ v2, e = .returned (.tuple #[v2, .int .u8 0]) ∧ PcsAt wr v2 (fromL (cutL l)) from by obtain ⟨v2, h3, h4⟩ := h; rw [c5] at h3; exact ⟨v2, h3, h4.at⟩)
            have finX3 := Lib.hid (fun B e wr (h : WordsEnd B (fromL (cutL l)) e wr) => show ∃ v2, e = .returned (.tuple #[v2, .int .u8 0]) ∧ StrsAt wr v2 (cutL l) from by obtain ⟨v2, h3, h4⟩ := h; rw [d1] at h3; rw [d2] at h4; exact ⟨v2, h3, h4.at⟩)
            clear hb h2 c1 c2 c3 c4 c5 d1 d2 d3
            go_enter Tryz.func6, Tryz.ntmps6
            go_wp2_with (first
              | (go_at_call 17; (with_reducible refine cL.mono ?_); rintro e w1 ⟨⟨b, rfl, _⟩, hw⟩; obtain rfl := hw.symm; cases b)
              | (go_at_call 18; (with_reducible refine cY.mono ?_); rintro e w1 ⟨⟨b, rfl, _⟩, hw⟩; obtain rfl := hw.symm; cases b)
              | (go_at_call 26; (with_reducible refine cF1.mono ?_); rintro e w2 ⟨he2, hb2⟩; obtain ⟨v2, rfl, hp2⟩ := finF1.out _ _ _ he2; obtain ⟨ao2, ca2, rfl⟩ := pcs_form hp2; have HP := Lib.hid (below_next HB1.out hb2); clear he2 hb2 hp2)
              | (go_at_call 19; (with_reducible refine (cW2 _ HP.out).mono ?_); rintro e w7 ⟨he7, hb7⟩; obtain ⟨v7, rfl, hp7⟩ := finW2.out _ _ _ he7; have HB7 := Lib.hid (below_next HP.out hb7); have cC7 := cCw _ HS5.out HS6.out _ w7 HB7.out hp7; have HP7 := Lib.hid hp7; obtain ⟨ao7, ca7, rfl⟩ := hp7.form; rw [HCW.out] at cC7; clear he7 hb7 hp7)
              | (go_at_call 22; (with_reducible refine cC7.mono ?_); rintro e w8 ⟨rfl, hb8⟩; have HB8 := Lib.hid (below_next HB7.out hb8); have cF8 := cFw _ HS5.out HS6.out _ w8 HB8.out (HP7.out.step hb8); have HP8 := Lib.hid (HP7.out.step hb8); clear hb8)
              | (go_at_call 26; (with_reducible refine cF8.mono ?_); rintro e w9 ⟨he9, hb9⟩; obtain ⟨v9, rfl, hp9⟩ := finF3.out _ _ _ he9; have HB9 := Lib.hid (below_next HB8.out hb9); have cZ := cWp _ HX3.out _ w9 HB9.out hp9; have HP9 := Lib.hid (HP8.out.step hb9); obtain ⟨ao9, ca9, rfl⟩ := pcs_form hp9; clear he9 hb9 hp9)
              | (go_at_call 19; (with_reducible refine cZ.mono ?_); rintro e wa ⟨hea, hba⟩; obtain ⟨va, rfl, hpa⟩ := finX3.out _ _ _ hea; have HBa := Lib.hid (below_next HB9.out hba); have cS2 := sameS_any (cutL l) _ _ wa hpa (HP9.out.step hba) hl2; obtain ⟨aoa, caa, rfl⟩ := hpa.form; clear hea hba hpa)
              | (go_at_call 21; (with_reducible refine cS2.mono ?_); rintro e wb ⟨rfl, nb, hwb⟩; have HBb := Lib.hid (show Below w.heap.size w wb by rw [hwb]; exact below_drewN HBa.out nb); clear hwb)
              | (go_at_call 8; (with_reducible refine (hR _ HBb.out).mono ?_); rintro e wz ⟨rfl, hbz⟩; have HBz := Lib.hid (below_next HBb.out hbz); clear hbz)
              | (go_at_call 8; (with_reducible refine cR1.mono ?_); rintro e wz ⟨rfl, hbz⟩; have HBz := Lib.hid (below_next HB1.out hbz); clear hbz))
            all_goals
              go_ret
              exact ⟨rfl, HBz.out⟩
          · have finF3 := Lib.hid (fun B e wr (h : FromEnd B (cutL l) e wr) => show ∃ v2, e = .returned (.tuple #[v2, .int .u8 3]) ∧ PcsAt wr v2 (fromL (cutL l)) from by obtain ⟨v2, h3, h4⟩ := h; rw [c5] at h3; exact ⟨v2, h3, h4.at⟩)
            clear hb h2 c1 c2 c3 c4 c5
            go_enter Tryz.func6, Tryz.ntmps6
            go_wp2_with (first
              | (go_at_call 17; (with_reducible refine cL.mono ?_); rintro e w1 ⟨⟨b, rfl, _⟩, hw⟩; obtain rfl := hw.symm; cases b)
              | (go_at_call 18; (with_reducible refine cY.mono ?_); rintro e w1 ⟨⟨b, rfl, _⟩, hw⟩; obtain rfl := hw.symm; cases b)
              | (go_at_call 26; (with_reducible refine cF1.mono ?_); rintro e w2 ⟨he2, hb2⟩; obtain ⟨v2, rfl, hp2⟩ := finF1.out _ _ _ he2; obtain ⟨ao2, ca2, rfl⟩ := pcs_form hp2; have HP := Lib.hid (below_next HB1.out hb2); clear he2 hb2 hp2)
              | (go_at_call 19; (with_reducible refine (cW2 _ HP.out).mono ?_); rintro e w7 ⟨he7, hb7⟩; obtain ⟨v7, rfl, hp7⟩ := finW2.out _ _ _ he7; have HB7 := Lib.hid (below_next HP.out hb7); have cC7 := cCw _ HS5.out HS6.out _ w7 HB7.out hp7; have HP7 := Lib.hid hp7; obtain ⟨ao7, ca7, rfl⟩ := hp7.form; rw [HCW.out] at cC7; clear he7 hb7 hp7)
              | (go_at_call 22; (with_reducible refine cC7.mono ?_); rintro e w8 ⟨rfl, hb8⟩; have HB8 := Lib.hid (below_next HB7.out hb8); have cF8 := cFw _ HS5.out HS6.out _ w8 HB8.out (HP7.out.step hb8); have HP8 := Lib.hid (HP7.out.step hb8); clear hb8)
              | (go_at_call 26; (with_reducible refine cF8.mono ?_); rintro e w9 ⟨he9, hb9⟩; obtain ⟨v9, rfl, hp9⟩ := finF3.out _ _ _ he9; obtain ⟨ao9, ca9, rfl⟩ := pcs_form hp9; have HB9 := Lib.hid (below_next HB8.out hb9); clear he9 hb9 hp9)
              | (go_at_call 8; (with_reducible refine (hR _ HB9.out).mono ?_); rintro e wz ⟨rfl, hbz⟩; have HBz := Lib.hid (below_next HB9.out hbz); clear hbz)
              | (go_at_call 8; (with_reducible refine cR1.mono ?_); rintro e wz ⟨rfl, hbz⟩; have HBz := Lib.hid (below_next HB1.out hbz); clear hbz))
            all_goals
              go_ret
              exact ⟨rfl, HBz.out⟩
        · have hcw : cutW l = [] := by unfold cutW; rw [if_neg h2]
          obtain ⟨Z, hZ⟩ : ∃ Z, cutE l = Z := ⟨_, rfl⟩
          have finW2 := Lib.hid (fun B e wr (h : WordsEnd B l e wr) => show ∃ v2, e = .returned (.tuple #[v2, .int .u8 Z]) ∧ StrsAt wr v2 ([] : List ByteArray) from by obtain ⟨v2, h3, h4⟩ := h; rw [hZ] at h3; rw [hcw] at h4; exact ⟨v2, h3, h4.at⟩)
          rw [hZ] at h2
          have hz1 : (Z == 0) = false := by simpa using h2
          have hz2 : (Z != 0) = true := by simpa using h2
          clear hb h2 hZ hcw
          go_enter Tryz.func6, Tryz.ntmps6
          go_wp2_with (first
            | (go_at_call 17; (with_reducible refine cL.mono ?_); rintro e w1 ⟨⟨b, rfl, _⟩, hw⟩; obtain rfl := hw.symm; cases b)
            | (go_at_call 18; (with_reducible refine cY.mono ?_); rintro e w1 ⟨⟨b, rfl, _⟩, hw⟩; obtain rfl := hw.symm; cases b)
            | (go_at_call 26; (with_reducible refine cF1.mono ?_); rintro e w2 ⟨he2, hb2⟩; obtain ⟨v2, rfl, hp2⟩ := finF1.out _ _ _ he2; obtain ⟨ao2, ca2, rfl⟩ := pcs_form hp2; have HP := Lib.hid (below_next HB1.out hb2); clear he2 hb2 hp2)
            | (go_at_call 19; (with_reducible refine (cW2 _ HP.out).mono ?_); rintro e w7 ⟨he7, hb7⟩; obtain ⟨v7, rfl, hp7⟩ := finW2.out _ _ _ he7; obtain ⟨ao7, ca7, rfl⟩ := hp7.form; have HB7 := Lib.hid (below_next HP.out hb7); clear he7 hb7 hp7)
            | (go_at_call 8; (with_reducible refine (hR _ HB7.out).mono ?_); rintro e wz ⟨rfl, hbz⟩; have HBz := Lib.hid (below_next HB7.out hbz); clear hbz)
            | (go_at_call 8; (with_reducible refine cR1.mono ?_); rintro e wz ⟨rfl, hbz⟩; have HBz := Lib.hid (below_next HB1.out hbz); clear hbz))
          all_goals
            go_ret
            exact ⟨rfl, HBz.out⟩
    · clear hv1 hu1 hb hT hN hC hsz hll hws hwn hv hu HV HU
      go_enter Tryz.func6, Tryz.ntmps6
      go_wp2_with (first
        | (go_at_call 17; (with_reducible refine cL.mono ?_); rintro e w1 ⟨⟨b, rfl, _⟩, hw⟩; obtain rfl := hw.symm; cases b)
        | (go_at_call 18; (with_reducible refine cY.mono ?_); rintro e w1 ⟨⟨b, rfl, hbb⟩, hw⟩; obtain rfl := hw.symm; obtain rfl : b = true := (by cases b; exact absurd (hbb rfl) hf; rfl); clear hbb)
        | (go_at_call 8; (with_reducible refine cR1.mono ?_); rintro e wz ⟨rfl, hbz⟩; have HBz := Lib.hid (below_next HB1.out hbz); clear hbz))
      all_goals
        go_ret
        exact ⟨rfl, HBz.out⟩
  · clear hv1 hu1 hT hN hC hsz hll hws hwn hv hu HV HU
    go_enter Tryz.func6, Tryz.ntmps6
    go_wp2_with (first
      | (go_at_call 17; (with_reducible refine cL.mono ?_); rintro e w1 ⟨⟨b, rfl, hbb⟩, hw⟩; obtain rfl := hw.symm; obtain rfl : b = true := (by cases b; exact absurd (hbb rfl) hb; rfl); clear hbb)
      | (go_at_call 8; (with_reducible refine cR1.mono ?_); rintro e wz ⟨rfl, hbz⟩; have HBz := Lib.hid (below_next HB1.out hbz); clear hbz))
    go_ret
    exact ⟨rfl, HBz.out⟩
end Go.Proofs.YtnbeomclmggbiaaGreatDoor
