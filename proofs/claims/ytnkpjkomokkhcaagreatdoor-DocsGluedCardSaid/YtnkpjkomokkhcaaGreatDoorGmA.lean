/- Decoding of texts that are put together or cut. No run of any program here. Pieces, each unit by itself, and joined again. No run of any program here. Which lists are valid, piece by piece and unit by unit; units joined are the list again. No run of any program here. A list cut at places, unit by unit. No run of any program here. The parts are valid, have the units between the places, and the text together. No run of any program here. The parts are glued to the list again. No run of any program here. A cut in two steps. No run of any program here. What the law DocsGlued asks, as data. No run of any program here. -/
import Derived.Test.YtnkpjkomokkhcaaGreatDoorGlD
import Derived.Test.YtnkpjkomokkhcaaGreatDoorCuC
namespace Go.Proofs.YtnkpjkomokkhcaaGreatDoor
open Go Go.RowKit Go.Lib
set_option maxRecDepth 100000
theorem decN_take_G {n n' b0 b1 b2 b3 b1' b2' b3' : Nat} (hn : (decodeN n b0 b1 b2 b3).2 ≤ n') (h1 : 1 < n' → b1' = b1) (h2 : 2 < n' → b2' = b2) (h3 : 3 < n' → b3' = b3) (hv : ¬ ((decodeN n b0 b1 b2 b3).1 = 65533 ∧ (decodeN n b0 b1 b2 b3).2 = 1)) :
    decodeN n' b0 b1' b2' b3' = decodeN n b0 b1 b2 b3 := by
  unfold decodeN at hv hn ⊢
  by_cases c0 : b0 < 128
  · rw [if_pos c0, if_pos c0]
  rw [if_neg c0] at hv hn ⊢
  rw [if_neg c0]
  by_cases c1 : b0 / 32 = 6 ∧ (1 < n ∧ b1 / 64 = 2)
  · rw [if_pos c1] at hv hn ⊢
    split at hn
    · rename_i v1
      have e1 := h1 (by omega)
      have hn2 : 2 ≤ n' := hn
      rw [if_pos ⟨c1.1, by omega, by rw [e1]; exact c1.2.2⟩, e1]
    · rename_i v1
      rw [if_neg v1] at hv
      exact absurd ⟨rfl, rfl⟩ hv
  rw [if_neg c1] at hv hn ⊢
  by_cases c2 : b0 / 16 = 14 ∧ (1 < n ∧ b1 / 64 = 2) ∧ (2 < n ∧ b2 / 64 = 2)
  · rw [if_pos c2] at hv hn ⊢
    split at hn
    · rename_i v1
      have hn3 : 3 ≤ n' := hn
      have e1 := h1 (by omega)
      have e2 := h2 (by omega)
      rw [if_neg (by omega), if_pos ⟨c2.1, ⟨by omega, by rw [e1]; exact c2.2.1.2⟩, by omega, by rw [e2]; exact c2.2.2.2⟩, e1, e2]
    · rename_i v1
      rw [if_neg v1] at hv
      exact absurd ⟨rfl, rfl⟩ hv
  rw [if_neg c2] at hv hn ⊢
  by_cases c3 : b0 / 8 = 30 ∧ (1 < n ∧ b1 / 64 = 2) ∧ (2 < n ∧ b2 / 64 = 2) ∧ (3 < n ∧ b3 / 64 = 2)
  · rw [if_pos c3] at hv hn ⊢
    split at hn
    · rename_i v1
      have hn4 : 4 ≤ n' := hn
      have e1 := h1 (by omega)
      have e2 := h2 (by omega)
      have e3 := h3 (by omega)
      rw [if_neg (by omega), if_neg (by omega), if_pos ⟨c3.1, ⟨by omega, by rw [e1]; exact c3.2.1.2⟩, ⟨by omega, by rw [e2]; exact c3.2.2.1.2⟩, by omega, by rw [e3]; exact c3.2.2.2.2⟩, e1, e2, e3]
    · rename_i v1
      rw [if_neg v1] at hv
      exact absurd ⟨rfl, rfl⟩ hv
  rw [if_neg c3] at hv
  exact absurd ⟨rfl, rfl⟩ hv
theorem getD_take_G {a : List UInt8} {i d : Nat} (h : i < d) : (a.take d).getD i 0 = a.getD i 0 := by
  rw [List.getD_eq_getElem?_getD, List.getD_eq_getElem?_getD, List.getElem?_take_of_lt h]
theorem dec_take_G {a : List UInt8} (hne : a ≠ []) (hv : ¬ ((decodeL a).1 = 65533 ∧ (decodeL a).2 = 1)) : decodeL (a.take (decodeL a).2) = decodeL a := by
  have hw := decodeL_width a
  have hle := decodeL_le a hne
  generalize hd : (decodeL a).2 = d at hw hle
  have hlen : (a.take d).length = d := by rw [List.length_take]; omega
  have h0 : (a.take d).getD 0 0 = a.getD 0 0 := getD_take_G (by omega)
  have hv' := hv
  have hd' := hd
  rw [decodeL_N] at hv' hd'
  rw [decodeL_N, decodeL_N, h0, hlen]
  exact decN_take_G (Nat.le_of_eq hd') (fun h => by rw [getD_take_G h]) (fun h => by rw [getD_take_G h]) (fun h => by rw [getD_take_G h]) hv'
theorem decN_mono_G {n n' b0 b1 b2 b3 b1' b2' b3' : Nat} (hn : n ≤ n') (h1 : 1 < n → b1' = b1) (h2 : 2 < n → b2' = b2) (h3 : 3 < n → b3' = b3) (hv : ¬ ((decodeN n b0 b1 b2 b3).1 = 65533 ∧ (decodeN n b0 b1 b2 b3).2 = 1)) :
    decodeN n' b0 b1' b2' b3' = decodeN n b0 b1 b2 b3 := by
  unfold decodeN at hv ⊢
  by_cases c0 : b0 < 128
  · rw [if_pos c0, if_pos c0]
  rw [if_neg c0] at hv ⊢
  rw [if_neg c0]
  by_cases c1 : b0 / 32 = 6 ∧ (1 < n ∧ b1 / 64 = 2)
  · have e1 := h1 c1.2.1
    rw [if_pos c1, if_pos ⟨c1.1, by omega, by rw [e1]; exact c1.2.2⟩, e1]
  rw [if_neg c1] at hv ⊢
  by_cases c2 : b0 / 16 = 14 ∧ (1 < n ∧ b1 / 64 = 2) ∧ (2 < n ∧ b2 / 64 = 2)
  · have e1 := h1 c2.2.1.1
    have e2 := h2 c2.2.2.1
    rw [if_pos c2, if_neg (by omega), if_pos ⟨c2.1, ⟨by omega, by rw [e1]; exact c2.2.1.2⟩, by omega, by rw [e2]; exact c2.2.2.2⟩, e1, e2]
  rw [if_neg c2] at hv ⊢
  by_cases c3 : b0 / 8 = 30 ∧ (1 < n ∧ b1 / 64 = 2) ∧ (2 < n ∧ b2 / 64 = 2) ∧ (3 < n ∧ b3 / 64 = 2)
  · have e1 := h1 c3.2.1.1
    have e2 := h2 c3.2.2.1.1
    have e3 := h3 c3.2.2.2.1
    rw [if_pos c3, if_neg (by omega), if_neg (by omega), if_pos ⟨c3.1, ⟨by omega, by rw [e1]; exact c3.2.1.2⟩, ⟨by omega, by rw [e2]; exact c3.2.2.1.2⟩, by omega, by rw [e3]; exact c3.2.2.2.2⟩, e1, e2, e3]
  rw [if_neg c3] at hv
  exact absurd ⟨rfl, rfl⟩ hv
theorem getD_app_G {a b : List UInt8} {i : Nat} (h : i < a.length) : (a ++ b).getD i 0 = a.getD i 0 := by
  rw [List.getD_eq_getElem?_getD, List.getD_eq_getElem?_getD, List.getElem?_append_left h]
theorem dec_app_G {a b : List UInt8} (hne : a ≠ []) (hv : ¬ ((decodeL a).1 = 65533 ∧ (decodeL a).2 = 1)) : decodeL (a ++ b) = decodeL a := by
  have hl : 0 < a.length := List.length_pos_iff.2 hne
  rw [decodeL_N] at hv
  rw [decodeL_N, decodeL_N, getD_app_G hl]
  exact decN_mono_G (by rw [List.length_append]; omega) (fun h => by rw [getD_app_G h]) (fun h => by rw [getD_app_G h]) (fun h => by rw [getD_app_G h]) hv
/-- the runes of a text -/
def runesL_G (l : List UInt8) : List Nat := runesG l.length l
theorem runesL_step_G {l : List UInt8} (hne : l ≠ []) : runesL_G l = (decodeL l).1 :: runesL_G (l.drop (decodeL l).2) := by
  have hl : 0 < l.length := List.length_pos_iff.2 hne
  have hw := decodeL_width l
  obtain ⟨n, hn⟩ : ∃ n, l.length = n + 1 := ⟨l.length - 1, by omega⟩
  unfold runesL_G
  rw [hn]
  simp only [runesG, if_neg hne]
  rw [runesG_fuel n (l.drop (decodeL l).2).length _ (by rw [List.length_drop]; omega) (Nat.le_refl _)]
theorem text_app_G : ∀ (n : Nat) (a b : List UInt8), a.length ≤ n → textL a = true → textL b = true → textL (a ++ b) = true ∧ runesL_G (a ++ b) = runesL_G a ++ runesL_G b
  | 0, a, b, h, _, hb => by
    obtain rfl : a = [] := List.eq_nil_of_length_eq_zero (by omega)
    exact ⟨hb, rfl⟩
  | n + 1, a, b, h, ha, hb => by
    by_cases hne : a = []
    · subst hne
      exact ⟨hb, rfl⟩
    · have hl : 0 < a.length := List.length_pos_iff.2 hne
      have hw := decodeL_width a
      have hle := decodeL_le a hne
      have hne2 : a ++ b ≠ [] := by simp [hne]
      rw [textL_step a hne] at ha
      simp only [Bool.and_eq_true, Bool.not_eq_true', decide_eq_false_iff_not] at ha
      obtain ⟨⟨h1, h2⟩, h3⟩ := ha
      have hd := dec_app_G (b := b) hne h1
      have hdr : (a ++ b).drop (decodeL a).2 = a.drop (decodeL a).2 ++ b := List.drop_append_of_le_length hle
      obtain ⟨i1, i2⟩ := text_app_G n (a.drop (decodeL a).2) b (by rw [List.length_drop]; omega) h3 hb
      refine ⟨?_, ?_⟩
      · rw [textL_step _ hne2, hd, hdr, i1, h2]
        simp [h1]
      · rw [runesL_step_G hne2, runesL_step_G hne, hd, hdr, i2]
        rfl
theorem textL_app_G {a b : List UInt8} (ha : textL a = true) (hb : textL b = true) : textL (a ++ b) = true := (text_app_G _ a b (Nat.le_refl _) ha hb).1
theorem runesL_app_G {a b : List UInt8} (ha : textL a = true) (hb : textL b = true) : runesL_G (a ++ b) = runesL_G a ++ runesL_G b := (text_app_G _ a b (Nat.le_refl _) ha hb).2
theorem enc_runes_G {t : List UInt8} (h : textL t = true) : encAll (runesL_G t) = t := by
  unfold textL at h
  rw [Bool.and_eq_true] at h
  exact (enc_iff t.length t (Nat.le_refl _)).2 h.1
end Go.Proofs.YtnkpjkomokkhcaaGreatDoor
namespace Go.Proofs.YtnkpjkomokkhcaaGreatDoor
open Go Go.RowKit Go.Lib
set_option maxRecDepth 100000
/-- a rune that stands by itself -/
def goodR (r : Nat) : Prop := textL (Utf8.encode (r : Int)).data.toList = true ∧ runesL_G (Utf8.encode (r : Int)).data.toList = [r]
theorem good_runes : ∀ (n : Nat) (l : List UInt8), l.length ≤ n → textL l = true → ∀ r ∈ runesL_G l, goodR r
  | 0, l, hn, _, r, hr => by
    obtain rfl : l = [] := List.eq_nil_of_length_eq_zero (by omega)
    cases hr
  | n + 1, l, hn, ht, r, hr => by
    by_cases hne : l = []
    · subst hne; cases hr
    · rw [runesL_step_G hne] at hr
      rw [textL_step l hne] at ht
      simp only [Bool.and_eq_true, Bool.not_eq_true', decide_eq_false_iff_not] at ht
      obtain ⟨⟨h1, h2⟩, h3⟩ := ht
      have hw := decodeL_width l
      have hle := decodeL_le l hne
      have hl : 0 < l.length := List.length_pos_iff.2 hne
      rcases List.mem_cons.1 hr with rfl | hr
      · have he := roundtrip l hne h1
        have hd := dec_take_G hne h1
        have hne2 : l.take (decodeL l).2 ≠ [] := by
          intro h
          have := congrArg List.length h
          rw [List.length_take, List.length_nil] at this
          omega
        have hdr : (l.take (decodeL l).2).drop (decodeL l).2 = [] := by
          apply List.drop_eq_nil_of_le
          rw [List.length_take]; omega
        refine ⟨?_, ?_⟩
        · rw [he, textL_step _ hne2, hd, hdr, h2]
          simp [h1, textL_nil]
        · rw [he, runesL_step_G hne2, hd, hdr]
          rfl
      · exact good_runes n _ (by rw [List.length_drop]; omega) h3 r hr
theorem runesOf_L (s : ByteArray) : runesOf s = runesL_G s.data.toList := rfl
theorem good_of {s : ByteArray} (ht : textB s = true) : ∀ r ∈ runesOf s, goodR r := fun r hr => good_runes _ _ (Nat.le_refl _) (by rw [← textB_L]; exact ht) r hr
theorem enc_of {s : ByteArray} (ht : textB s = true) : encAll (runesOf s) = s.data.toList := enc_runes_G (by rw [← textB_L]; exact ht)
theorem good_size {r : Nat} : 0 < (Utf8.encode (r : Int)).size := by
  unfold Utf8.encode
  dsimp only
  split <;> (try split) <;> (try split) <;> (try split) <;> simp [ByteArray.size]
theorem runP_s (r : Nat) : (runP r).s = Utf8.encode (r : Int) := by simp only [runP]
theorem runP_k (r : Nat) : (runP r).k = 1 := by simp only [runP]
theorem runP_c (r : Nat) : (runP r).c = false := by simp only [runP]
theorem runP_text {r : Nat} (h : goodR r) : (runP r).c = false ∧ 0 < (runP r).s.size ∧ textB (runP r).s = true := by
  rw [runP_s, textB_L]
  exact ⟨runP_c r, good_size, h.1⟩
/-- an atom: a tag, a hole, or a unit by itself -/
def atomP (x : Pc) : Prop := x.k = 1 → ∃ r, x = runP r ∧ goodR r
theorem atom_un {x : Pc} (h : atomP x) : unP x = [x] := by
  unfold unP
  by_cases h1 : x.k = 1
  · obtain ⟨r, rfl, h2, h3⟩ := h h1
    rw [if_pos h1, runesOf_L, runP_s, h3]
    rfl
  · rw [if_neg h1]
theorem atom_piece {x : Pc} (h : pieceE x = 0) : ∀ y ∈ unP x, atomP y := by
  intro y hy
  unfold unP at hy
  by_cases h1 : x.k = 1
  · rw [if_pos h1] at hy
    obtain ⟨r, hr, rfl⟩ := List.mem_map.1 hy
    intro _
    exact ⟨r, rfl, good_of (text_pc h h1) r hr⟩
  · rw [if_neg h1] at hy
    rw [List.mem_singleton.1 hy]
    exact fun h2 => absurd h2 h1
theorem atom_single {l : List Pc} (h : ∀ x ∈ l, pieceE x = 0) : ∀ y ∈ singleL l, atomP y := by
  intro y hy
  obtain ⟨x, hx, hy⟩ := List.mem_flatMap.1 hy
  exact atom_piece (h x hx) y hy
theorem single_app (a b : List Pc) : singleL (a ++ b) = singleL a ++ singleL b := List.flatMap_append
/-- atoms joined: texts come together -/
def joinL (S : List Pc) : List Pc := S.foldl addP []
theorem joinL_snoc (S : List Pc) (x : Pc) : joinL (S ++ [x]) = addP (joinL S) x := by unfold joinL; rw [List.foldl_append]; rfl
/-- a text piece as joining makes it -/
def textP (x : Pc) : Prop := x.k = 1 → x.c = false ∧ 0 < x.s.size ∧ textB x.s = true
/-- no two texts side by side, behind a -/
def noAdj : Pc → List Pc → Prop
  | _, [] => True
  | a, x :: l => ¬ (x.k = 1 ∧ a.k = 1) ∧ noAdj x l
theorem noAdj_snoc : ∀ (l : List Pc) (a x : Pc), noAdj a l → ¬ (x.k = 1 ∧ (l.getLast?.getD a).k = 1) → noAdj a (l ++ [x])
  | [], a, x, _, h => ⟨h, trivial⟩
  | y :: l, a, x, h, h2 => by
    refine ⟨h.1, noAdj_snoc l y x h.2 ?_⟩
    have e : (y :: l).getLast?.getD a = l.getLast?.getD y := by
      cases l with
      | nil => rfl
      | cons z l => rw [List.getLast?_cons_cons]; cases hq : (z :: l).getLast? with
        | none => simp at hq
        | some q => rfl
    rwa [e] at h2
theorem noAdj_last : ∀ (l : List Pc) (a y z : Pc), noAdj a (l ++ [y]) → y.k = z.k → noAdj a (l ++ [z])
  | [], a, y, z, h, e => ⟨by rw [← e]; exact h.1, trivial⟩
  | x :: l, a, y, z, h, e => ⟨h.1, noAdj_last l x y z h.2 e⟩
def tag0 : Pc := ⟨2, ⟨#[]⟩, true⟩
structure Joined (S L : List Pc) : Prop where
  one : singleL L = S
  txt : ∀ x ∈ L, textP x
  tag : ∀ x ∈ L, x.k ≠ 1 → x ∈ S
  adj : noAdj tag0 L
theorem Joined.nil : Joined [] [] := ⟨rfl, (fun x h => by cases h), (fun x h => by cases h), trivial⟩
theorem getLast_snoc {α : Type} (l : List α) (y a : α) : (l ++ [y]).getLast?.getD a = y := by rw [List.getLast?_concat]; rfl
theorem str_app {s : ByteArray} {r : Nat} (hs : textB s = true) (hr : goodR r) : textB (s ++ Utf8.encode (r : Int)) = true ∧ runesOf (s ++ Utf8.encode (r : Int)) = runesOf s ++ [r] := by
  have e : (s ++ Utf8.encode (r : Int)).data.toList = s.data.toList ++ (Utf8.encode (r : Int)).data.toList := by simp
  rw [textB_L] at hs ⊢
  rw [runesOf_L, runesOf_L, e]
  exact ⟨textL_app_G hs hr.1, by rw [runesL_app_G hs hr.1, hr.2]⟩
theorem Joined.snoc {S L : List Pc} (h : Joined S L) {x : Pc} (hx : atomP x) : Joined (S ++ [x]) (addP L x) := by
  rcases List.eq_nil_or_concat L with rfl | ⟨L0, y, rfl⟩
  · rw [addP_nil]
    have hS : S = [] := h.one.symm
    subst hS
    refine ⟨?_, ?_, ?_, ⟨fun e => absurd e.2 (by unfold tag0; decide), trivial⟩⟩
    · show unP x ++ [] = _; rw [atom_un hx]; rfl
    · intro y hy
      rw [List.mem_singleton.1 hy]
      intro h1
      obtain ⟨r, rfl, h2⟩ := hx h1
      exact runP_text h2
    · intro y hy _; exact hy
  · rw [List.concat_eq_append] at h ⊢
    by_cases hk : x.k = 1 ∧ y.k = 1
    · rw [addP_join hk.1 hk.2]
      obtain ⟨r, rfl, hg⟩ := hx hk.1
      obtain ⟨hc, hp, ht⟩ := h.txt y (by simp) hk.2
      obtain ⟨t1, t2⟩ := str_app ht hg
      have hz : (⟨y.k, y.s ++ (runP r).s, y.c⟩ : Pc) = ⟨1, y.s ++ Utf8.encode (r : Int), false⟩ := by rw [hk.2, hc, runP_s]
      rw [hz]
      refine ⟨?_, ?_, ?_, noAdj_last L0 tag0 y _ h.adj hk.2⟩
      · rw [single_app, ← h.one, single_app, List.append_assoc]
        congr 1
        show unP _ ++ [] = unP y ++ [] ++ [runP r]
        unfold unP
        rw [if_pos rfl, if_pos hk.2, t2]
        simp
      · intro z hz
        rcases List.mem_append.1 hz with hz | hz
        · exact h.txt z (by simp [hz])
        · rw [List.mem_singleton.1 hz]
          intro _
          exact ⟨rfl, by simp; omega, t1⟩
      · intro z hz hk1
        rcases List.mem_append.1 hz with hz | hz
        · exact List.mem_append_left _ (h.tag z (by simp [hz]) hk1)
        · rw [List.mem_singleton.1 hz] at hk1
          exact absurd rfl hk1
    · rw [addP_more hk]
      refine ⟨?_, ?_, ?_, noAdj_snoc _ _ _ h.adj (by rw [getLast_snoc]; exact hk)⟩
      · rw [single_app, h.one]
        congr 1
        show unP x ++ [] = _
        rw [atom_un hx]; rfl
      · intro z hz
        rcases List.mem_append.1 hz with hz | hz
        · exact h.txt z hz
        · rw [List.mem_singleton.1 hz]
          intro h1
          obtain ⟨r, rfl, h2⟩ := hx h1
          exact runP_text h2
      · intro z hz hk1
        rcases List.mem_append.1 hz with hz | hz
        · exact List.mem_append_left _ (h.tag z hz hk1)
        · rw [List.mem_singleton.1 hz]
          exact List.mem_append_right _ (List.mem_singleton.2 rfl)
theorem joined_fold : ∀ (T S L : List Pc), Joined S L → (∀ x ∈ T, atomP x) → Joined (S ++ T) (T.foldl addP L)
  | [], S, L, h, _ => by rw [List.append_nil]; exact h
  | x :: T, S, L, h, hT => by
    have := joined_fold T (S ++ [x]) (addP L x) (h.snoc (hT x (List.mem_cons_self ..))) fun y hy => hT y (List.mem_cons_of_mem _ hy)
    rw [List.append_assoc] at this
    exact this
theorem joined (S : List Pc) (h : ∀ x ∈ S, atomP x) : Joined S (joinL S) := joined_fold S [] [] Joined.nil h
end Go.Proofs.YtnkpjkomokkhcaaGreatDoor
namespace Go.Proofs.YtnkpjkomokkhcaaGreatDoor
open Go Go.RowKit Go.Lib
set_option maxRecDepth 100000
/-- the pieces from here on are valid behind a, with op open -/
def chk : Pc → List ByteArray → List Pc → Prop
  | _, op, [] => op = []
  | a, op, x :: S => pieceE x = 0 ∧ misB a x = false ∧ ∃ op', folE op x = .ok op' ∧ chk x op' S
def prevP (l : List Pc) (i : Nat) : Pc := if i = 0 then tag0 else l.getD (i - 1) nil
theorem drop_pc {l : List Pc} {i : Nat} (h : i < l.length) : l.drop i = l.getD i nil :: l.drop (i + 1) := by
  rw [List.drop_eq_getElem_cons h, List.getD_eq_getElem?_getD, List.getElem?_eq_getElem h]
  rfl
theorem prev_succ (l : List Pc) (i : Nat) : prevP l (i + 1) = l.getD i nil := by unfold prevP; rw [if_neg (by omega)]; rfl
theorem mis_tag0 (x : Pc) : misB tag0 x = false := by
  unfold misB
  rw [show coB tag0 = true from rfl, show ccB tag0 = false from rfl]
  simp
theorem here_prev {l : List Pc} {i : Nat} (h : hereE l i = 0) : pieceE (l.getD i nil) = 0 ∧ misB (prevP l i) (l.getD i nil) = false ∧ ¬ ((l.getD i nil).k = 1 ∧ (prevP l i).k = 1) := by
  unfold hereE at h
  by_cases h1 : pieceE (l.getD i nil) = 0
  · rw [if_neg (fun e => e h1)] at h
    by_cases h2 : i = 0
    · subst h2
      exact ⟨h1, mis_tag0 _, fun e => absurd e.2 (by unfold prevP tag0; simp)⟩
    · rw [if_neg h2] at h
      unfold prevP
      rw [if_neg h2]
      unfold nbrE at h
      split at h
      · cases h
      · rename_i h3
        split at h
        · cases h
        · rename_i h4
          exact ⟨h1, by simpa using h4, h3⟩
  · rw [if_pos h1] at h
    exact absurd h h1
theorem runC_nz : ∀ (n : Nat) {l : List Pc}, runC l n ≠ .error 0
  | 0, l, h => by simp [runC] at h
  | n + 1, l, hop => by
    simp only [runC] at hop
    cases e : runC l n with
    | error x => rw [e] at hop; exact runC_nz n (by rw [e]; exact hop)
    | ok o =>
      rw [e] at hop
      have hop' : (if hereE l n ≠ 0 then Except.error (hereE l n) else folE o (l.getD n nil)) = Except.error 0 := hop
      split at hop'
      · rename_i hh; injection hop' with h0; exact hh h0
      · unfold folE at hop'
        split at hop'
        · split at hop' <;> cases hop'
        · split at hop'
          · split at hop' <;> cases hop'
          · cases hop'
theorem prev_here {l : List Pc} {i : Nat} (h1 : pieceE (l.getD i nil) = 0) (h2 : misB (prevP l i) (l.getD i nil) = false) (h3 : ¬ ((l.getD i nil).k = 1 ∧ (prevP l i).k = 1)) : hereE l i = 0 := by
  unfold hereE
  rw [if_neg (fun e => e h1)]
  by_cases h0 : i = 0
  · rw [if_pos h0]
  · rw [if_neg h0]
    unfold prevP at h2 h3
    rw [if_neg h0] at h2 h3
    unfold nbrE
    rw [if_neg h3, if_neg (fun e => by rw [h2] at e; cases e)]
theorem chk_from {l : List Pc} (hz : runC l l.length = .ok []) : ∀ (d i : Nat) (op : List ByteArray), i + d = l.length → runC l i = .ok op → chk (prevP l i) op (l.drop i) ∧ noAdj (prevP l i) (l.drop i)
  | 0, i, op, hi, hr => by
    obtain rfl : i = l.length := by omega
    rw [hz] at hr
    injection hr with hr
    rw [List.drop_length]
    exact ⟨hr.symm, trivial⟩
  | d + 1, i, op, hi, hr => by
    obtain ⟨op', hs⟩ := runC_ok hz (i + 1) (by omega)
    have hh : hereE l i = 0 := runC_here hs i (by omega)
    obtain ⟨g1, g2, g3⟩ := here_prev hh
    have hs2 := hs
    simp only [runC, hr, hh, ne_eq, not_true_eq_false, if_false] at hs2
    obtain ⟨h1, h2⟩ := chk_from hz d (i + 1) op' (by omega) hs
    rw [prev_succ] at h1 h2
    rw [drop_pc (by omega)]
    exact ⟨⟨g1, g2, op', hs2, h1⟩, g3, h2⟩
theorem run_from {l : List Pc} : ∀ (d i : Nat) (op : List ByteArray), i + d = l.length → runC l i = .ok op → chk (prevP l i) op (l.drop i) → noAdj (prevP l i) (l.drop i) → runC l l.length = .ok []
  | 0, i, op, hi, hr, hc, _ => by
    obtain rfl : i = l.length := by omega
    rw [List.drop_length] at hc
    rw [hr, show op = [] from hc]
  | d + 1, i, op, hi, hr, hc, hn => by
    rw [drop_pc (by omega)] at hc hn
    obtain ⟨g1, g2, op', hf, h1⟩ := hc
    obtain ⟨g3, h2⟩ := hn
    refine run_from d (i + 1) op' (by omega) ?_ (by rw [prev_succ]; exact h1) (by rw [prev_succ]; exact h2)
    simp only [runC, hr, prev_here g1 g2 g3, ne_eq, not_true_eq_false, if_false]
    exact hf
theorem chk_of {l : List Pc} (h : checkE l = 0) : l.length ≤ 512 ∧ chk tag0 [] l ∧ noAdj tag0 l := by
  have hl : ¬ 512 < l.length := by
    intro h0
    rw [checkE_limit h0] at h
    cases h
  unfold checkE at h
  rw [if_neg hl] at h
  cases hr : runC l l.length with
  | error e =>
    rw [hr] at h
    dsimp only at h
    subst h
    exact absurd hr (runC_nz _)
  | ok op =>
    rw [hr] at h
    dsimp only at h
    split at h
    · rename_i h0
      subst h0
      exact ⟨by omega, chk_from hr l.length 0 [] (by omega) rfl⟩
    · cases h
theorem check_of {l : List Pc} (hl : l.length ≤ 512) (h : chk tag0 [] l) (ha : noAdj tag0 l) : checkE l = 0 := by
  rw [checkE_ok (by omega) (run_from l.length 0 [] (by omega) rfl h ha), if_pos rfl]
theorem chk_congr : ∀ {l : List Pc} {a b : Pc} {op : List ByteArray}, coB a = coB b → ccB a = ccB b → chk a op l → chk b op l
  | [], _, _, _, _, _, h => h
  | x :: l, a, b, op, h1, h2, h => by
    obtain ⟨g1, g2, g3⟩ := h
    refine ⟨g1, ?_, g3⟩
    unfold misB at g2 ⊢
    rw [← h1, ← h2]
    exact g2
theorem co_text {x : Pc} (h : x.k = 1) : coB x = false ∧ ccB x = false := by
  unfold coB ccB
  rw [h]
  exact ⟨rfl, rfl⟩
theorem fol_text {op : List ByteArray} {x : Pc} (h : x.k = 1) : folE op x = .ok op := by
  unfold folE
  rw [if_neg (by omega), if_neg (by omega)]
theorem piece_text {x : Pc} (h : x.k = 1) (ht : textP x) : pieceE x = 0 := by
  obtain ⟨h1, h2, h3⟩ := ht h
  unfold pieceE
  rw [if_neg (by omega), if_neg (by rw [h1]; simp), if_pos h, if_neg (fun e => by rcases e with e | e <;> first | omega | (rw [h3] at e; cases e))]
theorem piece_run {r : Nat} (h : goodR r) : pieceE (runP r) = 0 := piece_text (runP_k r) fun _ => runP_text h
theorem mis_text {a x : Pc} (hx : x.k = 1) : misB a x = ccB a := by
  obtain ⟨h1, h2⟩ := co_text hx
  unfold misB
  rw [h1, h2]
  simp
theorem chk_cons {a x : Pc} {op : List ByteArray} {S : List Pc} : chk a op (x :: S) = (pieceE x = 0 ∧ misB a x = false ∧ ∃ op', folE op x = .ok op' ∧ chk x op' S) := by rw [chk]
theorem chk_runs {rest : List Pc} {op : List ByteArray} : ∀ (rs : List Nat) (a : Pc), a.k = 1 → (∀ r ∈ rs, goodR r) → (chk a op (rs.map runP ++ rest) ↔ chk a op rest)
  | [], a, _, _ => Iff.rfl
  | r :: rs, a, ha, hg => by
    have ih := chk_runs (rest := rest) (op := op) rs (runP r) (runP_k r) fun q hq => hg q (List.mem_cons_of_mem _ hq)
    have hr := hg r (List.mem_cons_self ..)
    obtain ⟨a1, a2⟩ := co_text ha
    obtain ⟨b1, b2⟩ := co_text (runP_k r)
    constructor
    · rintro ⟨_, _, op', hf, hc⟩
      rw [fol_text (runP_k r)] at hf
      injection hf with hf
      subst hf
      exact chk_congr (by rw [a1, b1]) (by rw [a2, b2]) (ih.1 hc)
    · intro hc
      refine ⟨piece_run hr, by rw [mis_text (runP_k r)]; exact a2, op, fol_text (runP_k r), ih.2 (chk_congr (by rw [a1, b1]) (by rw [a2, b2]) hc)⟩
theorem runes_ne {s : ByteArray} (hp : 0 < s.size) (ht : textB s = true) : ∃ r rs, runesOf s = r :: rs ∧ ∀ q ∈ r :: rs, goodR q := by
  have hg := good_of ht
  cases hr : runesOf s with
  | nil =>
    have he := enc_of ht
    rw [hr] at he
    have h2 := bytes_len s
    rw [← he] at h2
    simp [encAll] at h2
    omega
  | cons r rs => exact ⟨r, rs, rfl, by rw [← hr]; exact hg⟩
theorem text_of_piece {x : Pc} (h : pieceE x = 0) (hk : x.k = 1) : x.c = false ∧ 0 < x.s.size ∧ textB x.s = true := by
  have ht := text_pc h hk
  unfold pieceE at h
  split at h
  · cases h
  · split at h
    · cases h
    · rename_i h2
      try rw [if_pos hk] at h
      split at h
      · cases h
      · rename_i h3
        refine ⟨?_, ?_, ht⟩
        · cases hc : x.c
          · rfl
          · exact absurd ⟨hc, by omega, by omega⟩ h2
        · simp only [not_or] at h3
          omega
/-- a list is valid, piece by piece, just if it is unit by unit -/
theorem chk_single : ∀ (l : List Pc) (a : Pc) (op : List ByteArray), (∀ x ∈ l, textP x) → (chk a op l ↔ chk a op (singleL l))
  | [], _, _, _ => Iff.rfl
  | x :: l, a, op, ht => by
    have ih := fun op' => chk_single l x op' fun y hy => ht y (List.mem_cons_of_mem _ hy)
    have hx := ht x (List.mem_cons_self ..)
    have e : singleL (x :: l) = unP x ++ singleL l := rfl
    rw [e]
    by_cases hk : x.k = 1
    · obtain ⟨h1, h2, h3⟩ := hx hk
      obtain ⟨r, rs, hr, hg⟩ := runes_ne h2 h3
      have eu : unP x = runP r :: rs.map runP := by unfold unP; rw [if_pos hk, hr, List.map_cons]
      rw [eu, List.cons_append, chk_cons, chk_cons]
      have hrg := hg r (List.mem_cons_self ..)
      have hrun := fun op' => chk_runs (rest := singleL l) (op := op') rs (runP r) (runP_k r) fun q hq => hg q (List.mem_cons_of_mem _ hq)
      obtain ⟨c1, c2⟩ := co_text hk
      obtain ⟨b1, b2⟩ := co_text (runP_k r)
      constructor
      · rintro ⟨g1, g2, op', hf, hc⟩
        rw [fol_text hk] at hf
        obtain rfl : op = op' := Except.ok.inj hf
        rw [mis_text hk] at g2
        exact ⟨piece_run hrg, by rw [mis_text (runP_k r)]; exact g2, op, fol_text (runP_k r), (hrun op).2 (chk_congr (by rw [c1, b1]) (by rw [c2, b2]) ((ih op).1 hc))⟩
      · rintro ⟨g1, g2, op', hf, hc⟩
        rw [fol_text (runP_k r)] at hf
        obtain rfl : op = op' := Except.ok.inj hf
        rw [mis_text (runP_k r)] at g2
        exact ⟨piece_text hk hx, by rw [mis_text hk]; exact g2, op, fol_text hk, (ih op).2 (chk_congr (by rw [c1, b1]) (by rw [c2, b2]) ((hrun op).1 hc))⟩
    · have eu : unP x = [x] := by unfold unP; rw [if_neg hk]
      rw [eu]
      constructor
      · rintro ⟨g1, g2, op', hf, hc⟩
        exact ⟨g1, g2, op', hf, (ih op').1 hc⟩
      · rintro ⟨g1, g2, op', hf, hc⟩
        exact ⟨g1, g2, op', hf, (ih op').2 hc⟩
/-! what is joined -/
theorem addP_text (L : List Pc) (t : ByteArray) (r : Nat) : addP (addP L ⟨1, t, false⟩) (runP r) = addP L ⟨1, t ++ Utf8.encode (r : Int), false⟩ := by
  rcases List.eq_nil_or_concat L with rfl | ⟨L0, y, rfl⟩
  · rw [addP_nil, addP_nil]
    have := addP_join (o := []) (y := ⟨1, t, false⟩) (x := runP r) (runP_k r) rfl
    rw [List.nil_append] at this
    rw [this, runP_s]
    rfl
  · rw [List.concat_eq_append]
    by_cases hk : y.k = 1
    · have e1 := addP_join (o := L0) (y := y) (x := ⟨1, t, false⟩) rfl hk
      have e2 := addP_join (o := L0) (y := y) (x := ⟨1, t ++ Utf8.encode (r : Int), false⟩) rfl hk
      have e3 := addP_join (o := L0) (y := ⟨y.k, y.s ++ t, y.c⟩) (x := runP r) (runP_k r) hk
      rw [e1, e2]
      refine e3.trans ?_
      rw [runP_s, ByteArray.append_assoc]
    · have e1 := addP_more (o := L0) (y := y) (x := ⟨1, t, false⟩) (by rintro ⟨_, h⟩; exact hk h)
      have e2 := addP_more (o := L0) (y := y) (x := ⟨1, t ++ Utf8.encode (r : Int), false⟩) (by rintro ⟨_, h⟩; exact hk h)
      have e3 := addP_join (o := L0 ++ [y]) (y := ⟨1, t, false⟩) (x := runP r) (runP_k r) rfl
      rw [e1, e2]
      refine e3.trans ?_
      rw [runP_s]
theorem addP_runs (L : List Pc) : ∀ (rs : List Nat) (t : ByteArray), (rs.map runP).foldl addP (addP L ⟨1, t, false⟩) = addP L ⟨1, t ++ bytes (encAll rs), false⟩
  | [], t => by
    show addP L _ = _
    rw [show t ++ bytes (encAll []) = t by apply ByteArray.ext; simp [encAll, bytes]]
  | r :: rs, t => by
    rw [List.map_cons, List.foldl_cons, addP_text, addP_runs L rs]
    congr 2
    rw [show encAll (r :: rs) = (Utf8.encode (r : Int)).data.toList ++ encAll rs from rfl]
    apply ByteArray.ext
    apply Array.ext'
    simp [bytes]
theorem addP_un (L : List Pc) {x : Pc} (h : textP x) : (unP x).foldl addP L = addP L x := by
  by_cases hk : x.k = 1
  · obtain ⟨h1, h2, h3⟩ := h hk
    obtain ⟨r, rs, hr, _⟩ := runes_ne h2 h3
    have he := enc_of h3
    unfold unP
    rw [if_pos hk, hr, List.map_cons, List.foldl_cons]
    have e1 : runP r = ⟨1, Utf8.encode (r : Int), false⟩ := by simp only [runP]
    rw [e1, addP_runs]
    have e2 : x = ⟨1, x.s, false⟩ := by
      obtain ⟨k, s, c⟩ := x
      dsimp only at hk h1
      subst hk h1
      rfl
    have e3 : Utf8.encode (r : Int) ++ bytes (encAll rs) = x.s := by
      apply ByteArray.ext
      apply Array.ext'
      rw [← he, hr]
      simp [bytes, encAll]
    rw [e3, ← e2]
  · unfold unP
    rw [if_neg hk]
    rfl
theorem fold_single : ∀ (l L : List Pc), (∀ x ∈ l, textP x) → (singleL l).foldl addP L = l.foldl addP L
  | [], _, _ => rfl
  | x :: l, L, h => by
    show (unP x ++ singleL l).foldl addP L = _
    rw [List.foldl_append, addP_un L (h x (List.mem_cons_self ..)), fold_single l _ fun y hy => h y (List.mem_cons_of_mem _ hy)]
    rfl
theorem fold_noAdj : ∀ (l L : List Pc), noAdj (L.getLast?.getD tag0) l → l.foldl addP L = L ++ l
  | [], L, _ => by simp
  | x :: l, L, h => by
    have e : addP L x = L ++ [x] := by
      rcases List.eq_nil_or_concat L with rfl | ⟨L0, y, rfl⟩
      · rfl
      · rw [List.concat_eq_append] at h ⊢
        rw [getLast_snoc] at h
        exact addP_more h.1
    rw [List.foldl_cons, e, fold_noAdj l _ (by rw [getLast_snoc]; exact h.2), List.append_assoc]
    rfl
theorem join_single {l : List Pc} (h : checkE l = 0) : joinL (singleL l) = l := by
  obtain ⟨_, _, ha⟩ := chk_of h
  unfold joinL
  rw [fold_single l [] fun x hx hk => text_of_piece (valid_mem h x hx) hk, fold_noAdj l [] ha]
  rfl
/-- what atoms that are valid make together is valid -/
theorem check_join {S : List Pc} (ha : ∀ x ∈ S, atomP x) (hc : chk tag0 [] S) (hl : (joinL S).length ≤ 512) : checkE (joinL S) = 0 := by
  have hj := joined S ha
  exact check_of hl ((chk_single _ _ _ hj.txt).2 (by rw [hj.one]; exact hc)) hj.adj
theorem chk_atoms {l : List Pc} (h : checkE l = 0) : chk tag0 [] (singleL l) := (chk_single l tag0 [] fun x hx hk => text_of_piece (valid_mem h x hx) hk).1 (chk_of h).2.1
end Go.Proofs.YtnkpjkomokkhcaaGreatDoor
namespace Go.Proofs.YtnkpjkomokkhcaaGreatDoor
open Go Go.RowKit Go.Lib
set_option maxRecDepth 100000
/-- the atoms of the parts: at the place that comes next, what is open is closed, and opened again -/
def rawG : List Int → Nat → List ByteArray → List Pc → List Pc → List (List Pc)
  | _, _, _, acc, [] => [acc]
  | [], u, op, acc, x :: S => rawG [] (cutUn u x) (cutOpn op x) (acc ++ [x]) S
  | p :: r, u, op, acc, x :: S => if (u : Int) = p ∧ x.k ≠ 3 then (acc ++ closersP op) :: rawG r (cutUn u x) (cutOpn op x) (openersP op ++ [x]) S else rawG (p :: r) (cutUn u x) (cutOpn op x) (acc ++ [x]) S
theorem rawG_end (at' : List Int) (u : Nat) (op : List ByteArray) (acc : List Pc) : rawG at' u op acc [] = [acc] := by cases at' <;> rfl
theorem rawG_none (u : Nat) (op : List ByteArray) (acc : List Pc) : ∀ S : List Pc, rawG [] u op acc S = [acc ++ S]
  | [] => by rw [rawG_end, List.append_nil]
  | x :: S => by
    rw [rawG, rawG_none (cutUn u x) (cutOpn op x) (acc ++ [x]) S, List.append_assoc]
    rfl
theorem rawG_cut {p : Int} {r : List Int} {u : Nat} {op : List ByteArray} {acc S : List Pc} {x : Pc} (h : (u : Int) = p ∧ x.k ≠ 3) : rawG (p :: r) u op acc (x :: S) = (acc ++ closersP op) :: rawG r (cutUn u x) (cutOpn op x) (openersP op ++ [x]) S := by
  rw [rawG, if_pos h]
theorem rawG_go {p : Int} {r : List Int} {u : Nat} {op : List ByteArray} {acc S : List Pc} {x : Pc} (h : ¬ ((u : Int) = p ∧ x.k ≠ 3)) : rawG (p :: r) u op acc (x :: S) = rawG (p :: r) (cutUn u x) (cutOpn op x) (acc ++ [x]) S := by
  rw [rawG, if_neg h]
theorem fold_tags (L : List Pc) : ∀ T : List Pc, (∀ x ∈ T, x.k ≠ 1) → T.foldl addP L = L ++ T := by
  intro T
  induction T generalizing L with
  | nil => intro _; simp
  | cons x T ih =>
    intro h
    have e : addP L x = L ++ [x] := by
      rcases List.eq_nil_or_concat L with rfl | ⟨L0, y, rfl⟩
      · rfl
      · rw [List.concat_eq_append]
        exact addP_more fun e => h x (List.mem_cons_self ..) e.1
    rw [List.foldl_cons, e, ih _ fun y hy => h y (List.mem_cons_of_mem _ hy), List.append_assoc]
    rfl
theorem closers_tag (op : List ByteArray) : ∀ x ∈ closersP op, x.k = 3 ∧ x.c = true := by
  intro x hx
  unfold closersP at hx
  obtain ⟨s, _, rfl⟩ := List.mem_map.1 hx
  exact ⟨rfl, rfl⟩
theorem openers_tag (op : List ByteArray) : ∀ x ∈ openersP op, x.k = 2 ∧ x.c = true := by
  intro x hx
  unfold openersP at hx
  obtain ⟨s, _, rfl⟩ := List.mem_map.1 hx
  exact ⟨rfl, rfl⟩
theorem join_app (A T : List Pc) : joinL (A ++ T) = T.foldl addP (joinL A) := by unfold joinL; rw [List.foldl_append]
theorem join_closers (A : List Pc) (op : List ByteArray) : joinL (A ++ closersP op) = joinL A ++ closersP op := by
  rw [join_app]
  exact fold_tags _ _ fun x hx => by rw [(closers_tag op x hx).1]; decide
theorem join_openers (op : List ByteArray) : joinL (openersP op) = openersP op := by
  unfold joinL
  rw [fold_tags [] _ fun x hx => by rw [(openers_tag op x hx).1]; decide]
  rfl
theorem join_one (A : List Pc) (x : Pc) : joinL (A ++ [x]) = addP (joinL A) x := joinL_snoc A x
theorem drop_ints2 {l : List Int} {k : Nat} (h : k < l.length) : l.drop k = l.getD k 0 :: l.drop (k + 1) := by
  rw [List.drop_eq_getElem_cons h, List.getD_eq_getElem?_getD, List.getElem?_eq_getElem h]
  rfl
/-- the parts that a cut makes are the joined atoms -/
theorem cut_raw (at' : List Int) : ∀ (S : List Pc) (st : Cs) (acc : List Pc), st.part = joinL acc → (S.foldl (cutStepP at') st).out ++ [(S.foldl (cutStepP at') st).part] = st.out ++ (rawG (at'.drop st.out.length) st.unit st.opn acc S).map joinL
  | [], st, acc, h => by rw [rawG_end]; simp [h]
  | x :: S, st, acc, h => by
    rw [List.foldl_cons]
    by_cases hh : cutHere at' st x = true
    · have hh2 := hh
      unfold cutHere at hh2
      simp only [Bool.and_eq_true, decide_eq_true_eq] at hh2
      obtain ⟨h1, h2, h3⟩ := hh2
      have ed : at'.drop st.out.length = at'.getD st.out.length 0 :: at'.drop (st.out.length + 1) := drop_ints2 h1
      rw [ed, rawG_cut ⟨h2, h3⟩]
      have es : cutStepP at' st x = ⟨st.out ++ [st.part ++ closersP st.opn], addP (openersP st.opn) x, cutOpn st.opn x, cutUn st.unit x⟩ := by
        unfold cutStepP cutPre
        rw [if_pos hh]
      rw [es]
      have ih := cut_raw at' S ⟨st.out ++ [st.part ++ closersP st.opn], addP (openersP st.opn) x, cutOpn st.opn x, cutUn st.unit x⟩ (openersP st.opn ++ [x]) (by rw [join_one, join_openers])
      rw [ih]
      dsimp only
      rw [List.length_append, List.length_singleton, List.map_cons, join_closers, ← h, List.append_assoc]
      rfl
    · have es : cutStepP at' st x = ⟨st.out, addP st.part x, cutOpn st.opn x, cutUn st.unit x⟩ := by
        unfold cutStepP cutPre
        rw [if_neg hh]
      rw [es]
      have ih := cut_raw at' S ⟨st.out, addP st.part x, cutOpn st.opn x, cutUn st.unit x⟩ (acc ++ [x]) (by rw [join_one, h])
      rw [ih]
      dsimp only
      congr 2
      by_cases h1 : st.out.length < at'.length
      · have ed : at'.drop st.out.length = at'.getD st.out.length 0 :: at'.drop (st.out.length + 1) := drop_ints2 h1
        rw [ed, rawG_go]
        rintro ⟨h2, h3⟩
        apply hh
        unfold cutHere
        simp only [Bool.and_eq_true, decide_eq_true_eq]
        exact ⟨h1, h2, h3⟩
      · rw [List.drop_of_length_le (by omega)]
        rfl
theorem cutPs_raw (at' : List Int) (S : List Pc) : cutPs at' S = (rawG at' 0 [] [] S).map joinL := by
  unfold cutPs cutRunP
  rw [List.take_length]
  have := cut_raw at' S cs0 [] rfl
  rw [this]
  rfl
end Go.Proofs.YtnkpjkomokkhcaaGreatDoor
namespace Go.Proofs.YtnkpjkomokkhcaaGreatDoor
open Go Go.RowKit Go.Lib
set_option maxRecDepth 100000
theorem chk_nil {a : Pc} {op : List ByteArray} : chk a op [] = (op = []) := by rw [chk]
/-! validity -/
/-- what is ahead leads to b, with op open -/
def Ext (acc : List Pc) (b : Pc) (op : List ByteArray) : Prop := ∀ rest, chk b op rest → chk tag0 [] (acc ++ rest)
theorem Ext.nil : Ext [] tag0 [] := fun _ h => h
theorem Ext.snoc {acc : List Pc} {b x : Pc} {op op' : List ByteArray} (h : Ext acc b op) (h1 : pieceE x = 0) (h2 : misB b x = false) (h3 : folE op x = .ok op') : Ext (acc ++ [x]) x op' := by
  intro rest hr
  rw [List.append_assoc]
  apply h
  show chk b op (x :: rest)
  rw [chk_cons]
  exact ⟨h1, h2, op', h3, hr⟩
def namesOk (op : List ByteArray) : Prop := (∀ s ∈ op, nameB s = true) ∧ op.length ≤ 16
theorem tag_piece {k : Int} {s : ByteArray} (hk : k = 2 ∨ k = 3) (hs : nameB s = true) : pieceE ⟨k, s, true⟩ = 0 := by
  unfold pieceE
  dsimp only
  rcases hk with rfl | rfl
  · rw [if_neg (by decide), if_neg (by decide), if_neg (by decide), if_pos hs]
  · rw [if_neg (by decide), if_neg (by decide), if_neg (by decide), if_pos hs]
theorem closers_snoc (op : List ByteArray) (s : ByteArray) : closersP (op ++ [s]) = ⟨3, s, true⟩ :: closersP op := by unfold closersP; simp
theorem openers_snoc (op : List ByteArray) (s : ByteArray) : openersP (op ++ [s]) = openersP op ++ [⟨2, s, true⟩] := by unfold openersP; simp
theorem chk_closers : ∀ (n : Nat) (op : List ByteArray) (b : Pc), op.length = n → (∀ s ∈ op, nameB s = true) → chk b op (closersP op)
  | 0, op, b, hn, _ => by
    obtain rfl : op = [] := List.eq_nil_of_length_eq_zero hn
    show chk b [] []
    rw [chk_nil]
  | n + 1, op, b, hn, hs => by
    rcases List.eq_nil_or_concat op with rfl | ⟨o, s, rfl⟩
    · cases hn
    · rw [List.concat_eq_append] at hn hs ⊢
      rw [closers_snoc, chk_cons]
      refine ⟨tag_piece (.inr rfl) (hs s (by simp)), ?_, o, ?_, chk_closers n o _ (by simpa using hn) fun q hq => hs q (by simp [hq])⟩
      · unfold misB
        rw [show coB ⟨3, s, true⟩ = false from rfl, show ccB ⟨3, s, true⟩ = true from rfl]
        simp
      · unfold folE
        dsimp only
        rw [if_neg (by decide), if_pos rfl, if_pos (by simp)]
        simp
theorem ext_openers : ∀ (n : Nat) (op : List ByteArray), op.length = n → namesOk op → ∃ b, coB b = true ∧ ccB b = false ∧ Ext (openersP op) b op
  | 0, op, hn, _ => by
    obtain rfl : op = [] := List.eq_nil_of_length_eq_zero hn
    exact ⟨tag0, rfl, rfl, Ext.nil⟩
  | n + 1, op, hn, hs => by
    rcases List.eq_nil_or_concat op with rfl | ⟨o, s, rfl⟩
    · cases hn
    · rw [List.concat_eq_append] at hn hs ⊢
      obtain ⟨h1, h2⟩ := hs
      rw [List.length_append, List.length_singleton] at h2
      obtain ⟨b, b1, b2, hE⟩ := ext_openers n o (by simpa using hn) ⟨fun q hq => h1 q (by simp [hq]), by omega⟩
      rw [openers_snoc]
      refine ⟨⟨2, s, true⟩, rfl, rfl, hE.snoc (tag_piece (.inl rfl) (h1 s (by simp))) ?_ ?_⟩
      · unfold misB
        rw [b1, b2]
        simp
      · unfold folE
        dsimp only
        rw [if_pos rfl, if_neg (by omega)]
theorem fol_opn {op op' : List ByteArray} {x : Pc} (h : folE op x = .ok op') : cutOpn op x = op' := by
  unfold folE at h
  unfold cutOpn
  split at h
  · rename_i h1
    rw [if_pos h1]
    split at h
    · cases h
    · exact Except.ok.inj h
  · rename_i h1
    rw [if_neg h1]
    split at h
    · rename_i h2
      rw [if_pos h2]
      split at h
      · exact Except.ok.inj h
      · cases h
    · rename_i h2
      rw [if_neg h2]
      exact Except.ok.inj h
theorem fol_names {op op' : List ByteArray} {x : Pc} (h : folE op x = .ok op') (hx : pieceE x = 0) (hn : namesOk op) : namesOk op' := by
  obtain ⟨h1, h2⟩ := hn
  unfold folE at h
  split at h
  · rename_i hk
    split at h
    · cases h
    · rename_i hl
      obtain rfl := Except.ok.inj h
      refine ⟨fun s hs => ?_, by rw [List.length_append, List.length_singleton]; omega⟩
      rcases List.mem_append.1 hs with hs | hs
      · exact h1 s hs
      · rw [List.mem_singleton.1 hs]
        unfold pieceE at hx
        split at hx
        · cases hx
        · split at hx
          · cases hx
          · split at hx
            · omega
            · split at hx
              · rename_i hb; exact hb
              · cases hx
  · split at h
    · split at h
      · obtain rfl := Except.ok.inj h
        exact ⟨fun s hs => h1 s (List.dropLast_subset _ hs), by rw [List.length_dropLast]; omega⟩
      · cases h
    · obtain rfl := Except.ok.inj h
      exact ⟨h1, h2⟩
theorem mis_more {a b x : Pc} (h : misB a x = false) (h1 : coB a = true → coB b = true) (h2 : ccB b = true → ccB a = true) : misB b x = false := by
  unfold misB at h ⊢
  cases hx : coB x <;> cases hy : ccB x <;> cases ha : coB a <;> cases hb : coB b <;> cases hc : ccB a <;> cases hd : ccB b <;> simp_all
theorem raw_valid : ∀ (S : List Pc) (at' : List Int) (u : Nat) (op : List ByteArray) (acc : List Pc) (a b : Pc), chk a op S → Ext acc b op → (coB a = true → coB b = true) → (ccB b = true → ccB a = true) → namesOk op →
    ∀ q ∈ rawG at' u op acc S, chk tag0 [] q
  | [], at', u, op, acc, a, b, hc, hE, _, _, _, q, hq => by
    rw [rawG_end] at hq
    rw [List.mem_singleton.1 hq]
    rw [chk_nil] at hc
    subst hc
    have := hE [] (by rw [chk_nil])
    rwa [List.append_nil] at this
  | x :: S, at', u, op, acc, a, b, hc, hE, h1, h2, hn, q, hq => by
    rw [chk_cons] at hc
    obtain ⟨g1, g2, op', hf, hc'⟩ := hc
    have ho := fol_opn hf
    have hn' := fol_names hf g1 hn
    have next := fun at'' u' => raw_valid S at'' u' op' (acc ++ [x]) x x hc' (hE.snoc g1 (mis_more g2 h1 h2) hf) id id hn'
    match at', hq with
    | [], hq =>
      rw [rawG, ho] at hq
      exact next _ _ q hq
    | p :: r, hq =>
      by_cases hh : (u : Int) = p ∧ x.k ≠ 3
      · rw [rawG_cut hh, ho] at hq
        rcases List.mem_cons.1 hq with rfl | hq
        · exact hE _ (chk_closers _ _ _ rfl hn.1)
        · obtain ⟨b0, c1, c2, hE0⟩ := ext_openers _ op rfl hn
          exact raw_valid S r _ op' _ x x hc' (hE0.snoc g1 (by unfold misB; rw [c1, c2]; simp) hf) id id hn' q hq
      · rw [rawG_go hh, ho] at hq
        exact next _ _ q hq
/-! units -/
def uc (x : Pc) : Nat := if x.k = 1 ∨ x.k = 5 then 1 else 0
def unS (S : List Pc) : Nat := (S.map uc).sum
theorem un_uc (u : Nat) (x : Pc) : cutUn u x = u + uc x := by unfold cutUn uc; split <;> rfl
theorem unS_app (a b : List Pc) : unS (a ++ b) = unS a + unS b := by unfold unS; rw [List.map_append, List.sum_append]
theorem unS_cons (x : Pc) (b : List Pc) : unS (x :: b) = uc x + unS b := by unfold unS; rw [List.map_cons, List.sum_cons]
theorem unS_zero {S : List Pc} (h : ∀ x ∈ S, x.k = 2 ∨ x.k = 3) : unS S = 0 := by
  induction S with
  | nil => rfl
  | cons x S ih =>
    rw [unS_cons, ih fun y hy => h y (List.mem_cons_of_mem _ hy)]
    unfold uc
    rw [if_neg (by rcases h x (List.mem_cons_self ..) with e | e <;> omega)]
theorem unS_closers (op : List ByteArray) : unS (closersP op) = 0 := unS_zero fun x hx => .inr (closers_tag op x hx).1
theorem unS_openers (op : List ByteArray) : unS (openersP op) = 0 := unS_zero fun x hx => .inl (openers_tag op x hx).1
theorem unS_un (x : Pc) : unS (unP x) = unN x := by
  unfold unP unN
  by_cases h1 : x.k = 1
  · rw [if_pos h1, if_neg (by omega), if_pos h1]
    have : ∀ rs : List Nat, unS (rs.map runP) = rs.length := by
      intro rs
      induction rs with
      | nil => rfl
      | cons r rs ih =>
        rw [List.map_cons, unS_cons, ih, List.length_cons]
        unfold uc
        rw [if_pos (.inl (runP_k r))]
        omega
    exact this _
  · rw [if_neg h1, unS_cons]
    unfold uc
    by_cases h5 : x.k = 5
    · rw [if_pos (.inr h5), if_pos h5]; rfl
    · rw [if_neg (by omega), if_neg h5, if_neg h1]; rfl
theorem unS_single (l : List Pc) : unS (singleL l) = nUnits l := by
  unfold singleL nUnits
  induction l with
  | nil => rfl
  | cons x l ih => rw [List.flatMap_cons, unS_app, unS_un, ih, List.map_cons, List.sum_cons]
/-- places from u on, one behind another, below n -/
def okPl : Int → Int → List Int → Prop
  | _, _, [] => True
  | u, n, p :: r => u ≤ p ∧ p < n ∧ okPl (p + 1) n r
theorem okPl_low : ∀ {u u' n : Int} {r : List Int}, u' ≤ u → okPl u n r → okPl u' n r
  | _, _, _, [], _, _ => trivial
  | _, _, _, p :: r, h, hp => ⟨by have := hp.1; omega, hp.2⟩
theorem okPl_cuts : ∀ {n last : Int} {l : List Int}, cutsB n last l = true → okPl (last + 1) n l
  | _, _, [], _ => trivial
  | n, last, p :: r, h => by
    unfold cutsB at h
    split at h
    · cases h
    · rename_i hh
      exact ⟨by omega, by omega, okPl_cuts h⟩
theorem raw_units : ∀ (S : List Pc) (at' : List Int) (u : Nat) (op : List ByteArray) (acc : List Pc), okPl u (u + unS S : Nat) at' →
    (rawG at' u op acc S).length = at'.length + 1 ∧ ∀ i, i < at'.length → ((u + (((rawG at' u op acc S).take (i + 1)).map unS).sum : Nat) : Int) = at'.getD i 0 + unS acc
  | [], at', u, op, acc, h => by
    rw [rawG_end]
    match at', h with
    | [], _ => exact ⟨rfl, fun i hi => by cases hi⟩
    | p :: r, h =>
      obtain ⟨h1, h2, _⟩ := h
      simp [unS] at h2
      omega
  | x :: S, at', u, op, acc, h => by
    have huc : uc x ≤ 1 := by unfold uc; split <;> omega
    rw [unS_cons] at h
    match at', h with
    | [], _ =>
      rw [rawG_none]
      exact ⟨rfl, fun i hi => by cases hi⟩
    | p :: r, h =>
      obtain ⟨h1, h2, h3⟩ := h
      by_cases hh : (u : Int) = p ∧ x.k ≠ 3
      · rw [rawG_cut hh, un_uc]
        obtain ⟨i1, i2⟩ := raw_units S r (u + uc x) (cutOpn op x) (openersP op ++ [x]) (by
          have := okPl_low (u' := ((u + uc x : Nat) : Int)) (by omega) h3
          rwa [show u + (uc x + unS S) = u + uc x + unS S by omega] at this)
        refine ⟨by rw [List.length_cons, i1, List.length_cons], fun i hi => ?_⟩
        rw [List.take_succ_cons, List.map_cons, List.sum_cons, unS_app, unS_closers]
        match i, hi with
        | 0, _ =>
          simp only [List.take_zero, List.map_nil, List.sum_nil, List.getD_cons_zero]
          omega
        | i + 1, hi =>
          have := i2 i (by simpa using hi)
          rw [unS_app, unS_openers, unS_cons] at this
          rw [List.getD_cons_succ]
          simp only [unS, List.map_nil, List.sum_nil] at this ⊢
          omega
      · rw [rawG_go hh, un_uc]
        obtain ⟨i1, i2⟩ := raw_units S (p :: r) (u + uc x) (cutOpn op x) (acc ++ [x]) (by
          refine ⟨?_, by omega, by rwa [show u + (uc x + unS S) = u + uc x + unS S by omega] at h3⟩
          by_cases h0 : uc x = 0
          · omega
          · have hk : x.k ≠ 3 := by
              unfold uc at h0
              split at h0
              · omega
              · exact absurd rfl h0
            have : ¬ (u : Int) = p := fun e => hh ⟨e, hk⟩
            omega)
        refine ⟨i1, fun i hi => ?_⟩
        have := i2 i hi
        rw [unS_app, unS_cons] at this
        simp only [unS, List.map_nil, List.sum_nil] at this ⊢
        omega
/-! text -/
theorem plain_app (a b : List Pc) : plainB (a ++ b) = plainB a ++ plainB b := by unfold plainB; rw [List.flatMap_append]
theorem plain_add (L : List Pc) (x : Pc) : plainB (addP L x) = plainB L ++ plainB [x] := by
  rcases List.eq_nil_or_concat L with rfl | ⟨L0, y, rfl⟩
  · rfl
  · rw [List.concat_eq_append]
    by_cases hk : x.k = 1 ∧ y.k = 1
    · rw [addP_join hk.1 hk.2, plain_app, plain_app, List.append_assoc]
      congr 1
      unfold plainB
      simp [hk.1, hk.2]
    · rw [addP_more hk, plain_app]
theorem plain_join (S : List Pc) : plainB (joinL S) = plainB S := by
  have key : ∀ (S L : List Pc), plainB (S.foldl addP L) = plainB L ++ plainB S := by
    intro S
    induction S with
    | nil => intro L; simp [plainB]
    | cons x S ih =>
      intro L
      rw [List.foldl_cons, ih, plain_add, List.append_assoc, ← plain_app]
      rfl
  rw [joinL, key]
  rfl
theorem plain_tags {S : List Pc} (h : ∀ x ∈ S, x.k ≠ 1) : plainB S = [] := by
  unfold plainB
  rw [List.flatMap_eq_nil_iff]
  intro x hx
  rw [if_neg (h x hx)]
theorem raw_plain : ∀ (S : List Pc) (at' : List Int) (u : Nat) (op : List ByteArray) (acc : List Pc), (rawG at' u op acc S).flatMap plainB = plainB acc ++ plainB S
  | [], at', u, op, acc => by rw [rawG_end]; simp [plainB]
  | x :: S, [], u, op, acc => by rw [rawG_none]; simp [plain_app]
  | x :: S, p :: r, u, op, acc => by
    have ex : plainB (x :: S) = plainB [x] ++ plainB S := plain_app [x] S
    by_cases hh : (u : Int) = p ∧ x.k ≠ 3
    · rw [rawG_cut hh, List.flatMap_cons, raw_plain S r, plain_app, plain_app, plain_tags (S := closersP op) fun y hy => by rw [(closers_tag op y hy).1]; decide, plain_tags (S := openersP op) fun y hy => by rw [(openers_tag op y hy).1]; decide, ex]
      simp
    · rw [rawG_go hh, raw_plain S (p :: r), plain_app, ex]
      simp
end Go.Proofs.YtnkpjkomokkhcaaGreatDoor
namespace Go.Proofs.YtnkpjkomokkhcaaGreatDoor
open Go Go.RowKit Go.Lib
set_option maxRecDepth 100000
def keepS (n i : Nat) (S : List Pc) : List Pc := S.filter fun x => !innerB n i x
def keepFrom (n : Nat) : Nat → List (List Pc) → List Pc
  | _, [] => []
  | i, r :: R => keepS n i r ++ keepFrom n (i + 1) R
theorem inner_run (n i r : Nat) : innerB n i (runP r) = false := by
  obtain ⟨h1, h2⟩ := co_text (runP_k r)
  unfold innerB
  rw [h1, h2]
  rfl
theorem fold_keep (n i : Nat) : ∀ (l o : List Pc), l.foldl (gAdd n i) o = (keepS n i l).foldl addP o
  | [], o => rfl
  | x :: l, o => by
    rw [List.foldl_cons, fold_keep n i l]
    unfold keepS gAdd
    rw [List.filter_cons]
    cases h : innerB n i x
    · rfl
    · rfl
theorem single_keep (n i : Nat) : ∀ L : List Pc, singleL (keepS n i L) = keepS n i (singleL L)
  | [] => rfl
  | x :: L => by
    have ih := single_keep n i L
    have e1 : singleL (x :: L) = unP x ++ singleL L := rfl
    have e2 : keepS n i (unP x ++ singleL L) = keepS n i (unP x) ++ keepS n i (singleL L) := by unfold keepS; rw [List.filter_append]
    rw [e1, e2, ← ih]
    by_cases hk : x.k = 1
    · have hx : innerB n i x = false := by
        obtain ⟨h1, h2⟩ := co_text hk
        unfold innerB
        rw [h1, h2]
        rfl
      have e3 : keepS n i (x :: L) = x :: keepS n i L := by unfold keepS; rw [List.filter_cons, hx]; rfl
      have e4 : keepS n i (unP x) = unP x := by
        unfold keepS
        rw [List.filter_eq_self]
        intro y hy
        unfold unP at hy
        rw [if_pos hk] at hy
        obtain ⟨r, _, rfl⟩ := List.mem_map.1 hy
        rw [inner_run]
        rfl
      rw [e3, e4]
      rfl
    · have eu : unP x = [x] := by unfold unP; rw [if_neg hk]
      rw [eu]
      cases h : innerB n i x
      · have e3 : keepS n i (x :: L) = x :: keepS n i L := by unfold keepS; rw [List.filter_cons, h]; rfl
        have e4 : keepS n i [x] = [x] := by unfold keepS; rw [List.filter_cons, h]; rfl
        rw [e3, e4]
        show unP x ++ singleL (keepS n i L) = _
        rw [eu]
      · have e3 : keepS n i (x :: L) = keepS n i L := by unfold keepS; rw [List.filter_cons, h]; rfl
        have e4 : keepS n i [x] = [] := by unfold keepS; rw [List.filter_cons, h]; rfl
        rw [e3, e4]
        rfl
theorem keep_join (n i : Nat) (R o : List Pc) (hR : ∀ x ∈ R, atomP x) : (keepS n i (joinL R)).foldl addP o = (keepS n i R).foldl addP o := by
  have hj := joined R hR
  have h1 := fold_single (keepS n i (joinL R)) o fun x hx => hj.txt x (List.mem_filter.1 hx).1
  rw [← h1, single_keep, hj.one]
def keepTo (R : List (List Pc)) : Nat → List Pc
  | 0 => []
  | k + 1 => keepTo R k ++ keepS R.length k (R.getD k [])
theorem getD_map (R : List (List Pc)) (k : Nat) : (R.map joinL).getD k [] = joinL (R.getD k []) := by
  rw [List.getD_eq_getElem?_getD, List.getD_eq_getElem?_getD, List.getElem?_map]
  cases R[k]? <;> rfl
theorem getD_memL {R : List (List Pc)} {k : Nat} (hk : k < R.length) : R.getD k [] ∈ R := by
  rw [List.getD_eq_getElem?_getD, List.getElem?_eq_getElem hk]
  exact List.getElem_mem hk
theorem gTo_keep {R : List (List Pc)} (hR : ∀ r ∈ R, ∀ x ∈ r, atomP x) : ∀ k, k ≤ R.length → gTo (R.map joinL) k = joinL (keepTo R k)
  | 0, _ => rfl
  | k + 1, hk => by
    have ih := gTo_keep hR k (by omega)
    show gPart (R.map joinL).length k (gTo (R.map joinL) k) ((R.map joinL).getD k []) ((R.map joinL).getD k []).length = _
    rw [List.length_map, ih, getD_map]
    unfold gPart
    rw [List.take_length, fold_keep, keep_join _ _ _ _ (hR _ (getD_memL (by omega)))]
    show _ = joinL (keepTo R k ++ keepS R.length k (R.getD k []))
    rw [join_app]
theorem keepTo_from (R : List (List Pc)) : ∀ (B A : List (List Pc)), R = A ++ B → keepTo R R.length = keepTo R A.length ++ keepFrom R.length A.length B
  | [], A, h => by
    rw [List.append_nil] at h
    subst h
    simp [keepFrom]
  | b :: B, A, h => by
    have ih := keepTo_from R B (A ++ [b]) (by rw [h, List.append_assoc]; rfl)
    have hg : R.getD A.length [] = b := by rw [h, List.getD_eq_getElem?_getD, List.getElem?_append_right (Nat.le_refl _), Nat.sub_self]; rfl
    rw [ih, List.length_append, List.length_singleton]
    show keepTo R A.length ++ keepS R.length A.length (R.getD A.length []) ++ _ = _
    rw [hg, List.append_assoc]
    rfl
theorem keepTo_all (R : List (List Pc)) : keepTo R R.length = keepFrom R.length 0 R := by
  have := keepTo_from R R [] rfl
  rw [this]
  rfl
theorem raw_pos : ∀ (S : List Pc) (at' : List Int) (u : Nat) (op : List ByteArray) (acc : List Pc), 1 ≤ (rawG at' u op acc S).length
  | [], at', u, op, acc => by rw [rawG_end]; exact Nat.le_refl _
  | x :: S, [], u, op, acc => by rw [rawG_none]; exact Nat.le_refl _
  | x :: S, p :: r, u, op, acc => by
    by_cases hh : (u : Int) = p ∧ x.k ≠ 3
    · rw [rawG_cut hh, List.length_cons]; omega
    · rw [rawG_go hh]; exact raw_pos S _ _ _ _
theorem co_of {x : Pc} (h : x.k ≠ 2) : coB x = false := by unfold coB; simp [h]
theorem cc_of {x : Pc} (h : x.k ≠ 3) : ccB x = false := by unfold ccB; simp [h]
theorem co_unit {x : Pc} (h : uc x ≠ 0) : coB x = false := by
  unfold uc at h
  split at h
  · rename_i h1
    exact co_of (by omega)
  · exact absurd rfl h
theorem co_next {a x : Pc} (h : misB a x = false) (ha : coB a = false) : coB x = false := by
  unfold misB at h
  rw [ha] at h
  cases hx : coB x
  · rfl
  · rw [hx] at h; simp at h
theorem cc_next {a x : Pc} (h : misB a x = false) (ha : ccB a = true) : ccB x = true := by
  unfold misB at h
  rw [ha] at h
  cases hx : ccB x
  · rw [hx] at h; simp at h
  · rfl
theorem raw_keep (n : Nat) : ∀ (S : List Pc) (at' : List Int) (u i : Nat) (op : List ByteArray) (acc : List Pc) (a : Pc), chk a op S → (0 < i → coB a = false) → (0 < u → coB a = false) → (∀ p ∈ at', 1 ≤ p) → (∀ y ∈ acc, ccB y = true → ccB a = true) →
    i + (rawG at' u op acc S).length = n → keepFrom n i (rawG at' u op acc S) = acc.filter (fun y => !(coB y && decide (0 < i))) ++ S
  | [], at', u, i, op, acc, a, _, _, _, _, _, hn => by
    rw [rawG_end] at hn ⊢
    rw [List.length_singleton] at hn
    show keepS n i acc ++ [] = _
    rw [List.append_nil, List.append_nil]
    unfold keepS
    congr 1
    funext y
    unfold innerB
    rw [show decide (i + 1 < n) = false by simp; omega]
    simp
  | x :: S, at', u, i, op, acc, a, hc, h1, h2, h3, h4, hn => by
    rw [chk_cons] at hc
    obtain ⟨g1, g2, op', hf, hc'⟩ := hc
    have ho := fol_opn hf
    have k2 : 0 < u + uc x → coB x = false := fun h => by
      by_cases h0 : uc x = 0
      · exact co_next g2 (h2 (by omega))
      · exact co_unit h0
    have stay : ∀ at'', (∀ p ∈ at'', 1 ≤ p) → i + (rawG at'' (u + uc x) op' (acc ++ [x]) S).length = n → keepFrom n i (rawG at'' (u + uc x) op' (acc ++ [x]) S) = acc.filter (fun y => !(coB y && decide (0 < i))) ++ (x :: S) := fun at'' hat hn' => by
      have ih := raw_keep n S at'' (u + uc x) i op' (acc ++ [x]) x hc' (fun h => co_next g2 (h1 h)) k2 hat (fun y hy hcc => by
        rcases List.mem_append.1 hy with hy | hy
        · exact cc_next g2 (h4 y hy hcc)
        · rw [List.mem_singleton.1 hy] at hcc; exact hcc) hn'
      rw [ih, List.filter_append, List.append_assoc]
      congr 1
      rw [List.filter_cons]
      have : (!(coB x && decide (0 < i))) = true := by
        by_cases hi : 0 < i
        · rw [co_next g2 (h1 hi)]; rfl
        · simp [hi]
      rw [if_pos this]
      rfl
    match at', h3, hn with
    | [], h3, hn =>
      rw [rawG, ho, un_uc] at hn ⊢
      exact stay [] h3 hn
    | p :: r, h3, hn =>
      by_cases hh : (u : Int) = p ∧ x.k ≠ 3
      · rw [rawG_cut hh, ho, un_uc] at hn ⊢
        have hp1 := h3 p (List.mem_cons_self ..)
        have hu : 0 < u := by omega
        have hcx : coB x = false := co_next g2 (h2 hu)
        have hca : ccB a = false := by
          cases hq : ccB a
          · rfl
          · have := cc_next g2 hq
            rw [cc_of hh.2] at this
            cases this
        have hpos := raw_pos S r (u + uc x) op' (openersP op ++ [x])
        rw [List.length_cons] at hn
        have ih := raw_keep n S r (u + uc x) (i + 1) op' (openersP op ++ [x]) x hc' (fun _ => hcx) (fun _ => hcx) (fun q hq => h3 q (List.mem_cons_of_mem _ hq)) (fun y hy hcc => by
          rcases List.mem_append.1 hy with hy | hy
          · have := openers_tag op y hy
            rw [cc_of (by rw [this.1]; decide)] at hcc
            cases hcc
          · rw [List.mem_singleton.1 hy, cc_of hh.2] at hcc; cases hcc) (by omega)
        show keepS n i (acc ++ closersP op) ++ keepFrom n (i + 1) _ = _
        rw [ih]
        have e1 : keepS n i (acc ++ closersP op) = acc.filter (fun y => !(coB y && decide (0 < i))) := by
          unfold keepS
          rw [List.filter_append]
          have e2 : (closersP op).filter (fun x => !innerB n i x) = [] := by
            rw [List.filter_eq_nil_iff]
            intro y hy
            obtain ⟨c1, c2⟩ := closers_tag op y hy
            unfold innerB ccB
            rw [c1, c2, show decide (i + 1 < n) = true by simp; omega]
            simp
          rw [e2, List.append_nil]
          refine List.filter_congr fun y hy => ?_
          have hy2 : ccB y = false := by
            cases hq : ccB y
            · rfl
            · have := h4 y hy hq
              rw [hca] at this
              cases this
          unfold innerB
          rw [hy2]
          simp
        rw [e1]
        congr 1
        rw [List.filter_append]
        have e3 : (openersP op).filter (fun y => !(coB y && decide (0 < i + 1))) = [] := by
          rw [List.filter_eq_nil_iff]
          intro y hy
          obtain ⟨c1, c2⟩ := openers_tag op y hy
          unfold coB
          rw [c1, c2]
          simp
        rw [e3, List.nil_append, List.filter_cons, hcx]
        rfl
      · rw [rawG_go hh, ho, un_uc] at hn ⊢
        exact stay (p :: r) h3 hn
/-! neighbours fit -/
theorem closes_app (a b : List Pc) : closesL (a ++ b) = closesL a ++ closesL b := by unfold closesL; rw [List.filter_append, List.map_append]
theorem opens_app (a b : List Pc) : opensL (a ++ b) = opensL a ++ opensL b := by unfold opensL; rw [List.filter_append, List.map_append]
theorem ends_text {x : Pc} (h : x.k = 1) : closesL [x] = [] ∧ opensL [x] = [] := by
  obtain ⟨h1, h2⟩ := co_text h
  unfold closesL opensL
  simp [h1, h2]
theorem ends_add (L : List Pc) (x : Pc) : closesL (addP L x) = closesL L ++ closesL [x] ∧ opensL (addP L x) = opensL L ++ opensL [x] := by
  rcases List.eq_nil_or_concat L with rfl | ⟨L0, y, rfl⟩
  · exact ⟨rfl, rfl⟩
  · rw [List.concat_eq_append]
    by_cases hk : x.k = 1 ∧ y.k = 1
    · rw [addP_join hk.1 hk.2, closes_app, opens_app, closes_app, opens_app]
      obtain ⟨a1, a2⟩ := ends_text hk.1
      obtain ⟨b1, b2⟩ := ends_text hk.2
      obtain ⟨c1, c2⟩ := ends_text (x := ⟨y.k, y.s ++ x.s, y.c⟩) hk.2
      rw [a1, a2, b1, b2, c1, c2]
      simp
    · rw [addP_more hk, closes_app, opens_app]
      exact ⟨rfl, rfl⟩
theorem ends_join (S : List Pc) : closesL (joinL S) = closesL S ∧ opensL (joinL S) = opensL S := by
  have key : ∀ (S L : List Pc), closesL (S.foldl addP L) = closesL L ++ closesL S ∧ opensL (S.foldl addP L) = opensL L ++ opensL S := by
    intro S
    induction S with
    | nil => intro L; simp [closesL, opensL]
    | cons x S ih =>
      intro L
      obtain ⟨h1, h2⟩ := ends_add L x
      rw [List.foldl_cons, (ih _).1, (ih _).2, h1, h2, List.append_assoc, List.append_assoc, ← closes_app, ← opens_app]
      exact ⟨rfl, rfl⟩
  have := key S []
  exact this
theorem closes_closers (op : List ByteArray) : closesL (closersP op) = op.reverse := by
  unfold closesL
  rw [List.filter_eq_self.2 fun y hy => by obtain ⟨c1, c2⟩ := closers_tag op y hy; unfold ccB; rw [c1, c2]; rfl]
  unfold closersP
  rw [List.map_map]
  show List.map id _ = _
  rw [List.map_id]
theorem opens_openers (op : List ByteArray) : opensL (openersP op) = op := by
  unfold opensL
  rw [List.filter_eq_self.2 fun y hy => by obtain ⟨c1, c2⟩ := openers_tag op y hy; unfold coB; rw [c1, c2]; rfl]
  unfold openersP
  rw [List.map_map]
  show List.map id _ = _
  rw [List.map_id]
theorem opens_free {S : List Pc} (h : ∀ x ∈ S, coB x = false) : opensL S = [] := by
  unfold opensL
  rw [List.filter_eq_nil_iff.2 fun y hy => by rw [h y hy]; decide]
  rfl
theorem closes_free {S : List Pc} (h : ∀ x ∈ S, ccB x = false) : closesL S = [] := by
  unfold closesL
  rw [List.filter_eq_nil_iff.2 fun y hy => by rw [h y hy]; decide]
  rfl
theorem raw_head : ∀ (S : List Pc) (at' : List Int) (u : Nat) (op : List ByteArray) (acc : List Pc) (a : Pc), chk a op S → coB a = false → opensL ((rawG at' u op acc S).getD 0 []) = opensL acc
  | [], at', u, op, acc, a, _, _ => by rw [rawG_end]; rfl
  | x :: S, at', u, op, acc, a, hc, ha => by
    rw [chk_cons] at hc
    obtain ⟨g1, g2, op', hf, hc'⟩ := hc
    have ho := fol_opn hf
    have hx := co_next g2 ha
    have e : opensL (acc ++ [x]) = opensL acc := by
      rw [opens_app, opens_free (S := [x]) fun y hy => by rw [List.mem_singleton.1 hy]; exact hx, List.append_nil]
    match at' with
    | [] =>
      rw [rawG, ho, raw_head S _ _ _ _ x hc' hx, e]
    | p :: r =>
      by_cases hh : (u : Int) = p ∧ x.k ≠ 3
      · rw [rawG_cut hh]
        show opensL (acc ++ closersP op) = _
        rw [opens_app, opens_free (S := closersP op) fun y hy => co_of (by rw [(closers_tag op y hy).1]; decide), List.append_nil]
      · rw [rawG_go hh, ho, raw_head S _ _ _ _ x hc' hx, e]
theorem raw_fit : ∀ (S : List Pc) (at' : List Int) (u : Nat) (op : List ByteArray) (acc : List Pc) (a : Pc), chk a op S → (0 < u → coB a = false) → (∀ p ∈ at', 1 ≤ p) → (∀ y ∈ acc, ccB y = true → ccB a = true) →
    ∀ k, k + 1 < (rawG at' u op acc S).length → closesL ((rawG at' u op acc S).getD k []) = (opensL ((rawG at' u op acc S).getD (k + 1) [])).reverse
  | [], at', u, op, acc, a, _, _, _, _, k, hk => by
    rw [rawG_end, List.length_singleton] at hk
    omega
  | x :: S, at', u, op, acc, a, hc, h2, h3, h4, k, hk => by
    rw [chk_cons] at hc
    obtain ⟨g1, g2, op', hf, hc'⟩ := hc
    have ho := fol_opn hf
    have k2 : 0 < u + uc x → coB x = false := fun h => by
      by_cases h0 : uc x = 0
      · exact co_next g2 (h2 (by omega))
      · exact co_unit h0
    have k4 : ∀ y ∈ acc ++ [x], ccB y = true → ccB x = true := fun y hy hcc => by
      rcases List.mem_append.1 hy with hy | hy
      · exact cc_next g2 (h4 y hy hcc)
      · rw [List.mem_singleton.1 hy] at hcc; exact hcc
    match at', h3, hk with
    | [], h3, hk =>
      rw [rawG, ho, un_uc] at hk ⊢
      exact raw_fit S [] _ _ _ x hc' k2 h3 k4 k hk
    | p :: r, h3, hk =>
      by_cases hh : (u : Int) = p ∧ x.k ≠ 3
      · rw [rawG_cut hh, ho, un_uc] at hk ⊢
        have hp1 := h3 p (List.mem_cons_self ..)
        have hu : 0 < u := by omega
        have hcx : coB x = false := co_next g2 (h2 hu)
        have hca : ccB a = false := by
          cases hq : ccB a
          · rfl
          · have := cc_next g2 hq
            rw [cc_of hh.2] at this
            cases this
        match k, hk with
        | 0, _ =>
          show closesL (acc ++ closersP op) = (opensL ((rawG r (u + uc x) op' (openersP op ++ [x]) S).getD 0 [])).reverse
          rw [raw_head S r _ _ _ x hc' hcx, closes_app, closes_closers, opens_app, opens_openers, opens_free (S := [x]) fun y hy => by rw [List.mem_singleton.1 hy]; exact hcx, closes_free (S := acc) fun y hy => by
            cases hq : ccB y
            · rfl
            · have := h4 y hy hq
              rw [hca] at this
              cases this]
          simp
        | k + 1, hk =>
          exact raw_fit S r _ _ _ x hc' (fun _ => hcx) (fun q hq => h3 q (List.mem_cons_of_mem _ hq)) (fun y hy hcc => by
            rcases List.mem_append.1 hy with hy | hy
            · rw [cc_of (by rw [(openers_tag op y hy).1]; decide)] at hcc
              cases hcc
            · rw [List.mem_singleton.1 hy, cc_of hh.2] at hcc; cases hcc) k (by simpa using hk)
      · rw [rawG_go hh, ho, un_uc] at hk ⊢
        exact raw_fit S (p :: r) _ _ _ x hc' k2 h3 k4 k hk
end Go.Proofs.YtnkpjkomokkhcaaGreatDoor
namespace Go.Proofs.YtnkpjkomokkhcaaGreatDoor
open Go Go.RowKit Go.Lib
set_option maxRecDepth 100000
/-- the place p comes right behind T, when u units are ahead -/
def sp (p : Int) : Nat → List Pc → List Pc → Prop
  | u, [], S => (u : Int) = p ∧ ∃ x S', S = x :: S' ∧ x.k ≠ 3
  | u, y :: T, S => ¬ ((u : Int) = p ∧ y.k ≠ 3) ∧ sp p (cutUn u y) T S
theorem sp_some : ∀ (S : List Pc) (u : Nat) (p : Int), (u : Int) ≤ p → p < (u + unS S : Nat) → ∃ T S1, S = T ++ S1 ∧ sp p u T S1
  | [], u, p, h1, h2 => by simp [unS] at h2; omega
  | x :: S, u, p, h1, h2 => by
    by_cases hh : (u : Int) = p ∧ x.k ≠ 3
    · exact ⟨[], x :: S, rfl, hh.1, x, S, rfl, hh.2⟩
    · rw [unS_cons] at h2
      have huc : uc x ≤ 1 := by unfold uc; split <;> omega
      obtain ⟨T, S1, e, hs⟩ := sp_some S (u + uc x) p (by
        by_cases h0 : uc x = 0
        · omega
        · have hk : x.k ≠ 3 := by
            unfold uc at h0
            split at h0
            · omega
            · exact absurd rfl h0
          have : ¬ (u : Int) = p := fun e => hh ⟨e, hk⟩
          omega) (by omega)
      refine ⟨x :: T, S1, by rw [e]; rfl, hh, ?_⟩
      rw [un_uc]
      exact hs
theorem okPl_app : ∀ {A : List Int} {p u n : Int} {B : List Int}, okPl u n (A ++ p :: B) → okPl u p A ∧ u ≤ p ∧ p < n ∧ okPl (p + 1) n B
  | [], p, u, n, B, h => ⟨trivial, h.1, h.2.1, h.2.2⟩
  | a :: A, p, u, n, B, h => by
    obtain ⟨h1, h2, h3⟩ := h
    obtain ⟨i1, i2, i3, i4⟩ := okPl_app h3
    exact ⟨⟨h1, by omega, i1⟩, by omega, i3, i4⟩
theorem okPl_le : ∀ {A : List Int} {u n : Int}, okPl u n A → ∀ a ∈ A, u ≤ a
  | a :: A, u, n, h, b, hb => by
    rcases List.mem_cons.1 hb with rfl | hb
    · exact h.1
    · have := okPl_le h.2.2 b hb
      have := h.1
      omega
theorem rawG_skip {r : List Int} {u : Nat} (h : ∀ p ∈ r, (u : Int) < p) (op : List ByteArray) (acc S : List Pc) (x : Pc) : rawG r u op acc (x :: S) = rawG r (cutUn u x) (cutOpn op x) (acc ++ [x]) S := by
  cases r with
  | nil => rw [rawG]
  | cons p r => rw [rawG_go fun e => by have := h p (List.mem_cons_self ..); omega]
/-- what is cut at all places is what is cut at those ahead of one of them, and what is cut at those behind -/
theorem raw_split (p : Int) (B : List Int) (S1 : List Pc) : ∀ (T : List Pc) (A : List Int) (u : Nat) (op : List ByteArray) (acc : List Pc), sp p u T S1 → okPl u p A → (∀ b ∈ B, p < b) →
    rawG (A ++ p :: B) u op acc (T ++ S1) = rawG A u op acc (T ++ closersP (T.foldl cutOpn op)) ++ rawG B (T.foldl cutUn u) (T.foldl cutOpn op) (openersP (T.foldl cutOpn op)) S1
  | [], A, u, op, acc, hs, hA, hB => by
    obtain ⟨hu, x, S', rfl, hx⟩ := hs
    have hA0 : A = [] := by
      cases A with
      | nil => rfl
      | cons a A => have h1 := hA.1; have h2 := hA.2.1; omega
    subst hA0
    show rawG (p :: B) u op acc (x :: S') = rawG [] u op acc (closersP op) ++ rawG B u op (openersP op) (x :: S')
    rw [rawG_cut ⟨hu, hx⟩, rawG_none, rawG_skip (r := B) (u := u) (fun b hb => by have := hB b hb; omega)]
    rfl
  | y :: T, A, u, op, acc, hs, hA, hB => by
    obtain ⟨h1, h2⟩ := hs
    have huc : uc y ≤ 1 := by unfold uc; split <;> omega
    match A, hA with
    | [], _ =>
      have ih := raw_split p B S1 T [] (cutUn u y) (cutOpn op y) (acc ++ [y]) h2 trivial hB
      show rawG (p :: B) u op acc (y :: (T ++ S1)) = rawG [] u op acc (y :: (T ++ closersP (T.foldl cutOpn (cutOpn op y)))) ++ _
      rw [rawG_go h1, rawG]
      exact ih
    | a :: A, hA =>
      obtain ⟨a1, a2, a3⟩ := hA
      show rawG (a :: (A ++ p :: B)) u op acc (y :: (T ++ S1)) = rawG (a :: A) u op acc (y :: (T ++ closersP (T.foldl cutOpn (cutOpn op y)))) ++ _
      by_cases hh : (u : Int) = a ∧ y.k ≠ 3
      · have ih := raw_split p B S1 T A (cutUn u y) (cutOpn op y) (openersP op ++ [y]) h2 (okPl_low (by rw [un_uc]; omega) a3) hB
        rw [rawG_cut hh, rawG_cut hh, ih]
        rfl
      · have ih := raw_split p B S1 T (a :: A) (cutUn u y) (cutOpn op y) (acc ++ [y]) h2 (by
          refine ⟨?_, a2, a3⟩
          rw [un_uc]
          by_cases h0 : uc y = 0
          · omega
          · have hk : y.k ≠ 3 := by
              unfold uc at h0
              split at h0
              · omega
              · exact absurd rfl h0
            have : ¬ (u : Int) = a := fun e => hh ⟨e, hk⟩
            omega) hB
        rw [rawG_go hh, rawG_go hh]
        exact ih
theorem un_fold (T : List Pc) : ∀ u : Nat, T.foldl cutUn u = u + unS T := by
  induction T with
  | nil => intro u; simp [unS]
  | cons x T ih => intro u; rw [List.foldl_cons, ih, un_uc, unS_cons]; omega
theorem sp_un {p : Int} {S : List Pc} : ∀ {T : List Pc} {u : Nat}, sp p u T S → ((u + unS T : Nat) : Int) = p
  | [], u, h => by have := h.1; simp [unS]; exact this
  | y :: T, u, h => by
    have := sp_un h.2
    rw [un_uc] at this
    rw [unS_cons]
    omega
/-- places may be counted from anywhere -/
theorem raw_shift (d : Nat) : ∀ (S : List Pc) (r : List Int) (u : Nat) (op : List ByteArray) (acc : List Pc), rawG (r.map fun p => p - d) u op acc S = rawG r (u + d) op acc S
  | [], r, u, op, acc => by rw [rawG_end, rawG_end]
  | x :: S, [], u, op, acc => by rw [List.map_nil, rawG_none, rawG_none]
  | x :: S, p :: r, u, op, acc => by
    have e : cutUn u x + d = cutUn (u + d) x := by rw [un_uc, un_uc]; omega
    by_cases hh : (u : Int) = p - d ∧ x.k ≠ 3
    · rw [List.map_cons, rawG_cut hh, rawG_cut ⟨by omega, hh.2⟩, raw_shift d S r, e]
    · have hh2 : ¬ (((u + d : Nat) : Int) = p ∧ x.k ≠ 3) := fun h => hh ⟨by have := h.1; omega, h.2⟩
      rw [List.map_cons, rawG_go hh, rawG_go hh2, ← List.map_cons (f := fun p => p - (d : Int)), raw_shift d S (p :: r), e]
/-- tags that are opened again come first -/
theorem raw_openers {r : List Int} (h : ∀ p ∈ r, (1 : Int) ≤ p) (S1 : List Pc) : ∀ (o op : List ByteArray) (acc : List Pc), rawG r 0 op acc (openersP o ++ S1) = rawG r 0 (op ++ o) (acc ++ openersP o) S1
  | [], op, acc => by simp [openersP]
  | s :: o, op, acc => by
    have e1 : openersP (s :: o) = ⟨2, s, true⟩ :: openersP o := rfl
    rw [e1, List.cons_append, rawG_skip fun p hp => by have := h p hp; omega]
    have e2 : cutUn 0 ⟨2, s, true⟩ = 0 := rfl
    have e3 : cutOpn op ⟨2, s, true⟩ = op ++ [s] := rfl
    rw [e2, e3, raw_openers h S1 o, List.append_assoc, List.append_assoc]
    rfl
end Go.Proofs.YtnkpjkomokkhcaaGreatDoor
namespace Go.Proofs.YtnkpjkomokkhcaaGreatDoor
open Go Go.RowKit Go.Lib
set_option maxRecDepth 100000
theorem cuts_okPl : ∀ {n last : Int} {l : List Int}, okPl (last + 1) n l → cutsB n last l = true
  | _, _, [], _ => rfl
  | n, last, p :: r, h => by
    obtain ⟨h1, h2, h3⟩ := h
    unfold cutsB
    rw [if_neg (by omega)]
    exact cuts_okPl h3
/-- a cut that is done: the list is valid, the places are in order, no part is too long -/
structure CutOk (l : List Pc) (at' : List Int) : Prop where
  ok : checkE l = 0
  pl : okPl 1 (nUnits l) at'
  lg : ∀ q ∈ rawG at' 0 [] [] (singleL l), (joinL q).length ≤ 512
theorem ct_ok {l : List Pc} {at' : List Int} (h : ctE l at' = 0) : CutOk l at' := by
  unfold ctE at h
  split at h
  · contradiction
  · rename_i h1
    split at h
    · cases h
    · rename_i h2
      split at h
      · cases h
      · rename_i h3
        refine ⟨by simpa using h1, okPl_cuts (last := 0) (by simpa using h2), fun q hq => ?_⟩
        have h4 : longAny (cutPs at' (singleL l)) = false := by simpa using h3
        rw [cutPs_raw] at h4
        unfold longAny at h4
        rw [List.any_eq_false] at h4
        have := h4 (joinL q) (List.mem_map.2 ⟨q, hq, rfl⟩)
        simpa using this
theorem ok_ct {l : List Pc} {at' : List Int} (h : CutOk l at') : ctE l at' = 0 ∧ ctR l at' = (rawG at' 0 [] [] (singleL l)).map joinL := by
  have h3 : longAny (cutPs at' (singleL l)) = false := by
    rw [cutPs_raw]
    unfold longAny
    rw [List.any_eq_false]
    intro q hq
    obtain ⟨r, hr, rfl⟩ := List.mem_map.1 hq
    have := h.lg r hr
    simpa using this
  have hz : ctE l at' = 0 := by
    unfold ctE
    rw [if_neg (by simp [h.ok]), if_neg (by rw [cuts_okPl (last := 0) h.pl]; simp), if_neg (by rw [h3]; simp)]
  refine ⟨hz, ?_⟩
  unfold ctR
  rw [if_pos hz, cutPs_raw]
theorem ct_limit {l : List Pc} {at' : List Int} (h1 : checkE l = 0) (h2 : okPl 1 (nUnits l) at') : ctE l at' = 0 ∨ ctE l at' = 3 := by
  unfold ctE
  rw [if_neg (by simp [h1]), if_neg (by rw [cuts_okPl (last := 0) h2]; simp)]
  split
  · exact .inr rfl
  · exact .inl rfl
theorem atoms_tags {S : List Pc} (h : ∀ x ∈ S, x.k ≠ 1) : ∀ x ∈ S, atomP x := fun x hx h1 => absurd h1 (h x hx)
theorem atoms_closers (op : List ByteArray) : ∀ x ∈ closersP op, atomP x := atoms_tags fun x hx => by rw [(closers_tag op x hx).1]; decide
theorem atoms_openers (op : List ByteArray) : ∀ x ∈ openersP op, atomP x := atoms_tags fun x hx => by rw [(openers_tag op x hx).1]; decide
theorem atoms_app {A B : List Pc} (ha : ∀ x ∈ A, atomP x) (hb : ∀ x ∈ B, atomP x) : ∀ x ∈ A ++ B, atomP x := fun x hx => (List.mem_append.1 hx).elim (ha x) (hb x)
theorem raw_atoms : ∀ (S : List Pc) (at' : List Int) (u : Nat) (op : List ByteArray) (acc : List Pc), (∀ x ∈ S, atomP x) → (∀ x ∈ acc, atomP x) → ∀ q ∈ rawG at' u op acc S, ∀ x ∈ q, atomP x
  | [], at', u, op, acc, _, ha, q, hq => by
    rw [rawG_end] at hq
    rw [List.mem_singleton.1 hq]
    exact ha
  | x :: S, at', u, op, acc, hS, ha, q, hq => by
    have hx1 : ∀ y ∈ [x], atomP y := fun y hy => by rw [List.mem_singleton.1 hy]; exact hS x (List.mem_cons_self ..)
    have hS' : ∀ y ∈ S, atomP y := fun y hy => hS y (List.mem_cons_of_mem _ hy)
    match at', hq with
    | [], hq => rw [rawG] at hq; exact raw_atoms S _ _ _ _ hS' (atoms_app ha hx1) q hq
    | p :: r, hq =>
      by_cases hh : (u : Int) = p ∧ x.k ≠ 3
      · rw [rawG_cut hh] at hq
        rcases List.mem_cons.1 hq with rfl | hq
        · exact atoms_app ha (atoms_closers op)
        · exact raw_atoms S _ _ _ _ hS' (atoms_app (atoms_openers op) hx1) q hq
      · rw [rawG_go hh] at hq; exact raw_atoms S _ _ _ _ hS' (atoms_app ha hx1) q hq
theorem CutOk.atoms {l : List Pc} {at' : List Int} (h : CutOk l at') : ∀ q ∈ rawG at' 0 [] [] (singleL l), ∀ x ∈ q, atomP x :=
  raw_atoms _ _ _ _ _ (atom_single (valid_mem h.ok)) (fun x hx => by cases hx)
theorem names_nil : namesOk [] := ⟨(fun s hs => by cases hs), Nat.zero_le _⟩
/-- each part is valid -/
theorem CutOk.valid {l : List Pc} {at' : List Int} (h : CutOk l at') : ∀ q ∈ rawG at' 0 [] [] (singleL l), checkE (joinL q) = 0 := fun q hq =>
  check_join (h.atoms q hq) (raw_valid _ _ _ _ _ tag0 tag0 (chk_atoms h.ok) Ext.nil id id names_nil q hq) (h.lg q hq)
theorem units_join {q : List Pc} (h : ∀ x ∈ q, atomP x) : nUnits (joinL q) = unS q := by rw [← unS_single, (joined q h).one]
theorem okPl_ge {n : Int} {at' : List Int} (h : okPl 1 n at') : ∀ p ∈ at', 1 ≤ p := okPl_le h
theorem CutOk.pl0 {l : List Pc} {at' : List Int} (h : CutOk l at') : okPl (0 : Nat) (0 + unS (singleL l) : Nat) at' := by
  rw [unS_single, Nat.zero_add]
  exact okPl_low (by omega) h.pl
theorem CutOk.count {l : List Pc} {at' : List Int} (h : CutOk l at') : (rawG at' 0 [] [] (singleL l)).length = at'.length + 1 := (raw_units _ _ 0 [] [] h.pl0).1
/-- the parts glued are the list -/
theorem CutOk.glued {l : List Pc} {at' : List Int} (h : CutOk l at') : glueE ((rawG at' 0 [] [] (singleL l)).map joinL) = 0 ∧ glueL ((rawG at' 0 [] [] (singleL l)).map joinL) = l := by
  have hk := raw_keep (rawG at' 0 [] [] (singleL l)).length (singleL l) at' 0 0 [] [] tag0 (chk_atoms h.ok) (fun h => absurd h (by omega)) (fun h => absurd h (by omega)) (okPl_ge h.pl) (fun y hy => by cases hy) (by omega)
  have hf := raw_fit (singleL l) at' 0 [] [] tag0 (chk_atoms h.ok) (fun h => absurd h (by omega)) (okPl_ge h.pl) (fun y hy => by cases hy)
  have hg := gTo_keep h.atoms (rawG at' 0 [] [] (singleL l)).length (Nat.le_refl _)
  have hv := h.valid
  have hc := h.count
  rw [keepTo_all, hk] at hg
  have hg2 : gTo ((rawG at' 0 [] [] (singleL l)).map joinL) (rawG at' 0 [] [] (singleL l)).length = l := by
    rw [hg]
    show joinL ([] ++ singleL l) = l
    rw [List.nil_append, join_single h.ok]
  generalize rawG at' 0 [] [] (singleL l) = R at *
  have hcheck : ∀ n, n ≤ R.length → checkPs (R.map joinL) n = 0 := by
    intro n
    induction n with
    | zero => intro _; rfl
    | succ n ih =>
      intro hn
      unfold checkPs
      rw [ih (by omega), if_neg (by simp), getD_map]
      exact hv _ (getD_memL (by omega))
  have hfit : ∀ n, n ≤ R.length - 1 → fitPs (R.map joinL) n = true := by
    intro n
    induction n with
    | zero => intro _; rfl
    | succ n ih =>
      intro hn
      unfold fitPs
      rw [ih (by omega), getD_map, getD_map]
      unfold fitB
      rw [(ends_join _).1, (ends_join _).2]
      simpa using hf n (by omega)
  have hl := (chk_of h.ok).1
  have hE : glueE (R.map joinL) = 0 := by
    unfold glueE
    rw [List.length_map, if_neg (by omega), if_neg (by rw [hcheck _ (Nat.le_refl _)]; simp), if_neg (by rw [hfit _ (Nat.le_refl _)]; simp), if_neg (by rw [hg2]; omega)]
  refine ⟨hE, ?_⟩
  unfold glueL
  rw [if_pos hE, List.length_map, hg2]
/-! sizes -/
def szL (l : List Pc) : Nat := (l.map fun x => x.s.size).sum
theorem bulk_sz (l : List Pc) : bulk l = l.length + szL l := rfl
theorem szL_app (a b : List Pc) : szL (a ++ b) = szL a + szL b := by unfold szL; rw [List.map_append, List.sum_append]
theorem szL_cons (x : Pc) (b : List Pc) : szL (x :: b) = x.s.size + szL b := by unfold szL; rw [List.map_cons, List.sum_cons]
theorem sz_add (L : List Pc) (x : Pc) : szL (addP L x) = szL L + x.s.size := by
  rcases List.eq_nil_or_concat L with rfl | ⟨L0, y, rfl⟩
  · rw [addP_nil]; simp [szL]
  · rw [List.concat_eq_append]
    by_cases hk : x.k = 1 ∧ y.k = 1
    · rw [addP_join hk.1 hk.2, szL_app, szL_app, szL_cons, szL_cons]
      simp [szL]; omega
    · rw [addP_more hk, szL_app, szL_cons]
      simp [szL]
theorem sz_fold : ∀ (S L : List Pc), szL (S.foldl addP L) = szL L + szL S
  | [], L => by simp [szL]
  | x :: S, L => by rw [List.foldl_cons, sz_fold S, sz_add, szL_cons]; omega
theorem sz_join (S : List Pc) : szL (joinL S) = szL S := by
  unfold joinL
  rw [sz_fold]
  simp [szL]
theorem sz_single {l : List Pc} (h : checkE l = 0) : szL (singleL l) = szL l := by rw [← sz_join (singleL l), join_single h]
theorem name_size {s : ByteArray} (h : nameB s = true) : s.size ≤ 16 := by
  unfold nameB at h
  simp only [Bool.and_eq_true, decide_eq_true_eq] at h
  exact h.1.1.2
theorem sz_names : ∀ (op : List ByteArray), (∀ s ∈ op, nameB s = true) → (op.map fun s => s.size).sum ≤ 16 * op.length
  | [], _ => by simp
  | s :: op, h => by
    have h1 := name_size (h s (List.mem_cons_self ..))
    have h2 := sz_names op fun q hq => h q (List.mem_cons_of_mem _ hq)
    rw [List.map_cons, List.sum_cons, List.length_cons]
    omega
theorem sz_openers {op : List ByteArray} (h : namesOk op) : szL (openersP op) ≤ 256 := by
  have h1 := sz_names op h.1
  have h2 := h.2
  have e : szL (openersP op) = (op.map fun s => s.size).sum := by unfold szL openersP; rw [List.map_map]; rfl
  rw [e]; omega
theorem sz_closers {op : List ByteArray} (h : namesOk op) : szL (closersP op) ≤ 256 := by
  have h1 := sz_names op.reverse fun s hs => h.1 s (List.mem_reverse.1 hs)
  have h2 := h.2
  rw [List.length_reverse] at h1
  have e : szL (closersP op) = (op.reverse.map fun s => s.size).sum := by unfold szL closersP; rw [List.map_map]; rfl
  rw [e]; omega
theorem raw_sz : ∀ (S : List Pc) (at' : List Int) (u : Nat) (op : List ByteArray) (acc : List Pc) (a : Pc), chk a op S → namesOk op → ((rawG at' u op acc S).map szL).sum ≤ szL acc + szL S + 512 * at'.length
  | [], at', u, op, acc, a, _, _ => by rw [rawG_end]; simp [szL]
  | x :: S, at', u, op, acc, a, hc, hn => by
    rw [chk_cons] at hc
    obtain ⟨g1, g2, op', hf, hc'⟩ := hc
    have ho := fol_opn hf
    have hn' := fol_names hf g1 hn
    match at' with
    | [] =>
      rw [rawG_none]
      simp [szL_app]
    | p :: r =>
      by_cases hh : (u : Int) = p ∧ x.k ≠ 3
      · rw [rawG_cut hh, ho, List.map_cons, List.sum_cons]
        have ih := raw_sz S r (cutUn u x) op' (openersP op ++ [x]) x hc' hn'
        have h1 := sz_openers hn
        have h2 := sz_closers hn
        rw [szL_app, szL_cons] at ih
        rw [szL_app, szL_cons, List.length_cons]
        have e : szL [] = 0 := rfl
        omega
      · rw [rawG_go hh, ho]
        have ih := raw_sz S (p :: r) (cutUn u x) op' (acc ++ [x]) x hc' hn'
        rw [szL_app, szL_cons] at ih
        rw [szL_cons]
        have e : szL [] = 0 := rfl
        omega
theorem CutOk.size {l : List Pc} {at' : List Int} (h : CutOk l at') : ((rawG at' 0 [] [] (singleL l)).map szL).sum ≤ szL l + 512 * at'.length := by
  have := raw_sz (singleL l) at' 0 [] [] tag0 (chk_atoms h.ok) names_nil
  rw [sz_single h.ok] at this
  have e : szL [] = 0 := rfl
  omega
theorem bulkPs_le (n : Nat) : ∀ R : List (List Pc), (∀ q ∈ R, (joinL q).length ≤ n) → bulkPs (R.map joinL) ≤ n * R.length + (R.map szL).sum
  | [], _ => by simp [bulkPs]
  | q :: R, h => by
    have ih := bulkPs_le n R fun r hr => h r (List.mem_cons_of_mem _ hr)
    have h1 := h q (List.mem_cons_self ..)
    unfold bulkPs at ih ⊢
    rw [List.map_cons, List.map_cons, List.sum_cons, List.map_cons, List.sum_cons, bulk_sz, sz_join, List.length_cons, Nat.mul_succ]
    omega
theorem raw_sz1 (N : Nat) : ∀ (S : List Pc) (at' : List Int) (u : Nat) (op : List ByteArray) (acc : List Pc) (a : Pc), chk a op S → namesOk op → szL acc + szL S ≤ N → 256 + szL S ≤ N → ∀ q ∈ rawG at' u op acc S, szL q ≤ N + 256
  | [], at', u, op, acc, a, _, _, h1, _, q, hq => by
    rw [rawG_end] at hq
    rw [List.mem_singleton.1 hq]
    omega
  | x :: S, at', u, op, acc, a, hc, hn, h1, h2, q, hq => by
    rw [chk_cons] at hc
    obtain ⟨g1, g2, op', hf, hc'⟩ := hc
    have ho := fol_opn hf
    have hn' := fol_names hf g1 hn
    have e : szL [] = 0 := rfl
    rw [szL_cons] at h1 h2
    have stay : ∀ at'' u', q ∈ rawG at'' u' op' (acc ++ [x]) S → szL q ≤ N + 256 := fun at'' u' hq' =>
      raw_sz1 N S at'' u' op' (acc ++ [x]) x hc' hn' (by rw [szL_app, szL_cons]; omega) (by omega) q hq'
    match at', hq with
    | [], hq =>
      rw [rawG, ho] at hq
      exact stay _ _ hq
    | p :: r, hq =>
      by_cases hh : (u : Int) = p ∧ x.k ≠ 3
      · rw [rawG_cut hh, ho] at hq
        rcases List.mem_cons.1 hq with rfl | hq
        · have h3 := sz_closers hn
          rw [szL_app]
          omega
        · have h3 := sz_openers hn
          exact raw_sz1 N S r _ op' (openersP op ++ [x]) x hc' hn' (by rw [szL_app, szL_cons]; omega) (by omega) q hq
      · rw [rawG_go hh, ho] at hq
        exact stay _ _ hq
theorem CutOk.bulks {l : List Pc} {at' : List Int} (h : CutOk l at') : bulkPs ((rawG at' 0 [] [] (singleL l)).map joinL) ≤ bulk l + 1024 * at'.length + 512 ∧ ∀ q ∈ rawG at' 0 [] [] (singleL l), bulk (joinL q) ≤ bulk l + 1024 := by
  have h1 := bulkPs_le 512 _ h.lg
  have h2 := h.size
  have h3 := h.count
  have h4 := bulk_sz l
  refine ⟨by rw [h3] at h1; omega, fun q hq => ?_⟩
  have h5 := h.lg q hq
  have h6 := raw_sz1 (szL l + 256) (singleL l) at' 0 [] [] tag0 (chk_atoms h.ok) names_nil (by rw [sz_single h.ok]; simp [szL]) (by rw [sz_single h.ok]; omega) q hq
  rw [bulk_sz, sz_join]
  omega
/-! cut in two steps -/
theorem okPl_shift (d : Int) : ∀ {r : List Int} {u n : Int}, okPl u n r → okPl (u - d) (n - d) (r.map fun p => p - d)
  | [], _, _, _ => trivial
  | p :: r, u, n, h => by
    obtain ⟨h1, h2, h3⟩ := h
    have ih := okPl_shift d h3
    refine ⟨by show u - d ≤ p - d; omega, by show p - d < n - d; omega, ?_⟩
    rwa [show p + 1 - d = p - d + 1 by omega] at ih
theorem CutOk.two {l : List Pc} {A B : List Int} {p : Int} (h : CutOk l (A ++ p :: B)) (h2 : CutOk l [p]) :
    ∃ q0 q1, rawG [p] 0 [] [] (singleL l) = [q0, q1] ∧ CutOk (joinL q0) A ∧ CutOk (joinL q1) (B.map fun b => b - p) ∧
      (rawG A 0 [] [] (singleL (joinL q0))).map joinL ++ (rawG (B.map fun b => b - p) 0 [] [] (singleL (joinL q1))).map joinL = (rawG (A ++ p :: B) 0 [] [] (singleL l)).map joinL := by
  obtain ⟨o1, o2, o3, o4⟩ := okPl_app h.pl
  obtain ⟨T, S1, e, hs⟩ := sp_some (singleL l) 0 p (by omega) (by rw [unS_single]; omega)
  have hun := sp_un hs
  rw [Nat.zero_add] at hun
  have hfo := un_fold T 0
  rw [Nat.zero_add] at hfo
  have sA := raw_split p B S1 T A 0 [] [] hs (okPl_low (by omega) o1) (fun b hb => by have := okPl_le o4 b hb; omega)
  have s2 := raw_split p [] S1 T [] 0 [] [] hs trivial (fun b hb => by cases hb)
  rw [← e, hfo] at sA s2
  rw [List.nil_append, rawG_none, rawG_none] at s2
  rw [List.nil_append] at s2
  have hv := h2.valid
  have ha := h2.atoms
  have hlg := h.lg
  rw [s2] at hv ha
  have hm0 : T ++ closersP (T.foldl cutOpn []) ∈ [T ++ closersP (T.foldl cutOpn [])] ++ [openersP (T.foldl cutOpn []) ++ S1] := by simp
  have hm1 : openersP (T.foldl cutOpn []) ++ S1 ∈ [T ++ closersP (T.foldl cutOpn [])] ++ [openersP (T.foldl cutOpn []) ++ S1] := by simp
  have a0 := ha _ hm0
  have a1 := ha _ hm1
  have v0 := hv _ hm0
  have v1 := hv _ hm1
  have j0 := (joined _ a0).one
  have j1 := (joined _ a1).one
  have n0 := units_join a0
  have n1 := units_join a1
  have htot : nUnits l = unS T + unS S1 := by rw [← unS_single, e, unS_app]
  rw [unS_app, unS_closers] at n0
  rw [unS_app, unS_openers] at n1
  have hB1 : ∀ q ∈ B.map fun b => b - p, (1 : Int) ≤ q := fun q hq => by
    obtain ⟨b, hb, rfl⟩ := List.mem_map.1 hq
    have := okPl_le o4 b hb
    omega
  have hsh := raw_shift (unS T) S1 B 0 (T.foldl cutOpn []) (openersP (T.foldl cutOpn []))
  rw [Nat.zero_add, hun] at hsh
  have hop := raw_openers hB1 S1 (T.foldl cutOpn []) [] []
  rw [List.nil_append, List.nil_append, hsh] at hop
  refine ⟨T ++ closersP (T.foldl cutOpn []), openersP (T.foldl cutOpn []) ++ S1, s2, ⟨v0, ?_, fun q hq => ?_⟩, ⟨v1, ?_, fun q hq => ?_⟩, ?_⟩
  · rw [n0]
    rwa [show ((unS T + 0 : Nat) : Int) = p by omega]
  · rw [j0] at hq
    exact hlg q (by rw [sA]; exact List.mem_append_left _ hq)
  · rw [n1]
    have := okPl_shift p o4
    rwa [show p + 1 - p = 1 by omega, show (nUnits l : Int) - p = ((0 + unS S1 : Nat) : Int) by rw [htot]; omega] at this
  · rw [j1, hop] at hq
    exact hlg q (by rw [sA]; exact List.mem_append_right _ hq)
  · rw [j0, j1, hop, sA, List.map_append]
end Go.Proofs.YtnkpjkomokkhcaaGreatDoor
