/- What text is: the decoder and the encoder undo each other just where a string is valid UTF-8; no run of any program here. -/
import Derived.Lib.ValidLaws
import Derived.Lib.MapLaws
import Derived.Laws.Cover4
import Derived.Laws.IdiomStrings
namespace Go.Proofs.YtcgghmpafphcpaaGreatDoor
open Go Go.Lib
theorem u8 {b : UInt8} {n : Nat} (h : n = b.toNat) : UInt8.ofNat n = b := by subst h; exact UInt8.ofNat_toNat
theorem enc1 {c : Nat} (h : c < 128) : (Utf8.encode (c : Int)).data.toList = [UInt8.ofNat c] := by
  have hv : Utf8.valid (c : Int) = true := by simp [Utf8.valid]; omega
  unfold Utf8.encode; simp [hv, h]
theorem enc2 {c : Nat} (h : 128 ≤ c) (h2 : c < 2048) : (Utf8.encode (c : Int)).data.toList = [UInt8.ofNat (192 + c / 64), UInt8.ofNat (128 + c % 64)] := by
  have hv : Utf8.valid (c : Int) = true := by simp [Utf8.valid]; omega
  unfold Utf8.encode; simp [hv, h2, show ¬ c < 128 by omega]
theorem enc3 {c : Nat} (h : 2048 ≤ c) (h2 : c < 65536) (hv' : c < 55296 ∨ 57344 ≤ c) : (Utf8.encode (c : Int)).data.toList = [UInt8.ofNat (224 + c / 4096), UInt8.ofNat (128 + c / 64 % 64), UInt8.ofNat (128 + c % 64)] := by
  have hv : Utf8.valid (c : Int) = true := by simp [Utf8.valid]; omega
  unfold Utf8.encode; simp [hv, h2, show ¬ c < 128 by omega, show ¬ c < 2048 by omega]
theorem enc4 {c : Nat} (h : 65536 ≤ c) (h2 : c ≤ 1114111) : (Utf8.encode (c : Int)).data.toList = [UInt8.ofNat (240 + c / 262144), UInt8.ofNat (128 + c / 4096 % 64), UInt8.ofNat (128 + c / 64 % 64), UInt8.ofNat (128 + c % 64)] := by
  have hv : Utf8.valid (c : Int) = true := by simp [Utf8.valid]; omega
  unfold Utf8.encode; simp [hv, show ¬ c < 128 by omega, show ¬ c < 2048 by omega, show ¬ c < 65536 by omega]
/-- what the decoder takes is what the encoder gives, but for a byte that is no rune -/
theorem roundtrip (l : List UInt8) (hne : l ≠ []) (h : ¬ ((decodeL l).1 = 65533 ∧ (decodeL l).2 = 1)) : (Utf8.encode ((decodeL l).1 : Int)).data.toList = l.take (decodeL l).2 := by
  rw [decodeL_N] at h ⊢
  match l, hne with
  | b0 :: t, _ =>
    have k0 := b0.toNat_lt
    rcases t with _ | ⟨b1, t⟩
    · simp only [List.getD_cons_zero, List.length_cons, List.length_nil] at h ⊢
      unfold decodeN at h ⊢
      by_cases c0 : b0.toNat < 128
      · rw [if_pos c0]; rw [enc1 c0]; simp
      · rw [if_neg c0] at h ⊢; simp at h
    · have k1 := b1.toNat_lt
      rcases t with _ | ⟨b2, t⟩
      · simp only [List.getD_cons_zero, List.getD_cons_succ, List.length_cons, List.length_nil] at h ⊢
        unfold decodeN at h ⊢
        by_cases c0 : b0.toNat < 128
        · rw [if_pos c0]; rw [enc1 c0]; simp
        · rw [if_neg c0] at h ⊢
          by_cases c1 : b0.toNat / 32 = 6 ∧ (1 < 0 + 1 + 1 ∧ b1.toNat / 64 = 2)
          · rw [if_pos c1] at h ⊢
            by_cases c2 : b0.toNat % 32 * 64 + b1.toNat % 64 ≥ 128
            · rw [if_pos c2]
              rw [enc2 c2 (by omega)]
              simp only [List.take_succ_cons, List.take_zero]
              rw [u8 (b := b0) (by omega), u8 (b := b1) (by omega)]
            · rw [if_neg c2] at h; simp at h
          · rw [if_neg c1] at h ⊢; simp at h
      · have k2 := b2.toNat_lt
        rcases t with _ | ⟨b3, t⟩
        all_goals
          simp only [List.getD_cons_zero, List.getD_cons_succ, List.length_cons, List.length_nil] at h ⊢
          unfold decodeN at h ⊢
          by_cases c0 : b0.toNat < 128
          · rw [if_pos c0]; rw [enc1 c0]; simp
          · rw [if_neg c0] at h ⊢
            split at h
            · rename_i c1
              rw [if_pos c1]
              split at h
              · rename_i c2
                rw [if_pos c2, enc2 c2 (by omega)]
                simp only [List.take_succ_cons, List.take_zero]
                rw [u8 (b := b0) (by omega), u8 (b := b1) (by omega)]
              · simp at h
            · rename_i c1
              rw [if_neg c1]
              split at h
              · rename_i c2
                rw [if_pos c2]
                split at h
                · rename_i c3
                  rw [if_pos c3, enc3 (by omega) (by omega) (by omega)]
                  simp only [List.take_succ_cons, List.take_zero]
                  rw [u8 (b := b0) (by omega), u8 (b := b1) (by omega), u8 (b := b2) (by omega)]
                · simp at h
              · rename_i c2
                rw [if_neg c2]
                split at h
                · rename_i c3
                  rw [if_pos c3]
                  first
                  | (exfalso; omega)
                  | (have k3 := b3.toNat_lt
                     split at h
                     · rename_i c4
                       rw [if_pos c4, enc4 (by omega) (by omega)]
                       simp only [List.take_succ_cons, List.take_zero]
                       rw [u8 (b := b0) (by omega), u8 (b := b1) (by omega), u8 (b := b2) (by omega), u8 (b := b3) (by omega)]
                     · simp at h)
                · simp at h
theorem bad_head (rest : List UInt8) : decodeL ((Utf8.encode (65533 : Int)).data.toList ++ rest) = (65533, 3) := by
  have e : (Utf8.encode (65533 : Int)).data.toList = [239, 191, 189] := by decide +kernel
  rw [e, decodeL_N]
  simp only [List.cons_append, List.getD_cons_zero, List.getD_cons_succ, List.length_cons, List.nil_append]
  unfold decodeN
  have e0 : (239 : UInt8).toNat = 239 := rfl
  have e1 : (191 : UInt8).toNat = 191 := rfl
  have e2 : (189 : UInt8).toNat = 189 := rfl
  rw [e0, e1, e2]
  rw [if_neg (by omega), if_neg (by omega), if_pos (by omega), if_pos (by omega)]
/-- the runes of a text, as the decoder gives them -/
def runesG : Nat → List UInt8 → List Nat
  | 0, _ => []
  | n + 1, l => if l = [] then [] else (decodeL l).1 :: runesG n (l.drop (decodeL l).2)
def encAll (rs : List Nat) : List UInt8 := rs.flatMap fun r : Nat => (Utf8.encode (r : Int)).data.toList
theorem enc_iff : ∀ (n : Nat) (l : List UInt8), l.length ≤ n → (encAll (runesG n l) = l ↔ validGoD n l = true) := by
  intro n
  induction n with
  | zero => intro l h; cases l with
    | nil => simp [runesG, encAll, validGoD]
    | cons _ _ => simp at h
  | succ n ih =>
    intro l h
    by_cases hl : l = []
    · subst hl; simp [runesG, encAll, validGoD]
    · simp only [runesG, validGoD, if_neg hl]
      have hw := decodeL_width l
      by_cases hb : (decodeL l).1 = 65533 ∧ (decodeL l).2 = 1
      · rw [if_pos hb]
        simp only [encAll, List.flatMap_cons]
        constructor
        · intro e
          exfalso
          rw [hb.1] at e
          have := bad_head (List.flatMap (fun r : Nat => (Utf8.encode (r : Int)).data.toList) (runesG n (List.drop (decodeL l).2 l)))
          rw [show ((65533 : Nat) : Int) = 65533 from rfl] at e
          rw [e] at this
          rw [this] at hb
          simp at hb
        · intro e; cases e
      · rw [if_neg hb]
        rw [← ih (l.drop (decodeL l).2) (by simp; omega)]
        have hr := roundtrip l hl hb
        simp only [encAll, List.flatMap_cons]
        rw [hr]
        constructor
        · intro e
          have e' : List.take (decodeL l).2 l ++ List.flatMap (fun r : Nat => (Utf8.encode (r : Int)).data.toList) (runesG n (List.drop (decodeL l).2 l)) = List.take (decodeL l).2 l ++ List.drop (decodeL l).2 l := by rw [List.take_append_drop]; exact e
          exact List.append_cancel_left e'
        · intro e
          rw [e, List.take_append_drop]
end Go.Proofs.YtcgghmpafphcpaaGreatDoor
