/- How lists of pieces are written, and their texts, as the specification tells it. -/
import Derived.Test.YtcgghmpafphcpaaGreatDoorDq3
namespace Go.Proofs.YtcgghmpafphcpaaGreatDoor
open Go Go.RowKit
set_option maxRecDepth 100000
theorem ret_str {a b : ByteArray} (h : a = b) : Ending.returned (.string a) = .returned (.string b) := by rw [h]
theorem bytes_app (l : List UInt8) (s : ByteArray) : bytes l ++ s = bytes (l ++ s.data.toList) := by
  rw [bytes_data s, app_bytes]; rfl
theorem bytes_size (l : List UInt8) : (bytes l).size = l.length := by unfold bytes; simp [ByteArray.size]
theorem extract_one (s : ByteArray) (k : Nat) (hk : k < s.size) : s.extract k (k + 1) = bytes [s[k]] := by
  unfold bytes
  apply ByteArray.ext
  apply Array.ext'
  rw [ByteArray.data_extract, Array.toList_extract]
  have hk' : k < s.data.toList.length := hk
  simp only [List.extract_eq_take_drop, Nat.add_sub_cancel_left]
  rw [List.drop_eq_getElem_cons hk']
  rfl
theorem special_int (b : UInt8) : special b = (decide ((b.toNat : Int) = 92) || decide ((b.toNat : Int) = 60) || decide ((b.toNat : Int) = 123)) := by
  unfold special
  have h : ∀ n : UInt8, (b == n) = decide ((b.toNat : Int) = (n.toNat : Int)) := fun n => by
    rw [Bool.eq_iff_iff]; simp [← UInt8.toNat_inj]; omega
  rw [h, h, h]; rfl
theorem esc_spec {s : ByteArray} {k : Nat} (hk : k < s.size) (h : special s[k] = true) : bytes (esc (s.data.toList.take k)) ++ ⟨#[92]⟩ ++ s.extract k (k + 1) = bytes (esc (s.data.toList.take (k + 1))) := by
  rw [esc_succ s k hk, if_pos h, extract_one s k hk, show (⟨#[92]⟩ : ByteArray) = bytes [92] from rfl, app_bytes, app_bytes]
  simp
theorem esc_plain {s : ByteArray} {k : Nat} (hk : k < s.size) (h : special s[k] = false) : bytes (esc (s.data.toList.take k)) ++ s.extract k (k + 1) = bytes (esc (s.data.toList.take (k + 1))) := by
  rw [esc_succ s k hk, if_neg (by rw [h]; simp), extract_one s k hk, app_bytes]
set_option maxHeartbeats 8000000 in
theorem written_text (s : ByteArray) (w : World) (hs : s.size ≤ 100000) :
    Calls Tryz.prog 60 #[.agg #[.int .u8 1, .string s, .bool false]] w fun e w' => e = .returned (.string (bytes (esc s.data.toList))) ∧ Below w.heap.size w w' := by
  have ag := Tryz.isAgg39
  have zg := Tryz.sizeOf39
  have HB := Lib.hid (below_box (w := w) (pcC ⟨1, s, false⟩))
  unfold pcC at HB
  go_enter Tryz.func60, Tryz.ntmps60
  go_wp2
  go_loop [4, 5] (fun o i => ∃ k : Nat, k ≤ s.size ∧ i = .int .i64 k ∧ o = .string (bytes (esc (s.data.toList.take k)))) (fun _ i => s.size - (intOf i).toNat)
  case atStart => exact ⟨0, Nat.zero_le _, rfl, rfl⟩
  case round =>
    obtain ⟨k, hk, rfl, rfl⟩ := hrel
    by_cases hlt : k < s.size
    · have hle := esc_length (s.data.toList.take k)
      rw [List.length_take] at hle
      have hbs := bytes_size (esc (s.data.toList.take k))
      have HS := Lib.hid (esc_spec hlt)
      have HZ := Lib.hid (esc_plain hlt)
      have HSP := Lib.hid (special_int s[k])
      generalize hc : (s[k].toNat : Int) = c at HSP
      by_cases h1 : c = 92
      · go_wp2
        go_round
        case rel => exact ⟨k + 1, by omega, by go_num, congrArg Value.string (HS.out (by rw [HSP.out]; simp [h1]))⟩
        case measure => simp [intOf]; omega
      · have h1b : (c == 92) = false := beq_eq_false_iff_ne.2 h1
        by_cases h2 : c = 60
        · go_wp2
          go_round
          case rel => exact ⟨k + 1, by omega, by go_num, congrArg Value.string (HS.out (by rw [HSP.out]; simp [h2]))⟩
          case measure => simp [intOf]; omega
        · have h2b : (c == 60) = false := beq_eq_false_iff_ne.2 h2
          by_cases h3 : c = 123
          · go_wp2
            go_round
            case rel => exact ⟨k + 1, by omega, by go_num, congrArg Value.string (HS.out (by rw [HSP.out]; simp [h3]))⟩
            case measure => simp [intOf]; omega
          · have h3b : (c == 123) = false := beq_eq_false_iff_ne.2 h3
            go_wp2
            go_round
            case rel => exact ⟨k + 1, by omega, by go_num, congrArg Value.string (HZ.out (by rw [HSP.out]; simp [h1, h2, h3]))⟩
            case measure => simp [intOf]; omega
    · have hE : s.data.toList.take k = s.data.toList := List.take_of_length_le (by rw [bytes_len]; omega)
      rw [hE]
      go_wp2
      go_ret
      exact ⟨rfl, HB.out⟩
set_option maxHeartbeats 2000000 in
theorem written0 (s : ByteArray) (w : World) (hs : s.size ≤ 100000) :
    Calls Tryz.prog 60 #[.agg #[.int .u8 2, .string s, .bool false]] w fun e w' => e = .returned (.string (bytes ([60] ++ s.data.toList ++ [62]))) ∧ Below w.heap.size w w' := by
  have ag := Tryz.isAgg39
  have zg := Tryz.sizeOf39
  have HB := Lib.hid (below_box (w := w) (pcC ⟨2, s, false⟩))
  unfold pcC at HB
  go_enter Tryz.func60, Tryz.ntmps60
  go_wp2
  go_ret
  exact ⟨ret_str (by unfold bytes; apply ByteArray.ext; simp), HB.out⟩
set_option maxHeartbeats 2000000 in
theorem written1 (s : ByteArray) (w : World) (hs : s.size ≤ 100000) :
    Calls Tryz.prog 60 #[.agg #[.int .u8 2, .string s, .bool true]] w fun e w' => e = .returned (.string (bytes ([60, 43] ++ s.data.toList ++ [62]))) ∧ Below w.heap.size w w' := by
  have ag := Tryz.isAgg39
  have zg := Tryz.sizeOf39
  have HB := Lib.hid (below_box (w := w) (pcC ⟨2, s, true⟩))
  unfold pcC at HB
  go_enter Tryz.func60, Tryz.ntmps60
  go_wp2
  go_ret
  exact ⟨ret_str (by unfold bytes; apply ByteArray.ext; simp), HB.out⟩
set_option maxHeartbeats 2000000 in
theorem written2 (s : ByteArray) (w : World) (hs : s.size ≤ 100000) :
    Calls Tryz.prog 60 #[.agg #[.int .u8 3, .string s, .bool false]] w fun e w' => e = .returned (.string (bytes ([60, 47] ++ s.data.toList ++ [62]))) ∧ Below w.heap.size w w' := by
  have ag := Tryz.isAgg39
  have zg := Tryz.sizeOf39
  have HB := Lib.hid (below_box (w := w) (pcC ⟨3, s, false⟩))
  unfold pcC at HB
  go_enter Tryz.func60, Tryz.ntmps60
  go_wp2
  go_ret
  exact ⟨ret_str (by unfold bytes; apply ByteArray.ext; simp), HB.out⟩
set_option maxHeartbeats 2000000 in
theorem written3 (s : ByteArray) (w : World) (hs : s.size ≤ 100000) :
    Calls Tryz.prog 60 #[.agg #[.int .u8 3, .string s, .bool true]] w fun e w' => e = .returned (.string (bytes ([60, 47, 43] ++ s.data.toList ++ [62]))) ∧ Below w.heap.size w w' := by
  have ag := Tryz.isAgg39
  have zg := Tryz.sizeOf39
  have HB := Lib.hid (below_box (w := w) (pcC ⟨3, s, true⟩))
  unfold pcC at HB
  go_enter Tryz.func60, Tryz.ntmps60
  go_wp2
  go_ret
  exact ⟨ret_str (by unfold bytes; apply ByteArray.ext; simp), HB.out⟩
set_option maxHeartbeats 2000000 in
theorem written4 (s : ByteArray) (w : World) (hs : s.size ≤ 100000) :
    Calls Tryz.prog 60 #[.agg #[.int .u8 4, .string s, .bool false]] w fun e w' => e = .returned (.string (bytes ([60] ++ s.data.toList ++ [47, 62]))) ∧ Below w.heap.size w w' := by
  have ag := Tryz.isAgg39
  have zg := Tryz.sizeOf39
  have HB := Lib.hid (below_box (w := w) (pcC ⟨4, s, false⟩))
  unfold pcC at HB
  go_enter Tryz.func60, Tryz.ntmps60
  go_wp2
  go_ret
  exact ⟨ret_str (by unfold bytes; apply ByteArray.ext; simp), HB.out⟩
set_option maxHeartbeats 2000000 in
theorem written5 (s : ByteArray) (w : World) (hs : s.size ≤ 100000) :
    Calls Tryz.prog 60 #[.agg #[.int .u8 5, .string s, .bool false]] w fun e w' => e = .returned (.string (bytes ([123] ++ s.data.toList ++ [125]))) ∧ Below w.heap.size w w' := by
  have ag := Tryz.isAgg39
  have zg := Tryz.sizeOf39
  have HB := Lib.hid (below_box (w := w) (pcC ⟨5, s, false⟩))
  unfold pcC at HB
  go_enter Tryz.func60, Tryz.ntmps60
  go_wp2
  go_ret
  exact ⟨ret_str (by unfold bytes; apply ByteArray.ext; simp), HB.out⟩
theorem written_any (x : Pc) (w : World) (hs : x.s.size ≤ 100000) (h : pieceE x = 0) :
    Calls Tryz.prog 60 #[pcV x] w fun e w' => e = .returned (.string (bytes (wB x))) ∧ Below w.heap.size w w' := by
  by_cases h1 : x.k = 1
  · have hc : x.c = false := by
      unfold pieceE at h
      rw [if_neg (by omega)] at h
      cases e : x.c
      · rfl
      · rw [if_pos ⟨e, by omega, by omega⟩] at h; cases h
    obtain ⟨k, s, c⟩ := x
    simp only at h1 hc hs
    subst h1 hc
    exact written_text s w hs
  · have hk := piece_kinds h h1
    obtain ⟨k, s, c⟩ := x
    simp only at hk hs
    unfold pcV
    rcases hk with rfl | rfl | ⟨rfl, rfl⟩ | ⟨rfl, rfl⟩
    · cases c
      · exact written0 s w hs
      · exact written1 s w hs
    · cases c
      · exact written2 s w hs
      · exact written3 s w hs
    · exact written4 s w hs
    · exact written5 s w hs
set_option maxHeartbeats 4000000 in
theorem form_any (l : List Pc) (v : Value) (w : World) (hv : PcsAt w v l) (hb : bulk l ≤ 10000) (hval : ∀ i, i < l.length → pieceE (l.getD i nil) = 0) :
    Calls Tryz.prog 26 #[v] w fun e w' => e = .returned (.string (bytes (formB l))) ∧ Below w.heap.size w w' := by
  obtain ⟨p, cap, rfl, hl, hc, hrow⟩ := hv
  unfold maxLen at hc
  have ag := Tryz.isAgg39
  have zg := Tryz.sizeOf39
  have HR := Lib.hid hrow
  have HV := Lib.hid hval
  clear hrow hval
  go_enter Tryz.func26, Tryz.ntmps26
  go_wp2
  go_loopw [3, 4] (fun o i wr => ∃ k : Nat, k ≤ l.length ∧ i = .int .i64 k ∧ o = .string (bytes (formB (l.take k))) ∧ Hid (Below w.heap.size w wr)) (fun _ i _ => l.length - (intOf i).toNat)
  case atStart => exact ⟨0, Nat.zero_le _, rfl, rfl, Below.refl _ _⟩
  case round =>
    obtain ⟨k, hk, rfl, rfl, HB⟩ := hrel
    by_cases hlt : k < l.length
    · obtain ⟨A, rfl, hA, hcell⟩ := HR.out (by omega)
      obtain ⟨x0, x1, x2⟩ := pcs_cells hA hcell hlt HB.out
      have hlen := formB_length (l.take k)
      have hbt := bulk_take l k
      have hsz := bulk_getD hlt
      have HF := Lib.hid (formB_succ l k hlt)
      have hbs := bytes_size (formB (l.take k))
      have cW := fun wr => written_any (l.getD k nil) wr (by omega) (HV.out k hlt)
      clear hcell
      generalize l.getD k nil = x at x0 x1 x2 hsz HF cW
      have hwl := wB_length x
      have hws := bytes_size (wB x)
      unfold pcV at cW
      go_wp2_with (go_at_call 60; (with_reducible refine (cW _).mono ?_); rintro e w2 ⟨rfl, hb2⟩; have HB2 := Lib.hid (below_next HB.out hb2); clear hb2)
      go_roundw
      case rel => exact ⟨k + 1, by omega, by go_num, congrArg Value.string (by rw [HF.out, app_bytes]), HB2.out⟩
      case measure => simp [intOf]; omega
    · have hE : l.take k = l := List.take_of_length_le (by omega)
      rw [hE]
      go_wp2
      go_ret
      exact ⟨rfl, HB.out⟩
set_option maxHeartbeats 4000000 in
theorem refPlain_any (l : List Pc) (v : Value) (w : World) (hv : PcsAt w v l) (hb : bulk l ≤ 10000) :
    Calls Tryz.prog 13 #[v] w fun e w' => e = .returned (.string (bytes (plainB l))) ∧ w' = w := by
  obtain ⟨p, cap, rfl, hl, hc, hrow⟩ := hv
  unfold maxLen at hc
  have ag := Tryz.isAgg39
  have zg := Tryz.sizeOf39
  have HR := Lib.hid hrow
  clear hrow
  go_enter Tryz.func13, Tryz.ntmps13
  go_wp2
  go_loop [3, 4] (fun o i => ∃ k : Nat, k ≤ l.length ∧ i = .int .i64 k ∧ o = .string (bytes (plainB (l.take k)))) (fun _ i => l.length - (intOf i).toNat)
  case atStart => exact ⟨0, Nat.zero_le _, rfl, rfl⟩
  case round =>
    obtain ⟨k, hk, rfl, rfl⟩ := hrel
    by_cases hlt : k < l.length
    · obtain ⟨A, rfl, hA, hcell⟩ := HR.out (by omega)
      obtain ⟨x0, x1, x2⟩ := pcs_cells hA hcell hlt (Below.refl _ w)
      have hlen := plain_length (l.take k)
      have hbt := bulk_take l k
      have hsz := bulk_getD hlt
      have HF := Lib.hid (plainB_succ l k hlt)
      have hbs := bytes_size (plainB (l.take k))
      clear hcell
      generalize l.getD k nil = x at x0 x1 x2 hsz HF
      by_cases hk1 : x.k = 1
      · rw [if_pos hk1] at HF
        have hkb : (x.k == 1) = true := by simpa using hk1
        clear hk1
        go_wp2
        go_round
        case rel => exact ⟨k + 1, by omega, by go_num, congrArg Value.string (by rw [HF.out, bytes_app])⟩
        case measure => simp [intOf]; omega
      · rw [if_neg hk1, List.append_nil] at HF
        have hkb : (x.k == 1) = false := by simpa using hk1
        clear hk1
        go_wp2
        go_round
        case rel => exact ⟨k + 1, by omega, by go_num, congrArg Value.string (by rw [HF.out])⟩
        case measure => simp [intOf]; omega
    · have hE : l.take k = l := List.take_of_length_le (by omega)
      rw [hE]
      go_wp2
      go_ret
      exact ⟨rfl, rfl⟩
end Go.Proofs.YtcgghmpafphcpaaGreatDoor
