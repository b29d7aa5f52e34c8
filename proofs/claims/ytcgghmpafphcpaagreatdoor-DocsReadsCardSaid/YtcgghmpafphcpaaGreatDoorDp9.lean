/- Text and names as the specification tells them. -/
import Derived.Test.YtcgghmpafphcpaaGreatDoorDp8
import Derived.Laws.Cover4
namespace Go.Proofs.YtcgghmpafphcpaaGreatDoor
open Go Go.RowKit Go.Lib
set_option maxRecDepth 100000
def runesOf (s : ByteArray) : List Nat := runesG s.data.toList.length s.data.toList
def runeV (r : Nat) : Value := .int .i32 (r : Int)
theorem runesFrom_eq (s : ByteArray) : ∀ (b i : Nat) (acc : Array Value), Conv.runesFrom s b i acc = acc ++ ((runesG b (s.data.toList.drop i)).map runeV).toArray := by
  intro b
  induction b with
  | zero => intro i acc; simp [Conv.runesFrom, runesG]
  | succ b ih =>
    intro i acc
    unfold Conv.runesFrom
    by_cases h : i < s.size
    · have hne : s.data.toList.drop i ≠ [] := by
        intro e
        have := congrArg List.length e
        rw [List.length_drop, bytes_len] at this
        simp at this; omega
      rw [if_pos h]
      simp only [runesG, if_neg hne, decodeL_drop, List.drop_drop]
      rw [ih]
      apply Array.ext'
      simp [runeV]
    · have he : s.data.toList.drop i = [] := by
        apply List.drop_eq_nil_of_le
        rw [bytes_len]; omega
      rw [if_neg h, he]
      simp [runesG]
theorem runesG_length : ∀ (n : Nat) (l : List UInt8), (runesG n l).length ≤ n := by
  intro n
  induction n with
  | zero => intro l; simp [runesG]
  | succ n ih => intro l; simp only [runesG]; split
                 · simp
                 · have := ih (l.drop (decodeL l).2); simp; omega
theorem runesBytes_eq (rs : List Nat) : runesBytes (rs.map fun r : Nat => (r : Int)) = bytes (encAll rs) := by
  unfold runesBytes
  have key : ∀ (rs : List Nat) (a : List UInt8), (rs.map fun r : Nat => (r : Int)).foldl (fun r n => r ++ Utf8.encode n) (bytes a) = bytes (a ++ encAll rs) := by
    intro rs
    induction rs with
    | nil => intro a; simp [encAll]
    | cons r rs ih =>
      intro a
      simp only [List.map_cons, List.foldl_cons]
      rw [bytes_data (Utf8.encode (r : Int)), app_bytes, ih]
      simp [encAll]
  have := key rs []
  rw [List.nil_append] at this
  exact this
theorem toRunes (s : ByteArray) (w : World) (hs : s.size ≤ 100000) : ∃ cap W1, (convert 9 129 (.string s)).run Tryz.prog w = .ok (.slice (some ⟨w.heap.size, 0, none⟩) (runesOf s).length cap) W1 ∧ Below w.heap.size w W1 ∧
    (∀ (k r : Nat), (runesOf s)[k]? = some r → W1.cell? ⟨w.heap.size, k, none⟩ = some (.int .i32 (r : Int))) ∧ (runesOf s).length ≤ cap ∧
    (convert 129 9 (.slice (some ⟨w.heap.size, 0, none⟩) (runesOf s).length cap)).run Tryz.prog W1 = .ok (.string (bytes (encAll (runesOf s)))) W1 := by
  have e : Conv.runesFrom s s.size 0 #[] = ((runesOf s).map runeV).toArray := by
    rw [runesFrom_eq]; simp [runesOf]
  have hlen : (runesOf s).length ≤ s.size := runesG_length _ _
  have hsz : (Conv.runesFrom s s.size 0 #[]).size = (runesOf s).length := by rw [e]; simp
  have h1 := run_runes_of_string (P := Tryz.prog) w 9 129 21 s Tryz.underlying9 Tryz.underlying129 Tryz.underlying21 (by rw [hsz]; omega)
  have hge := grownCap_ge w (Conv.runesFrom s s.size 0 #[]).size 0 21
  rw [hsz] at h1 hge
  have hcell : ∀ (k r : Nat), (runesOf s)[k]? = some r → (w.drew.alloc (.cells (Conv.runesFrom s s.size 0 #[] ++ Array.replicate (grownCap w (runesOf s).length 0 21 - (runesOf s).length) (.int .i32 0)) 21)).cell? ⟨w.heap.size, k, none⟩ = some (.int .i32 (r : Int)) := by
    intro k r hk
    have hkl : k < (runesOf s).length := (List.getElem?_eq_some_iff.1 hk).1
    refine (Lib.cell_of_heap (heap_alloc_new w.drew _) k).trans ?_
    rw [e]
    rw [Array.getElem?_append_left (by simpa using hkl)]
    simp [hk, runeV]
  refine ⟨_, _, h1, ?_, hcell, by omega, ?_⟩
  · exact (Below.refl _ _).drew.alloc (Nat.le_refl _) _
  · rw [run_convert_runes_string _ _ _ 21 _ _ _ Tryz.underlying129 Tryz.underlying21 Tryz.underlying9]
    have hl := run_loadCells_list (P := Tryz.prog) (w.drew.alloc (.cells (Conv.runesFrom s s.size 0 #[] ++ Array.replicate (grownCap w (runesOf s).length 0 21 - (runesOf s).length) (.int .i32 0)) 21)) ⟨w.heap.size, 0, none⟩ (((runesOf s).map fun r : Nat => (r : Int)).map (Value.int .i32)) (fun j v hj => by
      rw [add_at]
      rw [List.map_map, List.getElem?_map] at hj
      obtain ⟨r, hr, rfl⟩ := Option.map_eq_some_iff.1 hj
      exact hcell j r hr)
    simp only [List.length_map] at hl
    rw [run_runesToString _ _ _ _ _ hl, runesBytes_eq]
theorem enc_valid (s : ByteArray) : ((bytes (encAll (runesOf s))).toList == s.toList) = validD s.data.toList := by
  have h := enc_iff s.data.toList.length s.data.toList (Nat.le_refl _)
  have e : validD s.data.toList = validGoD s.data.toList.length s.data.toList := rfl
  rw [Bool.eq_iff_iff, e, ← h, beq_iff_eq, ByteArray.toList_eq, ByteArray.toList_eq]
  unfold bytes runesOf
  simp
/-- no control rune among the first k -/
def noCtl (s : ByteArray) (k : Nat) : Prop := ∀ i r, (runesOf s)[i]? = some r → i < k → ctl r = false
theorem text_of (s : ByteArray) : textB s = (validD s.data.toList && (runesOf s).all fun r => !ctl r) := rfl
theorem all_no {s : ByteArray} {k : Nat} (h : noCtl s k) (hk : (runesOf s).length ≤ k) : ((runesOf s).all fun r => !ctl r) = true := by
  rw [List.all_eq_true]
  intro r hr
  obtain ⟨i, hi, rfl⟩ := List.getElem_of_mem hr
  rw [h i _ (List.getElem?_eq_getElem hi) (by omega)]; rfl
theorem all_yes {s : ByteArray} {k r : Nat} (hk : (runesOf s)[k]? = some r) (hc : ctl r = true) : ((runesOf s).all fun r => !ctl r) = false := by
  rw [List.all_eq_false]
  exact ⟨r, List.mem_of_getElem? hk, by rw [hc]; simp⟩
theorem noCtl.succ {s : ByteArray} {k r : Nat} (h : noCtl s k) (hk : (runesOf s)[k]? = some r) (hc : ctl r = false) : noCtl s (k + 1) := by
  intro i q hi hik
  by_cases e : i = k
  · subst e; rw [hk] at hi; cases hi; exact hc
  · exact h i q hi (by omega)
set_option maxHeartbeats 4000000 in
theorem refText_any (s : ByteArray) (w : World) (hs : s.size ≤ 100000) :
    Calls Tryz.prog 37 #[.string s] w fun e w' => e = .returned (.bool (textB s)) ∧ Below w.heap.size w w' := by
  obtain ⟨cap, W1, h1, hb, hcell, hcap, h2⟩ := toRunes s w hs
  have hV := enc_valid s
  have HT := Lib.hid (text_of s)
  have hlen : (runesOf s).length ≤ s.size := runesG_length _ _
  have HC := Lib.hid hcell
  have HBW := Lib.hid hb
  clear hcell hb
  generalize validD s.data.toList = V at hV HT
  cases V
  · go_enter Tryz.func37, Tryz.ntmps37
    go_wp2
    go_ret
    exact ⟨ret_bool (by rw [HT.out]; rfl), HBW.out⟩
  · go_enter Tryz.func37, Tryz.ntmps37
    go_wp2
    go_loop [4] (fun i => ∃ k : Nat, k ≤ (runesOf s).length ∧ i = .int .i64 k ∧ noCtl s k) (fun i => (runesOf s).length - (RowKit.intOf i).toNat)
    case atStart => exact ⟨0, Nat.zero_le _, rfl, fun _ _ _ h => absurd h (Nat.not_lt_zero _)⟩
    case round =>
      obtain ⟨k, hk, rfl, hN⟩ := hrel
      have HN := Lib.hid hN; clear hN
      by_cases hlt : k < (runesOf s).length
      · have hr : (runesOf s)[k]? = some (runesOf s)[k] := List.getElem?_eq_getElem hlt
        have c0 := HC.out k _ hr
        generalize (runesOf s)[k] = r at hr c0
        have HR := Lib.hid hr; clear hr
        have HY := Lib.hid (fun hc => all_yes HR.out hc)
        have HZ := Lib.hid (fun hc => HN.out.succ HR.out hc)
        have HCT := Lib.hid (show ctl r = (decide (r < 32) || decide (r = 127)) from rfl)
        by_cases h32 : (r : Int) < 32 <;> by_cases h127 : (r : Int) = 127
        · omega
        · go_wp2
          go_ret
          exact ⟨ret_bool (by rw [HT.out, HY.out (by rw [HCT.out]; simp; omega)]; rfl), HBW.out⟩
        · go_wp2
          go_ret
          exact ⟨ret_bool (by rw [HT.out, HY.out (by rw [HCT.out]; simp; omega)]; rfl), HBW.out⟩
        · have hb127 : ((r : Int) == 127) = false := by simp; omega
          go_wp2
          go_round
          case rel => exact ⟨k + 1, by omega, by go_num, HZ.out (by rw [HCT.out]; simp; omega)⟩
          case measure => simp [RowKit.intOf]; omega
      · go_wp2
        go_ret
        exact ⟨ret_bool (by rw [HT.out, all_no HN.out (by omega)]; rfl), HBW.out⟩
set_option maxHeartbeats 4000000 in
theorem refName_any (s : ByteArray) (w : World) (hs : s.size ≤ maxLen) :
    Calls Tryz.prog 65 #[.string s] w fun e w' => e = .returned (.bool (nameB s)) ∧ w' = w := by
  unfold maxLen at hs
  by_cases h0 : s.size = 0
  · have hI : ((s.size : Int) == 0) = true := by simp [h0]
    have HZ := Lib.hid (nameB_not (s := s) (by omega))
    clear h0
    go_enter Tryz.func65, Tryz.ntmps65
    go_wp2
    go_ret
    exact ⟨ret_bool HZ.out.symm, rfl⟩
  have hI : ((s.size : Int) == 0) = false := beq_eq_false_iff_ne.2 (by omega)
  by_cases h16 : s.size ≤ 16
  · have h00 : 0 < s.size := by omega
    have HG := Lib.hid (get0 h00)
    by_cases hb1 : (97 : Int) ≤ (s[0].toNat : Int) <;> by_cases hb2 : (s[0].toNat : Int) ≤ 122
    · have HL := Lib.hid (isL_of hb1 hb2)
      go_enter Tryz.func65, Tryz.ntmps65
      go_wp2
      go_loop [3] (fun i => ∃ k : Nat, k ≤ s.size ∧ i = .int .i64 k ∧ upTo isT s k) (fun i => s.size - (RowKit.intOf i).toNat)
      case atStart => exact ⟨0, Nat.zero_le _, rfl, upTo_zero _ _⟩
      case round =>
        obtain ⟨k, hk, rfl, hu⟩ := hrel
        have HU := Lib.hid hu; clear hu
        by_cases hlt : k < s.size
        · have HX := Lib.hid (fun h => upTo_succ HU.out hlt h)
          have HY := Lib.hid (fun h => nameB_later (s := s) hlt h)
          clear hb1 hb2
          generalize hc : (s[k].toNat : Int) = c at HX HY
          by_cases h1 : 97 ≤ c <;> by_cases h2 : c ≤ 122 <;> by_cases h3 : 48 ≤ c <;> by_cases h4 : c ≤ 57 <;> by_cases h5 : c = 45
          all_goals
            first
            | (exfalso; omega)
            | (try (have h45 : (c != 45) = true := by (simp; omega))
               go_wp2
               first
               | (go_ret
                  exact ⟨ret_bool (HY.out (isT_not (by omega) (by omega) (by omega))).symm, rfl⟩)
               | (go_round
                  case rel => exact ⟨k + 1, by omega, by go_num, HX.out (isT_of (by omega))⟩
                  case measure => simp [RowKit.intOf]; omega))
        · have HZ := Lib.hid (show nameB s = true by rw [nameB_of (by omega) h16, HG.out, HL.out, allB_true HU.out (by omega)]; rfl)
          go_wp2
          go_ret
          exact ⟨ret_bool HZ.out.symm, rfl⟩
    all_goals
      first
      | (exfalso; omega)
      | (have HZ := Lib.hid (nameB_first h00 (isL_not (by omega)))
         go_enter Tryz.func65, Tryz.ntmps65
         go_wp2
         go_ret
         exact ⟨ret_bool HZ.out.symm, rfl⟩)
  · have HZ := Lib.hid (nameB_not (s := s) (by omega))
    go_enter Tryz.func65, Tryz.ntmps65
    go_wp2
    go_ret
    exact ⟨ret_bool HZ.out.symm, rfl⟩
end Go.Proofs.YtcgghmpafphcpaaGreatDoor
