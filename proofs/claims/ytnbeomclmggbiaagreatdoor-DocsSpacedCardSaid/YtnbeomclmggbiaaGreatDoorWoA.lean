/- Words: which are tags; the bare ones, and the tags of a list, on both sides; equal lists of words. Words: equal lists of strings; what is wordy; the bare words, on both sides. Words: the bare words, by the program. Words: the tags of a list, by the program. Words: the bare words and the tags of a list, by the specification. Words: the classes of runes, by the specification; rows of letters and digits; which words are a row or a mark. Words: which words are rows, or a mark, by the specification; the piece that a word is. Words: the piece that a word is, by the specification. -/
import Derived.Test.YtnbeomclmggbiaaGreatDoorDoA
import Derived.Test.YtnbeomclmggbiaaGreatDoorRwA
import Derived.Test.YtnbeomclmggbiaaGreatDoorDqA
import Derived.Test.YtnbeomclmggbiaaGreatDoorRfB
namespace Go.Proofs.YtnbeomclmggbiaaGreatDoor
open Go Go.RowKit Go.Lib
set_option maxRecDepth 100000
def isTagB (x : Pc) : Bool := decide (x.k = 2) || decide (x.k = 3) || decide (x.k = 4)
/-- a word is the written form of a tag -/
noncomputable def tagW (s : ByteArray) : Bool := match markOf s.data.toList with
  | some x => isTagB x
  | none => false
theorem tagW_some {s : ByteArray} {x : Pc} (h : Mk x s.data.toList) : tagW s = isTagB x := by unfold tagW; rw [markOf_of h]
theorem tagW_none {s : ByteArray} (h : ∀ y, ¬ Mk y s.data.toList) : tagW s = false := by unfold tagW; rw [markOf_not h]
noncomputable def bareL (ws : List ByteArray) : List ByteArray := ws.filter fun s => !tagW s
def tagsL (l : List Pc) : List ByteArray := (l.filter isTagB).map fun x => bytes (wB x)
/-- words lie in memory -/
def strF (ws : List ByteArray) (i _j : Nat) : Value := .string (ws.getD i ByteArray.empty)
def StrsAt (w : World) (v : Value) (ws : List ByteArray) : Prop := SliceAt w.heap.size w v ws.length 1 (strF ws)
theorem StrsAt.step {w w' : World} {v : Value} {ws : List ByteArray} (hb : Below w.heap.size w w') (h : StrsAt w v ws) : StrsAt w' v ws := (SliceAt.below hb h).mono hb.size
theorem StrsAt.form {w : World} {v : Value} {ws : List ByteArray} (h : StrsAt w v ws) : ∃ ao cap, v = .slice ao ws.length cap := by
  obtain ⟨p, cap, rfl, _⟩ := h
  exact ⟨p, cap, rfl⟩
theorem OwnS.at {B : Nat} {v : Value} {ws : List ByteArray} {w : World} (h : OwnS B v ws w) : StrsAt w v ws := by
  have hc := h
  rcases h.2 with ⟨rfl, h0⟩ | ⟨g, cap, cur, rfl, hg, hh, hn, hm, _⟩
  · exact ⟨none, 0, by rw [h0], by omega, by unfold maxLen; omega, fun h => by omega⟩
  · refine ⟨some ⟨g, 0, none⟩, cap, rfl, hn, hm, fun _ => ⟨_, rfl, lt_of_block hh, fun i j hi hj => ?_⟩⟩
    have hg2 : (ws.map Value.string)[i * 1 + j]? = some (strF ws i j) := by
      rw [show i * 1 + j = i by omega, List.getElem?_map, List.getElem?_eq_getElem hi]
      unfold strF
      rw [List.getD_eq_getElem?_getD, List.getElem?_eq_getElem hi]
      rfl
    exact World.ownsRow.cells hc (g := g) rfl _ _ hg2
theorem strs_cell {B : Nat} {w : World} {A : Addr} {ws : List ByteArray} {k : Nat} {wr : World} (hA : A.block < B) (hcell : ∀ i j, i < ws.length → j < 1 → w.cell? (A.add (i * 1 + j)) = some (strF ws i j)) (hlt : k < ws.length) (hb : Below B w wr) :
    wr.cell? (A.add k) = some (.string (ws.getD k ByteArray.empty)) := by
  have hAb : (A.add k).block < B := by rw [add_block]; exact hA
  rw [hb.cell hAb]
  have := hcell k 0 hlt (by omega)
  rw [show k * 1 + 0 = k by omega] at this
  exact this
theorem getS_mem {ws : List ByteArray} {k : Nat} (hk : k < ws.length) : ws.getD k ByteArray.empty ∈ ws := by
  rw [List.getD_eq_getElem?_getD, List.getElem?_eq_getElem hk]; exact List.getElem_mem hk
set_option maxHeartbeats 2000000 in
theorem isTag_any (x : Pc) (w : World) : Calls Tryz.prog 61 #[pcV x] w fun e w' => e = .returned (.bool (isTagB x)) ∧ Below w.heap.size w w' := by
  obtain ⟨k, s, c⟩ := x
  unfold isTagB pcV
  have ag := Tryz.isAgg56
  have zg := Tryz.sizeOf56
  by_cases h2 : k = 2 <;> by_cases h3 : k = 3 <;> by_cases h4 : k = 4
  all_goals first
  | (exfalso; omega)
  | (go_enter Tryz.func61, Tryz.ntmps61
     go_wp2
     go_ret
     exact ⟨ret_bool (by simp [h2, h3, h4]), below_box _⟩)
set_option maxHeartbeats 2000000 in
theorem refTag_any (k : Int) (w : World) : Calls Tryz.prog 63 #[.int .u8 k] w fun e w' => e = .returned (.bool (decide (k = 2) || decide (k = 3) || decide (k = 4))) ∧ w' = w := by
  by_cases h2 : k = 2 <;> by_cases h3 : k = 3 <;> by_cases h4 : k = 4
  all_goals first
  | (exfalso; omega)
  | (go_enter Tryz.func63, Tryz.ntmps63
     go_wp2
     go_ret
     exact ⟨ret_bool (by simp [h2, h3, h4]), rfl⟩)
theorem MarkEnd.tell {s : ByteArray} {e : Ending} (h : MarkEnd s e) : ∃ x ok, e = .returned (.tuple #[.agg #[.int .u8 x.k, .string x.s, .bool x.c], .bool ok]) ∧ tagW s = (ok && isTagB x) := by
  obtain ⟨x, ok, rfl, h1, h2⟩ := h
  refine ⟨x, ok, rfl, ?_⟩
  cases ok
  · rw [tagW_none (h2 rfl)]; rfl
  · rw [tagW_some (h1 rfl)]; rfl
set_option maxHeartbeats 4000000 in
theorem isTagWord_any (s : ByteArray) (w : World) (hs : s.size ≤ 140737488355328) (hN : Nts w) :
    Calls Tryz.prog 56 #[.string s] w fun e w' => e = .returned (.bool (tagW s)) ∧ Below w.heap.size w w' := by
  have ag := Tryz.isAgg56
  have zg := Tryz.sizeOf56
  have cM := readMark_any s w hs hN
  have cT := fun x w2 => isTag_any x w2
  unfold pcV at cT
  go_enter Tryz.func56, Tryz.ntmps56
  go_wp2_with (first
  | (go_at_call 103; (with_reducible refine cM.mono ?_); rintro e w2 ⟨he2, hb2⟩; obtain ⟨x, ok, rfl, ht⟩ := he2.tell; have HT := Lib.hid ht; have HB2 := Lib.hid hb2; have cT2 := cT x; clear ht hb2 he2; generalize isTagB x = tb at HT cT2; cases ok)
  | (go_at_call 61; (with_reducible refine (cT2 _).mono ?_); rintro e w3 ⟨rfl, hb3⟩; have HB3 := Lib.hid hb3; clear hb3))
  · go_ret
    exact ⟨ret_bool (by rw [HT.out]; rfl), HB2.out.trans ((below_box _).mono HB2.out.size)⟩
  · go_ret
    exact ⟨ret_bool (by rw [HT.out]; cases tb <;> rfl), HB2.out.trans (((below_box _).trans (HB3.out.mono (below_box _).size)).mono HB2.out.size)⟩
end Go.Proofs.YtnbeomclmggbiaaGreatDoor
namespace Go.Proofs.YtnbeomclmggbiaaGreatDoor
open Go Go.RowKit Go.Lib
set_option maxRecDepth 100000
set_option maxHeartbeats 4000000 in
theorem sameS_any (l : List ByteArray) (u v : Value) (w : World) (hu : StrsAt w u l) (hv : StrsAt w v l) (hl : l.length ≤ 1000000) :
    Calls Tryz.prog 21 #[u, v] w fun e w' => e = .returned (.bool true) ∧ ∃ n, w' = w.drewN n := by
  obtain ⟨p, cap, rfl, hl1, hc, hrow⟩ := hu
  obtain ⟨q, cap2, rfl, hl2, hc2, hrow2⟩ := hv
  unfold maxLen at hc hc2
  have HR := Lib.hid hrow
  have HR2 := Lib.hid hrow2
  clear hrow hrow2
  go_enter Tryz.func21, Tryz.ntmps21
  go_wp2
  go_loopw [5] (fun i wr => ∃ k : Nat, k ≤ l.length ∧ i = .int .i64 k ∧ ∃ n, wr = w.drewN n) (fun i _ => l.length - (RowKit.intOf i).toNat)
  case atStart => exact ⟨0, Nat.zero_le _, rfl, 0, rfl⟩
  case round =>
    obtain ⟨k, hk, rfl, n, rfl⟩ := hrel
    obtain ⟨w1, hw1⟩ : ∃ w1, w1 = w.drewN n := ⟨_, rfl⟩
    have HW := Lib.hid hw1
    by_cases hlt : k < l.length
    · obtain ⟨A, rfl, hA, hcell⟩ := HR.out (by omega)
      obtain ⟨A2, rfl, hA2, hcell2⟩ := HR2.out (by omega)
      have hb : Below w.heap.size w w1 := by rw [hw1]; exact ⟨rfl, rfl, rfl, Nat.le_refl _, fun _ _ => rfl⟩
      have x0 := strs_cell hA hcell hlt hb
      have z0 := strs_cell hA2 hcell2 hlt hb
      rw [← hw1]
      clear hcell hcell2 hw1 hb
      generalize l.getD k ByteArray.empty = x at *
      go_wp2
      go_quiet (fail)
      go_wp2
      exact ⟨⟨k + 1, by omega, by simp, n + nq, by rw [HW.out, World.drewN_drewN]⟩, by simp [RowKit.intOf]; omega⟩
    · rw [← hw1]
      clear hw1
      go_wp2
      go_ret
      exact ⟨rfl, n, HW.out⟩
/-- the bytes of the first k words -/
def bytesK (ws : List ByteArray) (k : Nat) : Nat := ((ws.take k).map ByteArray.size).sum
theorem bytesK_zero (ws : List ByteArray) : bytesK ws 0 = 0 := rfl
theorem bytesK_succ (ws : List ByteArray) (k : Nat) (h : k < ws.length) : bytesK ws (k + 1) = bytesK ws k + (ws.getD k ByteArray.empty).size := by
  unfold bytesK
  have e : ws.take (k + 1) = ws.take k ++ [ws.getD k ByteArray.empty] := by
    rw [List.take_add_one, List.getElem?_eq_getElem h, List.getD_eq_getElem?_getD, List.getElem?_eq_getElem h]; rfl
  rw [e, List.map_append, List.sum_append]
  simp
theorem le_sum_of_mem {a : Nat} : ∀ {l : List Nat}, a ∈ l → a ≤ l.sum
  | b :: l, h => by
    rw [List.sum_cons]
    rcases List.mem_cons.1 h with rfl | h
    · omega
    · have := le_sum_of_mem h; omega
theorem bytesK_all {ws : List ByteArray} {s : ByteArray} (h : s ∈ ws) : s.size ≤ bytesK ws ws.length := by
  unfold bytesK
  rw [List.take_length]
  exact le_sum_of_mem (List.mem_map_of_mem h)
/-- not wordy: few words, or the first 700 of few bytes -/
def Few (ws : List ByteArray) : Prop := ws.length + bytesK ws (min ws.length 700) ≤ 3000
theorem Few.len {ws : List ByteArray} (h : Few ws) : ws.length ≤ 3000 := by unfold Few at h; omega
theorem Few.all {ws : List ByteArray} (h : Few ws) (hl : ws.length ≤ 700) : ws.length + bytesK ws ws.length ≤ 3000 := by
  unfold Few at h
  rwa [Nat.min_eq_left hl] at h
def WordyEnd (ws : List ByteArray) (e : Ending) : Prop := ∃ b, e = .returned (.bool b) ∧ (b = false → Few ws)
set_option maxHeartbeats 4000000 in
theorem wordy_any (ws : List ByteArray) (v : Value) (w : World) (hv : StrsAt w v ws) (hsz : ∀ s ∈ ws, s.size ≤ 140737488355328) (hn : ws.length ≤ 140737488355328) :
    Calls Tryz.prog 18 #[v] w fun e w' => WordyEnd ws e ∧ w' = w := by
  obtain ⟨p, cap, rfl, hl, hc, hrow⟩ := hv
  unfold maxLen at hc
  have HR := Lib.hid hrow
  have HSZ := Lib.hid hsz
  clear hrow hsz
  go_enter Tryz.func18, Tryz.ntmps18
  go_wp2
  go_loop [3, 4] (fun n i => ∃ k : Nat, k ≤ ws.length ∧ k ≤ 700 ∧ i = .int .i64 k ∧ n = .int .i64 ((ws.length + bytesK ws k : Nat) : Int) ∧ Hid (bytesK ws k ≤ k * 140737488355328)) (fun _ i => ws.length - (RowKit.intOf i).toNat)
  case atStart => exact ⟨0, Nat.zero_le _, by omega, rfl, by rw [bytesK_zero, Nat.add_zero], by show _ ≤ _; rw [bytesK_zero]; omega⟩
  case round =>
    obtain ⟨k, hk, hk7, rfl, rfl, HN⟩ := hrel
    by_cases hlt : k < ws.length
    · by_cases h7 : k < 700
      · obtain ⟨A, rfl, hA, hcell⟩ := HR.out (by omega)
        have x0 := strs_cell hA hcell hlt (Below.refl _ w)
        have hcs := bytesK_succ ws k hlt
        have hsb := HSZ.out _ (getS_mem hlt)
        have hnb := HN.out
        have h7i : (k : Int) < 700 := by omega
        clear hcell
        generalize ws.getD k ByteArray.empty = x at x0 hcs hsb
        have HCS := Lib.hid hcs
        clear hcs
        generalize bytesK ws k = q at HN hnb HCS
        go_wp2
        go_round
        case rel => exact ⟨k + 1, by omega, by omega, by go_num, by rw [HCS.out]; go_num, by show _ ≤ _; rw [HCS.out]; omega⟩
        case measure => simp [RowKit.intOf]; omega
      · have h7i : ¬ (k : Int) < 700 := by omega
        have hk7 : k = min ws.length 700 := by omega
        have HX := Lib.hid (show ws.length + bytesK ws k ≤ 3000 → Few ws by rw [hk7]; exact id)
        clear hk7
        generalize bytesK ws k = q at *
        go_wp2
        go_ret
        exact ⟨⟨_, rfl, fun h => HX.out (by simp at h; omega)⟩, rfl⟩
    · have hk7 : k = min ws.length 700 := by omega
      have HX := Lib.hid (show ws.length + bytesK ws k ≤ 3000 → Few ws by rw [hk7]; exact id)
      clear hk7
      generalize bytesK ws k = q at *
      go_wp2
      go_ret
      exact ⟨⟨_, rfl, fun h => HX.out (by simp at h; omega)⟩, rfl⟩
end Go.Proofs.YtnbeomclmggbiaaGreatDoor
namespace Go.Proofs.YtnbeomclmggbiaaGreatDoor
open Go Go.RowKit Go.Lib
set_option maxRecDepth 100000
noncomputable def bareK (ws : List ByteArray) (k : Nat) : List ByteArray := bareL (ws.take k)
theorem bareK_zero (ws : List ByteArray) : bareK ws 0 = [] := rfl
theorem bareK_all (ws : List ByteArray) : bareK ws ws.length = bareL ws := by unfold bareK; rw [List.take_length]
theorem takeS_succ {ws : List ByteArray} {k : Nat} (h : k < ws.length) : ws.take (k + 1) = ws.take k ++ [ws.getD k ByteArray.empty] := by
  rw [List.take_add_one, List.getElem?_eq_getElem h, List.getD_eq_getElem?_getD, List.getElem?_eq_getElem h]; rfl
theorem bareK_succ {ws : List ByteArray} {k : Nat} (h : k < ws.length) : bareK ws (k + 1) = bareK ws k ++ bif tagW (ws.getD k ByteArray.empty) then [] else [ws.getD k ByteArray.empty] := by
  unfold bareK bareL
  rw [takeS_succ h, List.filter_append]
  cases h : tagW (ws.getD k ByteArray.empty) <;> simp [h, -List.getD_eq_getElem?_getD]
theorem bareK_len (ws : List ByteArray) (k : Nat) : (bareK ws k).length ≤ k := by
  unfold bareK bareL
  exact Nat.le_trans (List.length_filter_le _ _) (by rw [List.length_take]; omega)
set_option maxHeartbeats 4000000 in
theorem bare_any (ws : List ByteArray) (v : Value) (w : World) (hv : StrsAt w v ws) (hsz : ∀ s ∈ ws, s.size ≤ 140737488355328) (hn : ws.length ≤ 100000) (hN : Nts w) :
    Calls Tryz.prog 24 #[v] w fun e w' => (∃ u, e = .returned u ∧ OwnS w.heap.size u (bareL ws) w') ∧ Below w.heap.size w w' := by
  obtain ⟨p, cap, rfl, hl, hc, hrow⟩ := hv
  unfold maxLen at hc
  obtain ⟨i0, hi, hz0, hz1, hz2⟩ := info_parts info_str
  have HR := Lib.hid hrow
  have HSZ := Lib.hid hsz
  have HT := Lib.hid hN
  clear hrow hsz hN
  go_enter Tryz.func24, Tryz.ntmps24
  go_wp2
  go_loopw [3, 8] (fun o i wr => ∃ k : Nat, k ≤ ws.length ∧ i = .int .i64 k ∧ Hid (OwnS w.heap.size o (bareK ws k) wr) ∧ Hid (Below w.heap.size w wr)) (fun _ i _ => ws.length - (RowKit.intOf i).toNat)
  case atStart => exact ⟨0, Nat.zero_le _, rfl, World.ownsRow_nil _ _ _ _, Below.refl _ _⟩
  case round =>
    obtain ⟨k, hk, rfl, HK, HB⟩ := hrel
    by_cases hlt : k < ws.length
    · obtain ⟨A, rfl, hA, hcell⟩ := HR.out (by omega)
      have x0 := strs_cell hA hcell hlt HB.out
      have hS := bareK_succ hlt
      have hsb := HSZ.out _ (getS_mem hlt)
      have hL := bareK_len ws k
      have hL1 := bareK_len ws (k + 1)
      clear hcell
      generalize ws.getD k ByteArray.empty = x at x0 hS hsb
      generalize bareK ws k = o1 at HK hS hL
      have cT := fun wr (h : Below w.heap.size w wr) => isTagWord_any x wr hsb (HT.out.step h)
      have cT1 := cT wr HB.out
      obtain ⟨ao, ca, rfl⟩ := HK.out.form
      cases hx : tagW x
      · rw [hx] at cT1 hS
        have HS := Lib.hid hS
        clear hS
        go_wp2_with (first
          | (go_at_call 56; (with_reducible refine cT1.mono ?_); rintro e w2 ⟨rfl, hb2⟩; have HB2 := Lib.hid (below_next HB.out hb2); have HK2 := Lib.hid (HK.out.step hb2); clear hb2; have hown := HK2.out; unfold OwnS at hown; have hsz2 := HB2.out.size)
          | (at_builtin; refine wpList_append_own _ rfl _ _ 36 rfl w.heap.size 9 i0 (.string ⟨#[]⟩) 1 16 Tryz.underlying36 hi hz0 hz1 hz2 rfl (by decide) _ _ _ rfl (hown.alloc _) ⟨w2.heap.size, 0, none⟩ 1 1 [.string x] rfl rfl (cell_new1 _ _ _) (fun x hx => by simp at hx; subst hx; rfl) (by unfold maxLen; omega) (by omega) (by simp; omega) ?_; intro v3 w3 hown3 hgrow3 hnil3
             have HB3 := Lib.hid ((HB2.out.alloc HB2.out.size (.cells #[.string x] 9)).grown hgrow3 (by simp; omega) (fun k hk => (hown.lt k hk).1))
             have HK3 := Lib.hid (show OwnS w.heap.size v3 (o1 ++ [x]) w3 by unfold OwnS; rw [List.length_append, List.map_append]; exact hown3)
             clear hown hown3 hgrow3 hnil3))
        go_roundw
        case rel => exact ⟨k + 1, by omega, by go_num, (by show OwnS _ _ _ _; rw [HS.out]; exact HK3.out), HB3.out⟩
        case measure => simp [RowKit.intOf]; omega
      · rw [hx] at cT1 hS
        have HS := Lib.hid hS
        clear hS
        go_wp2_with (go_at_call 56; (with_reducible refine cT1.mono ?_); rintro e w2 ⟨rfl, hb2⟩; have HB2 := Lib.hid (below_next HB.out hb2); have HK2 := Lib.hid (HK.out.step hb2); clear hb2)
        go_roundw
        case rel => exact ⟨k + 1, by omega, by go_num, (by show OwnS _ _ _ _; rw [HS.out]; simpa using HK2.out), HB2.out⟩
        case measure => simp [RowKit.intOf]; omega
    · have hkl : k = ws.length := by omega
      have HK2 := Lib.hid (show OwnS w.heap.size _ (bareL ws) wr by rw [← bareK_all, ← hkl]; exact HK.out)
      clear HK hkl
      go_wp2
      go_ret
      exact ⟨⟨_, rfl, HK2.out⟩, HB.out⟩
end Go.Proofs.YtnbeomclmggbiaaGreatDoor
namespace Go.Proofs.YtnbeomclmggbiaaGreatDoor
open Go Go.RowKit Go.Lib
set_option maxRecDepth 100000
def tagsK (l : List Pc) (k : Nat) : List ByteArray := tagsL (l.take k)
theorem tagsK_zero (l : List Pc) : tagsK l 0 = [] := rfl
theorem tagsK_all (l : List Pc) : tagsK l l.length = tagsL l := by unfold tagsK; rw [List.take_length]
theorem takeP_succ {l : List Pc} {k : Nat} (h : k < l.length) : l.take (k + 1) = l.take k ++ [l.getD k nil] := by
  rw [List.take_add_one, List.getElem?_eq_getElem h, List.getD_eq_getElem?_getD, List.getElem?_eq_getElem h]; rfl
theorem tagsK_succ {l : List Pc} {k : Nat} (h : k < l.length) : tagsK l (k + 1) = tagsK l k ++ bif isTagB (l.getD k nil) then [bytes (wB (l.getD k nil))] else [] := by
  unfold tagsK tagsL
  rw [takeP_succ h, List.filter_append, List.map_append]
  cases h : isTagB (l.getD k nil) <;> simp [h, -List.getD_eq_getElem?_getD]
theorem tagsK_len (l : List Pc) (k : Nat) : (tagsK l k).length ≤ k := by
  unfold tagsK tagsL
  rw [List.length_map]
  exact Nat.le_trans (List.length_filter_le _ _) (by rw [List.length_take]; omega)
/-- what Tags returns -/
def TagsEnd (B : Nat) (l : List Pc) (e : Ending) (w' : World) : Prop := ∃ v, e = .returned (.tuple #[v, .int .u8 (checkE l)]) ∧ OwnS B v (if checkE l = 0 then tagsL l else []) w'
set_option maxHeartbeats 8000000 in
theorem tags_any (l : List Pc) (v : Value) (w : World) (hv : PcsAt w v l) (hb : bulk l ≤ 100000) (hT : Tabs w) (hN : Nts w) :
    Calls Tryz.prog 29 #[v] w fun e w' => TagsEnd w.heap.size l e w' ∧ Below w.heap.size w w' := by
  have cC := checkPieces_any l v w hv (short_mem hb) hT
  obtain ⟨p, cap, rfl, hl, hc, hrow⟩ := hv
  unfold maxLen at hc
  obtain ⟨i0, hi, hz0, hz1, hz2⟩ := info_parts info_str
  have ag := Tryz.isAgg56
  have zg := Tryz.sizeOf56
  have HR := Lib.hid hrow
  have HN := Lib.hid hN
  clear hrow hN hT
  by_cases hE : checkE l = 0
  · have hval := Lib.hid (all_valid hE)
    have HE := Lib.hid hE
    rw [hE] at cC
    clear hE
    go_enter Tryz.func29, Tryz.ntmps29
    go_wp2_with (go_at_call 51; (with_reducible refine cC.mono ?_); rintro e w1 ⟨rfl, hb1⟩; have HB1 := Lib.hid hb1; clear hb1)
    go_loopw [5, 15] (fun o i wr => ∃ k : Nat, k ≤ l.length ∧ i = .int .i64 k ∧ Hid (OwnS w.heap.size o (tagsK l k) wr) ∧ Hid (Below w.heap.size w wr)) (fun _ i _ => l.length - (RowKit.intOf i).toNat)
    case atStart => exact ⟨0, Nat.zero_le _, rfl, World.ownsRow_nil _ _ _ _, HB1.out⟩
    case round =>
      obtain ⟨k, hk, rfl, HK, HB⟩ := hrel
      by_cases hlt : k < l.length
      · obtain ⟨A, rfl, hA, hcell⟩ := HR.out (by omega)
        obtain ⟨x0, x1, x2⟩ := pcs_cells hA hcell hlt HB.out
        have hS := tagsK_succ hlt
        have hL := tagsK_len l k
        have hsz := bulk_getD hlt
        have hvx := hval.out k hlt
        have hlb : l.length ≤ bulk l := by unfold bulk; omega
        clear hcell
        generalize l.getD k nil = x at x0 x1 x2 hS hsz hvx
        generalize tagsK l k = o1 at HK hS hL
        have HBX := Lib.hid (below_next HB.out (below_box (w := wr) (pcC x)))
        have HKX := Lib.hid (HK.out.step (below_box (w := wr) (pcC x)))
        have HX := Lib.hid (Boxed.new wr x)
        have cT1 := isTag_any x (wr.alloc (pcC x))
        have cM := fun w2 (h : Below w.heap.size w w2) (hk1 : x.k ≠ 1) => writeMark_any x w2 (by omega) (HN.out.step h) hvx hk1
        unfold pcC at cT1 HBX HKX HX
        unfold pcV at cT1 cM
        obtain ⟨ao, ca, rfl⟩ := HK.out.form
        cases hx : isTagB x
        · rw [hx] at cT1 hS
          have HS := Lib.hid hS
          clear hS
          go_wp2_with (go_at_call 61; (with_reducible refine cT1.mono ?_); rintro e w2 ⟨rfl, hb2⟩; have HB2 := Lib.hid (below_next HBX.out hb2); have HK2 := Lib.hid (HKX.out.step hb2); clear hb2)
          go_roundw
          case rel => exact ⟨k + 1, by omega, by go_num, (by show OwnS _ _ _ _; rw [HS.out]; simpa using HK2.out), HB2.out⟩
          case measure => simp [RowKit.intOf]; omega
        · have hk1 : x.k ≠ 1 := by intro h; unfold isTagB at hx; rw [h] at hx; simp at hx
          rw [hx] at cT1 hS
          have HS := Lib.hid hS
          have HK1 := Lib.hid hk1
          clear hS hk1
          go_wp2_with (first
            | (go_at_call 61; (with_reducible refine cT1.mono ?_); rintro e w2 ⟨rfl, hb2⟩; have HB2 := Lib.hid (below_next HBX.out hb2); have HK2 := Lib.hid (HKX.out.step hb2); obtain ⟨b0, b1, b2, _⟩ := HX.out.step hb2; have cM2 := cM w2 HB2.out HK1.out; clear hb2)
            | (go_at_call 62; (with_reducible refine cM2.mono ?_); rintro e w3 ⟨rfl, hb3⟩; have HB3 := Lib.hid (below_next HB2.out hb3); have HK3 := Lib.hid (HK2.out.step hb3); clear hb3; have hown := HK3.out; unfold OwnS at hown; have hsz3 := HB3.out.size)
            | (at_builtin; refine wpList_append_own _ rfl _ _ 36 rfl w.heap.size 9 i0 (.string ⟨#[]⟩) 1 16 Tryz.underlying36 hi hz0 hz1 hz2 rfl (by decide) _ _ _ rfl (hown.alloc _) ⟨w3.heap.size, 0, none⟩ 1 1 [.string (bytes (wB x))] rfl rfl (cell_new1 _ _ _) (fun x hx => by simp at hx; subst hx; rfl) (by unfold maxLen; omega) (by omega) (by simp; omega) ?_; intro v4 w4 hown4 hgrow4 hnil4
               have HB4 := Lib.hid ((HB3.out.alloc HB3.out.size (.cells #[.string (bytes (wB x))] 9)).grown hgrow4 (by simp; omega) (fun k hk => (hown.lt k hk).1))
               have HK4 := Lib.hid (show OwnS w.heap.size v4 (o1 ++ [bytes (wB x)]) w4 by unfold OwnS; rw [List.length_append, List.map_append]; exact hown4)
               clear hown hown4 hgrow4 hnil4))
          go_roundw
          case rel => exact ⟨k + 1, by omega, by go_num, (by show OwnS _ _ _ _; rw [HS.out]; exact HK4.out), HB4.out⟩
          case measure => simp [RowKit.intOf]; omega
      · have hkl : k = l.length := by omega
        have HK2 := Lib.hid (show OwnS w.heap.size _ (tagsL l) wr by rw [← tagsK_all, ← hkl]; exact HK.out)
        clear HK hkl
        go_wp2
        go_ret2
        exact ⟨⟨_, by rw [HE.out]; rfl, by rw [if_pos HE.out]; exact HK2.out⟩, HB.out⟩
  · have HE := Lib.hid hE
    obtain ⟨Z, hZ⟩ : ∃ Z, checkE l = Z := ⟨_, rfl⟩
    rw [hZ] at cC hE
    have HZ := Lib.hid hZ
    clear hZ
    have hz : (Z == 0) = false := by simpa using hE
    clear hE
    go_enter Tryz.func29, Tryz.ntmps29
    go_wp2_with (go_at_call 51; (with_reducible refine cC.mono ?_); rintro e w1 ⟨rfl, hb1⟩; have HB1 := Lib.hid hb1; clear hb1)
    go_ret2
    exact ⟨⟨.slice none 0 0, by rw [HZ.out]; rfl, by rw [if_neg HE.out]; exact World.ownsRow_nil _ _ _ _⟩, HB1.out⟩
end Go.Proofs.YtnbeomclmggbiaaGreatDoor
namespace Go.Proofs.YtnbeomclmggbiaaGreatDoor
open Go Go.RowKit Go.Lib
set_option maxRecDepth 100000
set_option maxHeartbeats 4000000 in
theorem refIsTag_any (s : ByteArray) (w : World) (hs : s.size ≤ 140737488355328) :
    Calls Tryz.prog 57 #[.string s] w fun e w' => e = .returned (.bool (tagW s)) ∧ Below w.heap.size w w' := by
  have ag := Tryz.isAgg56
  have zg := Tryz.sizeOf56
  have cM := marked_any s w hs
  have cT := fun k w2 => refTag_any k w2
  go_enter Tryz.func57, Tryz.ntmps57
  go_wp2_with (first
  | (go_at_call 101; (with_reducible refine cM.mono ?_); rintro e w2 ⟨he2, hb2⟩; obtain ⟨x, ok, rfl, ht⟩ := he2.tell; have HT := Lib.hid ht; have HB2 := Lib.hid hb2; have cT2 := cT x.k; clear ht hb2 he2; unfold isTagB at HT; generalize (decide (x.k = 2) || decide (x.k = 3) || decide (x.k = 4)) = tb at HT cT2; cases ok)
  | (go_at_call 63; (with_reducible refine (cT2 _).mono ?_); rintro e w3 ⟨rfl, hw3⟩; obtain rfl := hw3.symm))
  · go_ret
    exact ⟨ret_bool (by rw [HT.out]; rfl), HB2.out.trans ((below_box _).mono HB2.out.size)⟩
  · go_ret
    exact ⟨ret_bool (by rw [HT.out]; cases tb <;> rfl), HB2.out.trans ((below_box _).mono HB2.out.size)⟩
set_option maxHeartbeats 4000000 in
theorem refBareW_any (ws : List ByteArray) (v : Value) (w : World) (hv : StrsAt w v ws) (hsz : ∀ s ∈ ws, s.size ≤ 140737488355328) (hn : ws.length ≤ 100000) :
    Calls Tryz.prog 25 #[v] w fun e w' => (∃ u, e = .returned u ∧ OwnS w.heap.size u (bareL ws) w') ∧ Below w.heap.size w w' := by
  obtain ⟨p, cap, rfl, hl, hc, hrow⟩ := hv
  unfold maxLen at hc
  obtain ⟨i0, hi, hz0, hz1, hz2⟩ := info_parts info_str
  have HR := Lib.hid hrow
  have HSZ := Lib.hid hsz
  clear hrow hsz
  go_enter Tryz.func25, Tryz.ntmps25
  go_wp2
  go_loopw [3, 4] (fun o i wr => ∃ k : Nat, k ≤ ws.length ∧ i = .int .i64 k ∧ Hid (OwnS w.heap.size o (bareK ws k) wr) ∧ Hid (Below w.heap.size w wr)) (fun _ i _ => ws.length - (RowKit.intOf i).toNat)
  case atStart => exact ⟨0, Nat.zero_le _, rfl, World.ownsRow_nil _ _ _ _, Below.refl _ _⟩
  case round =>
    obtain ⟨k, hk, rfl, HK, HB⟩ := hrel
    by_cases hlt : k < ws.length
    · obtain ⟨A, rfl, hA, hcell⟩ := HR.out (by omega)
      have XC := Lib.hid (fun wr (h : Below w.heap.size w wr) => strs_cell hA hcell hlt h)
      have x0 := XC.out wr HB.out
      have hS := bareK_succ hlt
      have hsb := HSZ.out _ (getS_mem hlt)
      have hL := bareK_len ws k
      have hL1 := bareK_len ws (k + 1)
      clear hcell
      generalize ws.getD k ByteArray.empty = x at XC x0 hS hsb
      generalize bareK ws k = o1 at HK hS hL
      have cT1 := refIsTag_any x wr hsb
      obtain ⟨ao, ca, rfl⟩ := HK.out.form
      cases hx : tagW x
      · rw [hx] at cT1 hS
        have HS := Lib.hid hS
        clear hS
        go_wp2_with (first
          | (go_at_call 57; (with_reducible refine cT1.mono ?_); rintro e w2 ⟨rfl, hb2⟩; have HB2 := Lib.hid (below_next HB.out hb2); have x1 := XC.out w2 HB2.out; have HK2 := Lib.hid (HK.out.step hb2); clear hb2; have hown := HK2.out; unfold OwnS at hown; have hsz2 := HB2.out.size)
          | (at_builtin; refine wpList_append_own _ rfl _ _ 36 rfl w.heap.size 9 i0 (.string ⟨#[]⟩) 1 16 Tryz.underlying36 hi hz0 hz1 hz2 rfl (by decide) _ _ _ rfl (hown.alloc _) ⟨w2.heap.size, 0, none⟩ 1 1 [.string x] rfl rfl (cell_new1 _ _ _) (fun x hx => by simp at hx; subst hx; rfl) (by unfold maxLen; omega) (by omega) (by simp; omega) ?_; intro v3 w3 hown3 hgrow3 hnil3
             have HB3 := Lib.hid ((HB2.out.alloc HB2.out.size (.cells #[.string x] 9)).grown hgrow3 (by simp; omega) (fun k hk => (hown.lt k hk).1))
             have HK3 := Lib.hid (show OwnS w.heap.size v3 (o1 ++ [x]) w3 by unfold OwnS; rw [List.length_append, List.map_append]; exact hown3)
             clear hown hown3 hgrow3 hnil3))
        go_roundw
        case rel => exact ⟨k + 1, by omega, by go_num, (by show OwnS _ _ _ _; rw [HS.out]; exact HK3.out), HB3.out⟩
        case measure => simp [RowKit.intOf]; omega
      · rw [hx] at cT1 hS
        have HS := Lib.hid hS
        clear hS
        go_wp2_with (go_at_call 57; (with_reducible refine cT1.mono ?_); rintro e w2 ⟨rfl, hb2⟩; have HB2 := Lib.hid (below_next HB.out hb2); have HK2 := Lib.hid (HK.out.step hb2); clear hb2)
        go_roundw
        case rel => exact ⟨k + 1, by omega, by go_num, (by show OwnS _ _ _ _; rw [HS.out]; simpa using HK2.out), HB2.out⟩
        case measure => simp [RowKit.intOf]; omega
    · have hkl : k = ws.length := by omega
      have HK2 := Lib.hid (show OwnS w.heap.size _ (bareL ws) wr by rw [← bareK_all, ← hkl]; exact HK.out)
      clear HK hkl
      go_wp2
      go_ret
      exact ⟨⟨_, rfl, HK2.out⟩, HB.out⟩
set_option maxHeartbeats 8000000 in
theorem refTags_any (l : List Pc) (v : Value) (w : World) (hv : PcsAt w v l) (hb : bulk l ≤ 100000) :
    Calls Tryz.prog 30 #[v] w fun e w' => TagsEnd w.heap.size l e w' ∧ Below w.heap.size w w' := by
  have cC := refCheck_any l v w hv hb
  obtain ⟨p, cap, rfl, hl, hc, hrow⟩ := hv
  unfold maxLen at hc
  obtain ⟨i0, hi, hz0, hz1, hz2⟩ := info_parts info_str
  have ag := Tryz.isAgg56
  have zg := Tryz.sizeOf56
  have HR := Lib.hid hrow
  clear hrow
  by_cases hE : checkE l = 0
  · have hval := Lib.hid (all_valid hE)
    have HE := Lib.hid hE
    rw [hE] at cC
    clear hE
    go_enter Tryz.func30, Tryz.ntmps30
    go_wp2_with (go_at_call 31; (with_reducible refine cC.mono ?_); rintro e w1 ⟨rfl, hb1⟩; have HB1 := Lib.hid hb1; clear hb1)
    go_loopw [5, 6] (fun o i wr => ∃ k : Nat, k ≤ l.length ∧ i = .int .i64 k ∧ Hid (OwnS w.heap.size o (tagsK l k) wr) ∧ Hid (Below w.heap.size w wr)) (fun _ i _ => l.length - (RowKit.intOf i).toNat)
    case atStart => exact ⟨0, Nat.zero_le _, rfl, World.ownsRow_nil _ _ _ _, HB1.out⟩
    case round =>
      obtain ⟨k, hk, rfl, HK, HB⟩ := hrel
      by_cases hlt : k < l.length
      · obtain ⟨A, rfl, hA, hcell⟩ := HR.out (by omega)
        obtain ⟨x0, x1, x2⟩ := pcs_cells hA hcell hlt HB.out
        have hS := tagsK_succ hlt
        have hL := tagsK_len l k
        have hsz := bulk_getD hlt
        have hvx := hval.out k hlt
        have hlb : l.length ≤ bulk l := by unfold bulk; omega
        clear hcell
        generalize l.getD k nil = x at x0 x1 x2 hS hsz hvx
        generalize tagsK l k = o1 at HK hS hL
        have cT1 := refTag_any x.k wr
        have cM := written_any x wr (by omega) hvx
        unfold pcV at cM
        obtain ⟨ao, ca, rfl⟩ := HK.out.form
        have hU : (decide (x.k = 2) || decide (x.k = 3) || decide (x.k = 4)) = isTagB x := rfl
        rw [hU] at cT1
        clear hU
        cases hx : isTagB x
        · rw [hx] at cT1 hS
          have HS := Lib.hid hS
          clear hS
          go_wp2_with (go_at_call 63; (with_reducible refine cT1.mono ?_); rintro e w2 ⟨rfl, hw2⟩; obtain rfl := hw2.symm)
          go_roundw
          case rel => exact ⟨k + 1, by omega, by go_num, (by show OwnS _ _ _ _; rw [HS.out]; simpa using HK.out), HB.out⟩
          case measure => simp [RowKit.intOf]; omega
        · rw [hx] at cT1 hS
          have HS := Lib.hid hS
          clear hS
          go_wp2_with (first
            | (go_at_call 63; (with_reducible refine cT1.mono ?_); rintro e w2 ⟨rfl, hw2⟩; obtain rfl := hw2.symm)
            | (go_at_call 64; (with_reducible refine cM.mono ?_); rintro e w3 ⟨rfl, hb3⟩; have HB3 := Lib.hid (below_next HB.out hb3); have HK3 := Lib.hid (HK.out.step hb3); clear hb3; have hown := HK3.out; unfold OwnS at hown; have hsz3 := HB3.out.size)
            | (at_builtin; refine wpList_append_own _ rfl _ _ 36 rfl w.heap.size 9 i0 (.string ⟨#[]⟩) 1 16 Tryz.underlying36 hi hz0 hz1 hz2 rfl (by decide) _ _ _ rfl (hown.alloc _) ⟨w3.heap.size, 0, none⟩ 1 1 [.string (bytes (wB x))] rfl rfl (cell_new1 _ _ _) (fun x hx => by simp at hx; subst hx; rfl) (by unfold maxLen; omega) (by omega) (by simp; omega) ?_; intro v4 w4 hown4 hgrow4 hnil4
               have HB4 := Lib.hid ((HB3.out.alloc HB3.out.size (.cells #[.string (bytes (wB x))] 9)).grown hgrow4 (by simp; omega) (fun k hk => (hown.lt k hk).1))
               have HK4 := Lib.hid (show OwnS w.heap.size v4 (o1 ++ [bytes (wB x)]) w4 by unfold OwnS; rw [List.length_append, List.map_append]; exact hown4)
               clear hown hown4 hgrow4 hnil4))
          go_roundw
          case rel => exact ⟨k + 1, by omega, by go_num, (by show OwnS _ _ _ _; rw [HS.out]; exact HK4.out), HB4.out⟩
          case measure => simp [RowKit.intOf]; omega
      · have hkl : k = l.length := by omega
        have HK2 := Lib.hid (show OwnS w.heap.size _ (tagsL l) wr by rw [← tagsK_all, ← hkl]; exact HK.out)
        clear HK hkl
        go_wp2
        go_ret2
        exact ⟨⟨_, by rw [HE.out]; rfl, by rw [if_pos HE.out]; exact HK2.out⟩, HB.out⟩
  · have HE := Lib.hid hE
    obtain ⟨Z, hZ⟩ : ∃ Z, checkE l = Z := ⟨_, rfl⟩
    rw [hZ] at cC hE
    have HZ := Lib.hid hZ
    clear hZ
    have hz : (Z == 0) = false := by simpa using hE
    clear hE
    go_enter Tryz.func30, Tryz.ntmps30
    go_wp2_with (go_at_call 31; (with_reducible refine cC.mono ?_); rintro e w1 ⟨rfl, hb1⟩; have HB1 := Lib.hid hb1; clear hb1)
    go_ret2
    exact ⟨⟨.slice none 0 0, by rw [HZ.out]; rfl, by rw [if_neg HE.out]; exact World.ownsRow_nil _ _ _ _⟩, HB1.out⟩
end Go.Proofs.YtnbeomclmggbiaaGreatDoor
namespace Go.Proofs.YtnbeomclmggbiaaGreatDoor
open Go Go.RowKit Go.Lib
set_option maxRecDepth 100000
def letN (r : Nat) : Bool := (decide (65 ≤ r) && decide (r ≤ 90)) || (decide (97 ≤ r) && decide (r ≤ 122)) || decide (127 < r)
def digN (r : Nat) : Bool := decide (48 ≤ r) && decide (r ≤ 57)
def inN (r : Nat) : Bool := letN r || digN r
def markN (r : Nat) : Bool := decide (r ≠ 32) && !letN r && !digN r
/-- a unit in its box -/
def uC (r : Nat) : Obj := .cells #[.int .i32 (r : Int), .bool false] 150
theorem uBox2 {w w2 : World} {r : Nat} (h : Below (w.alloc (uC r)).heap.size (w.alloc (uC r)) w2) : w2.cell? ⟨w.heap.size, 0, none⟩ = some (.int .i32 (r : Int)) ∧ w2.cell? ⟨w.heap.size, 1, none⟩ = some (.bool false) := by
  have hl : w.heap.size < (w.alloc (uC r)).heap.size := by simp
  have e := heap_alloc_new w (uC r)
  unfold uC at e
  rw [h.cell (p := ⟨w.heap.size, 0, none⟩) hl, h.cell (p := ⟨w.heap.size, 1, none⟩) hl]
  exact ⟨(Lib.cell_of_heap e 0).trans rfl, (Lib.cell_of_heap e 1).trans rfl⟩
theorem uBox (w : World) (r : Nat) : (w.alloc (uC r)).cell? ⟨w.heap.size, 0, none⟩ = some (.int .i32 (r : Int)) ∧ (w.alloc (uC r)).cell? ⟨w.heap.size, 1, none⟩ = some (.bool false) := uBox2 (Below.refl _ _)
set_option maxHeartbeats 4000000 in
theorem refLetter_any (r : Nat) (w : World) : Calls Tryz.prog 144 #[.agg #[.int .i32 (r : Int), .bool false]] w fun e w' => e = .returned (.bool (letN r)) ∧ Below w.heap.size w w' := by
  have ag := Tryz.isAgg150
  have zg := Tryz.sizeOf150
  by_cases h1 : (65 : Int) ≤ (r : Int) <;> by_cases h2 : (r : Int) ≤ 90 <;> by_cases h3 : (97 : Int) ≤ (r : Int) <;> by_cases h4 : (r : Int) ≤ 122 <;> by_cases h5 : (127 : Int) < (r : Int)
  all_goals first
  | (exfalso; omega)
  | (go_enter Tryz.func144, Tryz.ntmps144
     go_wp2
     go_ret
     exact ⟨ret_bool (by unfold letN; simp; omega), below_box _⟩)
set_option maxHeartbeats 4000000 in
theorem refDigit_any (r : Nat) (w : World) : Calls Tryz.prog 145 #[.agg #[.int .i32 (r : Int), .bool false]] w fun e w' => e = .returned (.bool (digN r)) ∧ Below w.heap.size w w' := by
  have ag := Tryz.isAgg150
  have zg := Tryz.sizeOf150
  by_cases h1 : (48 : Int) ≤ (r : Int) <;> by_cases h2 : (r : Int) ≤ 57
  all_goals first
  | (exfalso; omega)
  | (go_enter Tryz.func145, Tryz.ntmps145
     go_wp2
     go_ret
     exact ⟨ret_bool (by unfold digN; simp; omega), below_box _⟩)
set_option maxHeartbeats 4000000 in
theorem refInWord_any (r : Nat) (w : World) : Calls Tryz.prog 99 #[.agg #[.int .i32 (r : Int), .bool false]] w fun e w' => e = .returned (.bool (inN r)) ∧ Below w.heap.size w w' := by
  have ag := Tryz.isAgg150
  have zg := Tryz.sizeOf150
  have cL := fun w2 => refLetter_any r w2
  have cD := fun w2 => refDigit_any r w2
  have HI := Lib.hid (show inN r = (letN r || digN r) from rfl)
  obtain ⟨b0, b1⟩ := uBox w r
  have HB0 := Lib.hid (below_box (w := w) (uC r))
  have HU := Lib.hid (fun w2 (h : Below (w.alloc (uC r)).heap.size (w.alloc (uC r)) w2) => uBox2 h)
  unfold uC at b0 b1 HB0 HU
  generalize letN r = x at cL HI
  generalize digN r = y at cD HI
  cases x <;> cases y
  all_goals
    go_enter Tryz.func99, Tryz.ntmps99
    go_wp2_with (first
      | (go_at_call 144; (with_reducible refine (cL _).mono ?_); rintro e w2 ⟨rfl, hb2⟩; have HB2 := Lib.hid (below_next HB0.out hb2); obtain ⟨y0, y1⟩ := HU.out w2 hb2; clear hb2)
      | (go_at_call 145; (with_reducible refine (cD _).mono ?_); rintro e w3 ⟨rfl, hb3⟩; have HB3 := Lib.hid (below_next HB2.out hb3); clear hb3))
    go_ret
    first
    | exact ⟨ret_bool (by rw [HI.out]; rfl), HB3.out⟩
    | exact ⟨ret_bool (by rw [HI.out]; rfl), HB2.out⟩
set_option maxHeartbeats 4000000 in
theorem refMark_any (r : Nat) (w : World) : Calls Tryz.prog 146 #[.agg #[.int .i32 (r : Int), .bool false]] w fun e w' => e = .returned (.bool (markN r)) ∧ Below w.heap.size w w' := by
  have ag := Tryz.isAgg150
  have zg := Tryz.sizeOf150
  have cL := fun w2 => refLetter_any r w2
  have cD := fun w2 => refDigit_any r w2
  have HI := Lib.hid (show markN r = (decide (r ≠ 32) && !letN r && !digN r) from rfl)
  obtain ⟨b0, b1⟩ := uBox w r
  have HB0 := Lib.hid (below_box (w := w) (uC r))
  have HU := Lib.hid (fun w2 (h : Below (w.alloc (uC r)).heap.size (w.alloc (uC r)) w2) => uBox2 h)
  unfold uC at b0 b1 HB0 HU
  generalize letN r = x at cL HI
  generalize digN r = y at cD HI
  by_cases h32 : r = 32
  · subst h32
    go_enter Tryz.func146, Tryz.ntmps146
    go_wp2
    go_ret
    exact ⟨ret_bool (by rw [HI.out]; rfl), HB0.out⟩
  · have hne : (r : Int) ≠ 32 := by omega
    have h32b : ((r : Int) == 32) = false := by simpa using hne
    have h32c : ((r : Int) != 32) = true := by simpa using hne
    have HN := Lib.hid (show decide (r ≠ 32) = true by simpa using h32)
    clear h32
    cases x <;> cases y
    all_goals
      go_enter Tryz.func146, Tryz.ntmps146
      go_wp2_with (first
        | (go_at_call 144; (with_reducible refine (cL _).mono ?_); rintro e w2 ⟨rfl, hb2⟩; have HB2 := Lib.hid (below_next HB0.out hb2); obtain ⟨y0, y1⟩ := HU.out w2 hb2; clear hb2)
        | (go_at_call 145; (with_reducible refine (cD _).mono ?_); rintro e w3 ⟨rfl, hb3⟩; have HB3 := Lib.hid (below_next HB2.out hb3); clear hb3))
      go_ret
      first
      | exact ⟨ret_bool (by rw [HI.out, HN.out]; rfl), HB3.out⟩
      | exact ⟨ret_bool (by rw [HI.out, HN.out]; rfl), HB2.out⟩
end Go.Proofs.YtnbeomclmggbiaaGreatDoor
namespace Go.Proofs.YtnbeomclmggbiaaGreatDoor
open Go Go.RowKit Go.Lib
set_option maxRecDepth 100000
/-- a row of letters and digits, or a mark -/
def rowB (s : ByteArray) : Bool := textB s && (decide (0 < (runesOf s).length) && ((decide ((runesOf s).length = 1) && markN ((runesOf s).getD 0 0)) || (runesOf s).all inN))
theorem rowB_text {s : ByteArray} (h : textB s = false) : rowB s = false := by unfold rowB; rw [h]; rfl
theorem rowB_nil {s : ByteArray} (h : (runesOf s).length = 0) : rowB s = false := by unfold rowB; simp [h]
theorem rowB_mark {s : ByteArray} (h : textB s = true) (h1 : (runesOf s).length = 1) (hm : markN ((runesOf s).getD 0 0) = true) : rowB s = true := by unfold rowB; simp only [h, h1, hm]; rfl
theorem rowB_rest {s : ByteArray} (h : textB s = true) (h0 : 0 < (runesOf s).length) (hm : (runesOf s).length = 1 → markN ((runesOf s).getD 0 0) = false) : rowB s = (runesOf s).all inN := by
  unfold rowB
  by_cases h1 : (runesOf s).length = 1
  · simp only [h, h1, hm h1]; simp
  · simp only [h, h1]; simp [h0]
def allIn (s : ByteArray) (k : Nat) : Prop := ∀ i r, (runesOf s)[i]? = some r → i < k → inN r = true
theorem allIn.succ {s : ByteArray} {k r : Nat} (h : allIn s k) (hk : (runesOf s)[k]? = some r) (hc : inN r = true) : allIn s (k + 1) := by
  intro i q hi hik
  by_cases e : i = k
  · subst e; rw [hk] at hi; cases hi; exact hc
  · exact h i q hi (by omega)
theorem allIn.all {s : ByteArray} {k : Nat} (h : allIn s k) (hk : (runesOf s).length ≤ k) : (runesOf s).all inN = true := by
  rw [List.all_eq_true]
  intro r hr
  obtain ⟨i, hi, rfl⟩ := List.getElem_of_mem hr
  exact h i _ (List.getElem?_eq_getElem hi) (by omega)
theorem all_not {s : ByteArray} {k r : Nat} (hk : (runesOf s)[k]? = some r) (hc : inN r = false) : (runesOf s).all inN = false := by
  rw [List.all_eq_false]
  exact ⟨r, List.mem_of_getElem? hk, by rw [hc]; simp⟩
set_option maxHeartbeats 8000000 in
theorem refRow_any (s : ByteArray) (w : World) (hs : s.size ≤ 100000) :
    Calls Tryz.prog 102 #[.string s] w fun e w' => e = .returned (.bool (rowB s)) ∧ Below w.heap.size w w' := by
  obtain ⟨cap, W1, h1, hb, hcell, hcap, _⟩ := toRunes s w hs
  have hlen : (runesOf s).length ≤ s.size := runesG_length _ _
  have HC := Lib.hid hcell
  have HBW := Lib.hid hb
  have cT := refText_any s W1 hs
  clear hcell hb
  by_cases ht : textB s = true
  · rw [ht] at cT
    have HT := Lib.hid ht
    clear ht
    by_cases h0 : (runesOf s).length = 0
    · have HX := Lib.hid (rowB_nil h0)
      have h0b : (((runesOf s).length : Int) == 0) = true := by simp [h0]
      go_enter Tryz.func102, Tryz.ntmps102
      go_wp2_with (go_at_call 110; (with_reducible refine cT.mono ?_); rintro e w2 ⟨rfl, hb2⟩; have HB2 := Lib.hid (below_next HBW.out hb2); clear hb2)
      go_ret
      exact ⟨ret_bool (by rw [HX.out]), HB2.out⟩
    · have h0b : (((runesOf s).length : Int) == 0) = false := by simp [h0]
      have h00 : 0 < (runesOf s).length := by omega
      have hr0 : (runesOf s)[0]? = some ((runesOf s).getD 0 0) := by rw [List.getD_eq_getElem?_getD, List.getElem?_eq_getElem h00]; rfl
      have hbl : w.heap.size < W1.heap.size := World.block_lt_of_cell? _ _ (HC.out 0 _ hr0)
      have HD : Hid (∀ (k r : Nat) (wr : World), (runesOf s)[k]? = some r → Below W1.heap.size W1 wr → wr.cell? ⟨w.heap.size, k, none⟩ = some (.int .i32 (r : Int))) := fun k r wr hk hb => (hb.cell (p := ⟨w.heap.size, k, none⟩) hbl).trans (HC.out k r hk)
      have HRR := Lib.hid (rowB_rest HT.out h00)
      have HRM := Lib.hid (rowB_mark HT.out)
      have HD0 := Lib.hid (fun wr (hb : Below W1.heap.size W1 wr) => HD.out 0 _ wr hr0 hb)
      have cMk := fun w2 => refMark_any ((runesOf s).getD 0 0) w2
      clear hr0 hbl
      generalize (runesOf s).getD 0 0 = r0 at HD0 cMk HRR HRM
      by_cases hl1 : (runesOf s).length = 1
      · have h1b : (((runesOf s).length : Int) == 1) = true := by simp [hl1]
        cases hm : markN r0
        · have HX := Lib.hid (HRR.out fun _ => hm)
          rw [hm] at cMk
          clear hl1
          go_enter Tryz.func102, Tryz.ntmps102
          go_wp2_with (first
            | (go_at_call 110; (with_reducible refine cT.mono ?_); rintro e w2 ⟨rfl, hb2⟩; have HBL := Lib.hid hb2; have c0 := HD0.out w2 hb2; clear hb2)
            | (go_at_call 146; (with_reducible refine (cMk _).mono ?_); rintro e w3 ⟨rfl, hb3⟩; replace HBL := Lib.hid (below_next HBL.out hb3); clear hb3))
          go_loopw [4] (fun i wr => ∃ k : Nat, k ≤ (runesOf s).length ∧ i = .int .i64 k ∧ Hid (allIn s k) ∧ Hid (Below W1.heap.size W1 wr)) (fun i _ => (runesOf s).length - (RowKit.intOf i).toNat)
          case atStart => exact ⟨0, Nat.zero_le _, rfl, (fun _ _ _ h => absurd h (Nat.not_lt_zero _)), HBL.out⟩
          case round =>
            obtain ⟨k, hk, rfl, HA, HB⟩ := hrel
            by_cases hlt : k < (runesOf s).length
            · have hr : (runesOf s)[k]? = some (runesOf s)[k] := List.getElem?_eq_getElem hlt
              have ck := HD.out k _ wr hr HB.out
              generalize (runesOf s)[k] = r at hr ck
              have HK := Lib.hid hr
              clear hr
              have cI := refInWord_any r wr
              cases hi : inN r
              · have HY := Lib.hid (all_not HK.out hi)
                rw [hi] at cI
                go_wp2_with (go_at_call 99; (with_reducible refine cI.mono ?_); rintro e w5 ⟨rfl, hb5⟩; have HB5 := Lib.hid (below_next HB.out hb5); clear hb5)
                go_ret
                exact ⟨ret_bool (by rw [HX.out, HY.out]), HBW.out.trans (HB5.out.mono HBW.out.size)⟩
              · have HY := Lib.hid (HA.out.succ HK.out hi)
                rw [hi] at cI
                go_wp2_with (go_at_call 99; (with_reducible refine cI.mono ?_); rintro e w5 ⟨rfl, hb5⟩; have HB5 := Lib.hid (below_next HB.out hb5); clear hb5)
                go_roundw
                case rel => exact ⟨k + 1, by omega, by go_num, HY.out, HB5.out⟩
                case measure => simp [RowKit.intOf]; omega
            · have HY := Lib.hid (HA.out.all (by omega))
              go_wp2
              go_ret
              exact ⟨ret_bool (by rw [HX.out, HY.out]), HBW.out.trans (HB.out.mono HBW.out.size)⟩
        · have HX := Lib.hid (HRM.out hl1 hm)
          rw [hm] at cMk
          clear hl1
          go_enter Tryz.func102, Tryz.ntmps102
          go_wp2_with (first
            | (go_at_call 110; (with_reducible refine cT.mono ?_); rintro e w2 ⟨rfl, hb2⟩; have HBL := Lib.hid hb2; have c0 := HD0.out w2 hb2; clear hb2)
            | (go_at_call 146; (with_reducible refine (cMk _).mono ?_); rintro e w3 ⟨rfl, hb3⟩; replace HBL := Lib.hid (below_next HBL.out hb3); clear hb3))
          go_ret
          exact ⟨ret_bool (by rw [HX.out]), HBW.out.trans (HBL.out.mono HBW.out.size)⟩
      · have h1b : (((runesOf s).length : Int) == 1) = false := by simp; omega
        have HX := Lib.hid (HRR.out fun h => absurd h hl1)
        clear hl1
        go_enter Tryz.func102, Tryz.ntmps102
        go_wp2_with (go_at_call 110; (with_reducible refine cT.mono ?_); rintro e w2 ⟨rfl, hb2⟩; have HBL := Lib.hid hb2; clear hb2)
        go_loopw [4] (fun i wr => ∃ k : Nat, k ≤ (runesOf s).length ∧ i = .int .i64 k ∧ Hid (allIn s k) ∧ Hid (Below W1.heap.size W1 wr)) (fun i _ => (runesOf s).length - (RowKit.intOf i).toNat)
        case atStart => exact ⟨0, Nat.zero_le _, rfl, (fun _ _ _ h => absurd h (Nat.not_lt_zero _)), HBL.out⟩
        case round =>
          obtain ⟨k, hk, rfl, HA, HB⟩ := hrel
          by_cases hlt : k < (runesOf s).length
          · have hr : (runesOf s)[k]? = some (runesOf s)[k] := List.getElem?_eq_getElem hlt
            have ck := HD.out k _ wr hr HB.out
            generalize (runesOf s)[k] = r at hr ck
            have HK := Lib.hid hr
            clear hr
            have cI := refInWord_any r wr
            cases hi : inN r
            · have HY := Lib.hid (all_not HK.out hi)
              rw [hi] at cI
              go_wp2_with (go_at_call 99; (with_reducible refine cI.mono ?_); rintro e w5 ⟨rfl, hb5⟩; have HB5 := Lib.hid (below_next HB.out hb5); clear hb5)
              go_ret
              exact ⟨ret_bool (by rw [HX.out, HY.out]), HBW.out.trans (HB5.out.mono HBW.out.size)⟩
            · have HY := Lib.hid (HA.out.succ HK.out hi)
              rw [hi] at cI
              go_wp2_with (go_at_call 99; (with_reducible refine cI.mono ?_); rintro e w5 ⟨rfl, hb5⟩; have HB5 := Lib.hid (below_next HB.out hb5); clear hb5)
              go_roundw
              case rel => exact ⟨k + 1, by omega, by go_num, HY.out, HB5.out⟩
              case measure => simp [RowKit.intOf]; omega
          · have HY := Lib.hid (HA.out.all (by omega))
            go_wp2
            go_ret
            exact ⟨ret_bool (by rw [HX.out, HY.out]), HBW.out.trans (HB.out.mono HBW.out.size)⟩
  · have hf : textB s = false := by simpa using ht
    rw [hf] at cT
    have HX := Lib.hid (rowB_text hf)
    clear ht hf
    go_enter Tryz.func102, Tryz.ntmps102
    go_wp2_with (go_at_call 110; (with_reducible refine cT.mono ?_); rintro e w2 ⟨rfl, hb2⟩; have HB2 := Lib.hid (below_next HBW.out hb2); clear hb2)
    go_ret
    exact ⟨ret_bool (by rw [HX.out]), HB2.out⟩
end Go.Proofs.YtnbeomclmggbiaaGreatDoor
namespace Go.Proofs.YtnbeomclmggbiaaGreatDoor
open Go Go.RowKit Go.Lib
set_option maxRecDepth 100000
/-- a word as a piece, and whether it is one -/
noncomputable def pieceW (s : ByteArray) : Pc × Bool := match markOf s.data.toList with
  | some x => (x, true)
  | none => (⟨1, s, false⟩, rowB s)
theorem pieceW_some {s : ByteArray} {x : Pc} (h : Mk x s.data.toList) : pieceW s = (x, true) := by unfold pieceW; rw [markOf_of h]
theorem pieceW_none {s : ByteArray} (h : ∀ y, ¬ Mk y s.data.toList) : pieceW s = (⟨1, s, false⟩, rowB s) := by unfold pieceW; rw [markOf_not h]
theorem MarkEnd.pieceW {s : ByteArray} {e : Ending} (h : MarkEnd s e) : ∃ x ok, e = .returned (.tuple #[.agg #[.int .u8 x.k, .string x.s, .bool x.c], .bool ok]) ∧ Go.Proofs.YtnbeomclmggbiaaGreatDoor.pieceW s = if ok then (x, true) else (⟨1, s, false⟩, rowB s) := by
  obtain ⟨x, ok, rfl, h1, h2⟩ := h
  refine ⟨x, ok, rfl, ?_⟩
  cases ok
  · rw [pieceW_none (h2 rfl)]; rfl
  · rw [pieceW_some (h1 rfl)]; rfl
theorem zbox {w : World} {n : Nat} (h : w.heap[n]? = some (.cells #[.int .u8 0, .string ⟨#[]⟩, .bool false] 56 (0, 0))) :
    w.cell? ⟨n, 0, none⟩ = some (.int .u8 0) ∧ w.cell? ⟨n, 1, none⟩ = some (.string ⟨#[]⟩) ∧ w.cell? ⟨n, 2, none⟩ = some (.bool false) ∧ w.frozen? ⟨n, 0, none⟩ = false ∧ w.frozen? ⟨n, 1, none⟩ = false ∧ w.frozen? ⟨n, 2, none⟩ = false ∧ n < w.heap.size :=
  ⟨by rw [Lib.cell_of_heap h]; rfl, by rw [Lib.cell_of_heap h]; rfl, by rw [Lib.cell_of_heap h]; rfl, Lib.frozen_of_heap h 0, Lib.frozen_of_heap h 1, Lib.frozen_of_heap h 2, lt_of_block h⟩
def PieceEnd (s : ByteArray) (e : Ending) : Prop := e = .returned (.tuple #[pcV (pieceW s).1, .bool (pieceW s).2])
set_option maxHeartbeats 4000000 in
theorem refPiece_any (s : ByteArray) (w : World) (hs : s.size ≤ 100000) :
    Calls Tryz.prog 55 #[.string s] w fun e w' => PieceEnd s e ∧ Below w.heap.size w w' := by
  have ag := Tryz.isAgg56
  have zg := Tryz.sizeOf56
  have cM := fun w2 => marked_any s w2 (by omega)
  have HB0 := Lib.hid (below_box (w := w) pcZ)
  have HZ := Lib.hid (show (w.alloc pcZ).heap[w.heap.size]? = some pcZ by show (w.heap.push _)[_]? = _; simp)
  unfold pcZ at HB0 HZ
  have cR := fun w2 => refRow_any s w2 hs
  go_enter Tryz.func55, Tryz.ntmps55
  go_wp2_with (first
  | (go_at_call 101; (with_reducible refine (cM _).mono ?_); rintro e w2 ⟨he2, hb2⟩; obtain ⟨x, ok, rfl, ht⟩ := he2.pieceW; have HT := Lib.hid ht; have HZ2 := Lib.hid ((hb2.block _ (lt_of_block HZ.out)).trans HZ.out); have HB2 := Lib.hid (below_next HB0.out hb2); obtain ⟨c0, c1, c2, f0, f1, f2, hlw⟩ := zbox HZ2.out; clear ht hb2 he2; cases ok)
  | (go_at_call 102; (with_reducible refine (cR _).mono ?_); rintro e w3 ⟨rfl, hb3⟩; have HZ3 := Lib.hid (((hb3.block _ (by simp; omega)).trans (Below.heap_alloc w2 _ _ hlw)).trans HZ2.out); have HB3 := Lib.hid (below_next (below_next HB2.out (below_box _)) hb3); obtain ⟨d0, d1, d2, g0, g1, g2, hlw3⟩ := zbox HZ3.out; clear hb3))
  · have h3 := set3_cells HZ3.out (.int .u8 1) (.string s) (.bool false)
    refine bodyPost_ret (results_ct (xs := [.int .u8 1, .string s, .bool false]) rfl rfl ag zg (three_cells (by rw [Lib.cell_of_heap h3]; rfl) (by rw [Lib.cell_of_heap h3]; rfl) (by rw [Lib.cell_of_heap h3]; rfl))) rfl ⟨?_, ?_⟩
    · unfold PieceEnd
      rw [HT.out]
      rfl
    · exact ((HB3.out.setCell (p := ⟨w.heap.size, 0, none⟩) (Nat.le_refl _) _).setCell (p := ⟨w.heap.size, 1, none⟩) (Nat.le_refl _) _).setCell (p := ⟨w.heap.size, 2, none⟩) (Nat.le_refl _) _
  · have h3 := set3_cells HZ2.out (.int .u8 x.k) (.string x.s) (.bool x.c)
    have h4 := (Below.heap_alloc (((w2.setCell ⟨w.heap.size, 0, none⟩ (.int .u8 x.k)).setCell ⟨w.heap.size, 1, none⟩ (.string x.s)).setCell ⟨w.heap.size, 2, none⟩ (.bool x.c)) (.cells #[.int .u8 x.k, .string x.s, .bool x.c] 56) _ (lt_of_block h3)).trans h3
    refine bodyPost_ret (results_ct (xs := [.int .u8 x.k, .string x.s, .bool x.c]) rfl rfl ag zg (three_cells (by rw [Lib.cell_of_heap h4]; rfl) (by rw [Lib.cell_of_heap h4]; rfl) (by rw [Lib.cell_of_heap h4]; rfl))) rfl ⟨?_, ?_⟩
    · unfold PieceEnd
      rw [HT.out]
      rfl
    · have hz : w.heap.size ≤ (((w2.setCell ⟨w.heap.size, 0, none⟩ (.int .u8 x.k)).setCell ⟨w.heap.size, 1, none⟩ (.string x.s)).setCell ⟨w.heap.size, 2, none⟩ (.bool x.c)).heap.size := Nat.le_of_lt (lt_of_block h3)
      exact (((HB2.out.setCell (p := ⟨w.heap.size, 0, none⟩) (Nat.le_refl _) _).setCell (p := ⟨w.heap.size, 1, none⟩) (Nat.le_refl _) _).setCell (p := ⟨w.heap.size, 2, none⟩) (Nat.le_refl _) _).alloc hz _
end Go.Proofs.YtnbeomclmggbiaaGreatDoor
