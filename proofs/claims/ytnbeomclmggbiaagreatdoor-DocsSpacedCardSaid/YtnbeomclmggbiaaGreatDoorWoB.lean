/- Words: which lists of words are valid, by the specification. Words: where a blank stands between two bare words, on both sides. Words: the first bare word behind a place, on both sides. Words: a piece behind a list, joined to a text that it ends with, as the specification does it. Words: the spaced form of words, by the specification. Words: FromWords of the specification. -/
import Derived.Test.YtnbeomclmggbiaaGreatDoorWoA
import Derived.Test.YtnbeomclmggbiaaGreatDoorRfB
import Derived.StillTailTactics
namespace Go.Proofs.YtnbeomclmggbiaaGreatDoor
open Go Go.RowKit Go.Lib
set_option maxRecDepth 100000
def holeX : Pc := ⟨5, ⟨#[120]⟩, false⟩
/-- a bare word stands as a hole -/
def holeW (x : Pc) : Pc := if x.k = 1 then holeX else x
noncomputable def holesL (ws : List ByteArray) : List Pc := ws.map fun s => holeW (pieceW s).1
/-- the first error of a list of words -/
noncomputable def wordsE (ws : List ByteArray) : Int := if 512 < ws.length then 3 else if ws.all (fun s => (pieceW s).2) then checkE (holesL ws) else 4
def OkTo (ws : List ByteArray) (k : Nat) : Prop := ∀ i, i < k → (pieceW (ws.getD i ByteArray.empty)).2 = true
theorem OkTo.all {ws : List ByteArray} (h : OkTo ws ws.length) : (ws.all fun s => (pieceW s).2) = true := by
  rw [List.all_eq_true]
  intro s hs
  obtain ⟨i, hi, rfl⟩ := List.getElem_of_mem hs
  have := h i hi
  rw [List.getD_eq_getElem?_getD, List.getElem?_eq_getElem hi] at this
  exact this
theorem OkTo.succ {ws : List ByteArray} {k : Nat} (h : OkTo ws k) (hk : (pieceW (ws.getD k ByteArray.empty)).2 = true) : OkTo ws (k + 1) := by
  intro i hi
  rcases Nat.lt_succ_iff_lt_or_eq.1 hi with h' | rfl
  · exact h i h'
  · exact hk
theorem wordsE_form {ws : List ByteArray} {k : Nat} (hl : ¬ 512 < ws.length) (hk : k < ws.length) (h : (pieceW (ws.getD k ByteArray.empty)).2 = false) : wordsE ws = 4 := by
  unfold wordsE
  rw [if_neg hl, if_neg]
  rw [Bool.not_eq_true, List.all_eq_false]
  exact ⟨_, getS_mem hk, by rw [h]; simp⟩
theorem wordsE_fine {ws : List ByteArray} (hl : ¬ 512 < ws.length) (h : OkTo ws ws.length) : wordsE ws = checkE (holesL ws) := by
  unfold wordsE
  rw [if_neg hl, if_pos h.all]
noncomputable def holesK (ws : List ByteArray) (k : Nat) : List Pc := holesL (ws.take k)
theorem holesK_all (ws : List ByteArray) : holesK ws ws.length = holesL ws := by unfold holesK; rw [List.take_length]
theorem holesK_succ {ws : List ByteArray} {k : Nat} (h : k < ws.length) : holesK ws (k + 1) = holesK ws k ++ [holeW (pieceW (ws.getD k ByteArray.empty)).1] := by
  unfold holesK holesL
  rw [takeS_succ h, List.map_append]; rfl
theorem holesK_len {ws : List ByteArray} {k : Nat} (h : k ≤ ws.length) : (holesK ws k).length = k := by
  unfold holesK holesL
  rw [List.length_map, List.length_take]; omega
theorem PieceEnd.of {s : ByteArray} {e : Ending} (h : PieceEnd s e) : e = .returned (.tuple #[.agg #[.int .u8 (pieceW s).1.k, .string (pieceW s).1.s, .bool (pieceW s).1.c], .bool (pieceW s).2]) := h
set_option maxHeartbeats 8000000 in
theorem refCheckWords_any (ws : List ByteArray) (v : Value) (w : World) (hv : StrsAt w v ws) (hsz : ¬ 512 < ws.length → ∀ s ∈ ws, s.size ≤ 100000) (hbk : ¬ 512 < ws.length → bulk (holesL ws) ≤ 100000) :
    Calls Tryz.prog 23 #[v] w fun e w' => e = .returned (.int .u8 (wordsE ws)) ∧ Below w.heap.size w w' := by
  obtain ⟨p, cap, rfl, hl, hc, hrow⟩ := hv
  unfold maxLen at hc
  obtain ⟨i0, hi, hz0, hz1, hz2⟩ := info_parts info_pc
  have ag := Tryz.isAgg56
  have zg := Tryz.sizeOf56
  have HR := Lib.hid hrow
  clear hrow
  by_cases h512 : 512 < ws.length
  · have h512I : (512 : Int) < (ws.length : Int) := by omega
    have HX := Lib.hid (show wordsE ws = 3 by unfold wordsE; rw [if_pos h512])
    go_enter Tryz.func23, Tryz.ntmps23
    go_wp2
    go_ret
    exact ⟨ret_u8 HX.out.symm, Below.refl _ _⟩
  have h512I : ¬ (512 : Int) < (ws.length : Int) := by omega
  have HS := Lib.hid (hsz h512)
  have HBK := Lib.hid (hbk h512)
  have H5 := Lib.hid h512
  clear hsz hbk
  go_enter Tryz.func23, Tryz.ntmps23
  go_wp2
  go_loopw [3, 4] (fun o i wr => ∃ k : Nat, k ≤ ws.length ∧ i = .int .i64 k ∧ Hid (OkTo ws k) ∧ Hid (OwnP w.heap.size o (holesK ws k) wr) ∧ Hid (Below w.heap.size w wr)) (fun _ i _ => ws.length - (RowKit.intOf i).toNat)
  case atStart => exact ⟨0, Nat.zero_le _, rfl, (fun _ h => absurd h (Nat.not_lt_zero _)), OwnP.nil _ _, Below.refl _ _⟩
  case round =>
    obtain ⟨k, hk, rfl, HO, HK, HB⟩ := hrel
    by_cases hlt : k < ws.length
    · obtain ⟨A, rfl, hA, hcell⟩ := HR.out (by omega)
      have x0 := strs_cell hA hcell hlt HB.out
      have hS := holesK_succ hlt
      have hsb := HS.out _ (getS_mem hlt)
      have hL := holesK_len (Nat.le_of_lt hlt)
      have HFE := Lib.hid (wordsE_form H5.out hlt)
      have HOS := Lib.hid (HO.out.succ (k := k))
      clear hcell
      generalize ws.getD k ByteArray.empty = s at x0 hS hsb HFE HOS
      generalize holesK ws k = o1 at HK hS hL
      have hol : o1.length ≤ 512 := by omega
      have q1 := Lib.hid (show o1.length + 1 ≤ maxLen by unfold maxLen; omega)
      have q2 := Lib.hid (show (o1.length + 1) * 32 ≤ 140737488355328 by omega)
      clear hL hol
      have cP := refPiece_any s wr hsb
      obtain ⟨ao, ca, rfl⟩ := HK.out.form
      cases hok : (pieceW s).2
      · have HX := Lib.hid (HFE.out hok)
        have hpf : ∀ e, PieceEnd s e → ∃ x : Pc, e = .returned (.tuple #[.agg #[.int .u8 x.k, .string x.s, .bool x.c], .bool false]) := fun e h => ⟨(pieceW s).1, by rw [h.of, hok]⟩
        have HPF := Lib.hid hpf
        clear hS hpf hok
        go_wp2_with (go_at_call 55; (with_reducible refine cP.mono ?_); rintro e w2 ⟨he2, hb2⟩; obtain ⟨x, rfl⟩ := HPF.out _ he2; have HB2 := Lib.hid (below_next HB.out hb2); clear he2 hb2)
        go_ret
        exact ⟨ret_u8 HX.out.symm, HB2.out.trans ((below_box _).mono HB2.out.size)⟩
      · have HN := Lib.hid (HOS.out hok)
        obtain ⟨x, hx⟩ : ∃ x, (pieceW s).1 = x := ⟨_, rfl⟩
        have hpf : ∀ e, PieceEnd s e → e = .returned (.tuple #[.agg #[.int .u8 x.k, .string x.s, .bool x.c], .bool true]) := fun e h => by rw [h.of, hok, hx]
        have HPF := Lib.hid hpf
        rw [hx] at hS
        clear hpf hok hx
        obtain ⟨xk, xs, xc⟩ := x
        have hown := HK.out
        unfold OwnP at hown
        by_cases h1 : xk = 1
        · subst h1
          have HS1 := Lib.hid (show holesK ws (k + 1) = o1 ++ [holeX] from hS)
          clear hS
          have news2 : Hid (∀ w2 : World, ∀ j u, ([.int .u8 5, .string ⟨#[120]⟩, .bool false] : List Value)[j]? = some u → ((w2.alloc (.cells #[.int .u8 5, .string ⟨#[120]⟩, .bool false] 56)).alloc (.cells #[.int .u8 5, .string ⟨#[120]⟩, .bool false] 56)).cell? (Addr.add ⟨w2.heap.size + 1, 0, none⟩ j) = some u) := by
            intro w2
            have := cell_new3 (w2.alloc (.cells #[.int .u8 5, .string ⟨#[120]⟩, .bool false] 56)) (.int .u8 5) (.string ⟨#[120]⟩) (.bool false) 56
            rw [show (w2.alloc (.cells #[.int .u8 5, .string ⟨#[120]⟩, .bool false] 56)).heap.size = w2.heap.size + 1 by simp] at this
            exact this
          have q3 : Hid (∀ w2 : World, w.heap.size ≤ w2.heap.size → w.heap.size ≤ ((w2.alloc (.cells #[.int .u8 5, .string ⟨#[120]⟩, .bool false] 56)).alloc (.cells #[.int .u8 5, .string ⟨#[120]⟩, .bool false] 56)).heap.size) := fun w2 h => by simp; omega
          have one3 : Hid (∀ u ∈ ([.int .u8 5, .string ⟨#[120]⟩, .bool false] : List Value), u.oneCell' = true) := by intro u hu; simp at hu; rcases hu with rfl | rfl | rfl <;> rfl
          go_wp2_with (first
            | (go_at_call 55; (with_reducible refine cP.mono ?_); rintro e w2 ⟨he2, hb2⟩; obtain rfl := HPF.out _ he2; have HB2 := Lib.hid (below_next HB.out hb2); have hown2 := ownsRow_step hb2 hown; have hsz2 := HB2.out.size; clear he2 hb2)
            | (at_builtin; refine wpList_append_own _ rfl _ _ 35 rfl w.heap.size 56 i0 _ 3 32 Tryz.underlying35 hi hz0 hz1 hz2 rfl (by decide) _ _ _ rfl ((hown2.alloc (.cells #[.int .u8 5, .string ⟨#[120]⟩, .bool false] 56)).alloc (.cells #[.int .u8 5, .string ⟨#[120]⟩, .bool false] 56)) ⟨w2.heap.size + 1, 0, none⟩ 1 1 [.int .u8 5, .string ⟨#[120]⟩, .bool false] rfl rfl (news2.out w2) one3.out q1.out q2.out (q3.out w2 hsz2) ?_; intro v3 w3 hown3 hgrow3 hnil3
               have HB3 := Lib.hid (((HB2.out.alloc hsz2 (.cells #[.int .u8 5, .string ⟨#[120]⟩, .bool false] 56)).alloc (by simp; omega) (.cells #[.int .u8 5, .string ⟨#[120]⟩, .bool false] 56)).grown hgrow3 (q3.out w2 hsz2) (fun k hk => (hown2.lt k hk).1))
               have HK3 := Lib.hid (OwnP.more (x := ⟨5, ⟨#[120]⟩, false⟩) hown3)
               clear hown hown2 hown3 hgrow3 hnil3))
          go_roundw
          case rel => exact ⟨k + 1, by omega, by go_num, HN.out, (by show OwnP _ _ _ _; rw [HS1.out]; exact HK3.out), HB3.out⟩
          case measure => simp [RowKit.intOf]; omega
        · have h1b : (xk == 1) = false := by simpa using h1
          have HS1 := Lib.hid (show holesK ws (k + 1) = o1 ++ [⟨xk, xs, xc⟩] by rw [hS]; unfold holeW; rw [if_neg h1])
          clear hS h1
          have news2 : Hid (∀ w2 : World, ∀ j u, ([.int .u8 xk, .string xs, .bool xc] : List Value)[j]? = some u → ((w2.alloc (.cells #[.int .u8 xk, .string xs, .bool xc] 56)).alloc (.cells #[.int .u8 xk, .string xs, .bool xc] 56)).cell? (Addr.add ⟨w2.heap.size + 1, 0, none⟩ j) = some u) := by
            intro w2
            have := cell_new3 (w2.alloc (.cells #[.int .u8 xk, .string xs, .bool xc] 56)) (.int .u8 xk) (.string xs) (.bool xc) 56
            rw [show (w2.alloc (.cells #[.int .u8 xk, .string xs, .bool xc] 56)).heap.size = w2.heap.size + 1 by simp] at this
            exact this
          have q3 : Hid (∀ w2 : World, w.heap.size ≤ w2.heap.size → w.heap.size ≤ ((w2.alloc (.cells #[.int .u8 xk, .string xs, .bool xc] 56)).alloc (.cells #[.int .u8 xk, .string xs, .bool xc] 56)).heap.size) := fun w2 h => by simp; omega
          have one3 : Hid (∀ u ∈ ([.int .u8 xk, .string xs, .bool xc] : List Value), u.oneCell' = true) := by intro u hu; simp at hu; rcases hu with rfl | rfl | rfl <;> rfl
          go_wp2_with (first
            | (go_at_call 55; (with_reducible refine cP.mono ?_); rintro e w2 ⟨he2, hb2⟩; obtain rfl := HPF.out _ he2; have HB2 := Lib.hid (below_next HB.out hb2); have hown2 := ownsRow_step hb2 hown; have hsz2 := HB2.out.size; clear he2 hb2)
            | (at_builtin; refine wpList_append_own _ rfl _ _ 35 rfl w.heap.size 56 i0 _ 3 32 Tryz.underlying35 hi hz0 hz1 hz2 rfl (by decide) _ _ _ rfl ((hown2.alloc (.cells #[.int .u8 xk, .string xs, .bool xc] 56)).alloc (.cells #[.int .u8 xk, .string xs, .bool xc] 56)) ⟨w2.heap.size + 1, 0, none⟩ 1 1 [.int .u8 xk, .string xs, .bool xc] rfl rfl (news2.out w2) one3.out q1.out q2.out (q3.out w2 hsz2) ?_; intro v3 w3 hown3 hgrow3 hnil3
               have HB3 := Lib.hid (((HB2.out.alloc hsz2 (.cells #[.int .u8 xk, .string xs, .bool xc] 56)).alloc (by simp; omega) (.cells #[.int .u8 xk, .string xs, .bool xc] 56)).grown hgrow3 (q3.out w2 hsz2) (fun k hk => (hown2.lt k hk).1))
               have HK3 := Lib.hid (OwnP.more (x := ⟨xk, xs, xc⟩) hown3)
               clear hown hown2 hown3 hgrow3 hnil3))
          go_roundw
          case rel => exact ⟨k + 1, by omega, by go_num, HN.out, (by show OwnP _ _ _ _; rw [HS1.out]; exact HK3.out), HB3.out⟩
          case measure => simp [RowKit.intOf]; omega
    · have hkl : k = ws.length := by omega
      subst hkl
      have HX := Lib.hid (wordsE_fine H5.out HO.out)
      have hp := HK.out.at
      rw [holesK_all] at hp
      have cC := refCheck_any (holesL ws) _ wr hp HBK.out
      obtain ⟨ao, ca, rfl⟩ := HK.out.form
      have HB1 := HB
      clear hp
      go_wp2_with (go_at_call 31; (with_reducible refine cC.mono ?_); rintro e w2 ⟨rfl, hb2⟩; have HB2 := Lib.hid (below_next HB1.out hb2); clear hb2)
      go_ret
      exact ⟨ret_u8 HX.out.symm, HB2.out⟩
end Go.Proofs.YtnbeomclmggbiaaGreatDoor
namespace Go.Proofs.YtnbeomclmggbiaaGreatDoor
open Go Go.RowKit Go.Lib
set_option maxRecDepth 100000
def inB (l : List ByteArray) (s : ByteArray) : Bool := l.any fun x => x.toList == s.toList
def NotTo (l : List ByteArray) (s : ByteArray) (k : Nat) : Prop := ∀ i, i < k → ((l.getD i ByteArray.empty).toList == s.toList) = false
theorem NotTo.succ {l : List ByteArray} {s : ByteArray} {k : Nat} (h : NotTo l s k) (hk : ((l.getD k ByteArray.empty).toList == s.toList) = false) : NotTo l s (k + 1) := by
  intro i hi
  rcases Nat.lt_succ_iff_lt_or_eq.1 hi with h' | rfl
  · exact h i h'
  · exact hk
theorem NotTo.all {l : List ByteArray} {s : ByteArray} (h : NotTo l s l.length) : inB l s = false := by
  unfold inB
  rw [List.any_eq_false]
  intro x hx
  obtain ⟨i, hi, rfl⟩ := List.getElem_of_mem hx
  have := h i hi
  rw [List.getD_eq_getElem?_getD, List.getElem?_eq_getElem hi] at this
  simpa using this
theorem inB_yes {l : List ByteArray} {s : ByteArray} {k : Nat} (hk : k < l.length) (h : ((l.getD k ByteArray.empty).toList == s.toList) = true) : inB l s = true := by
  unfold inB
  rw [List.any_eq_true]
  exact ⟨_, getS_mem hk, h⟩
set_option maxHeartbeats 4000000 in
theorem refIn_any (l : List ByteArray) (v : Value) (s : ByteArray) (w : World) (hv : StrsAt w v l) :
    Calls Tryz.prog 149 #[v, .string s] w fun e w' => e = .returned (.bool (inB l s)) ∧ Below w.heap.size w w' := by
  obtain ⟨p, cap, rfl, hl, hc, hrow⟩ := hv
  unfold maxLen at hc
  have HR := Lib.hid hrow
  clear hrow
  go_enter Tryz.func149, Tryz.ntmps149
  go_wp2
  go_loopw [5] (fun i wr => ∃ k : Nat, k ≤ l.length ∧ i = .int .i64 k ∧ Hid (NotTo l s k) ∧ Hid (Below w.heap.size w wr)) (fun i _ => l.length - (RowKit.intOf i).toNat)
  case atStart => exact ⟨0, Nat.zero_le _, rfl, (fun _ h => absurd h (Nat.not_lt_zero _)), Below.refl _ _⟩
  case round =>
    obtain ⟨k, hk, rfl, HN, HB⟩ := hrel
    by_cases hlt : k < l.length
    · obtain ⟨A, rfl, hA, hcell⟩ := HR.out (by omega)
      have x0 := strs_cell hA hcell hlt HB.out
      have HY := Lib.hid (fun h => inB_yes (s := s) hlt h)
      have HZ := Lib.hid (fun h => HN.out.succ (k := k) h)
      clear hcell
      generalize l.getD k ByteArray.empty = x at x0 HY HZ
      cases hx : (x.toList == s.toList)
      · have HX := Lib.hid (HZ.out hx)
        go_wp2
        go_roundw
        case rel => exact ⟨k + 1, by omega, by go_num, HX.out, HB.out⟩
        case measure => simp [RowKit.intOf]; omega
      · have HX := Lib.hid (HY.out hx)
        go_wp2
        go_ret
        exact ⟨ret_bool HX.out.symm, HB.out⟩
    · have hkl : k = l.length := by omega
      subst hkl
      have HX := Lib.hid HN.out.all
      go_wp2
      go_ret
      exact ⟨ret_bool HX.out.symm, HB.out⟩
def marks8 : List ByteArray := [⟨#[46]⟩, ⟨#[44]⟩, ⟨#[59]⟩, ⟨#[58]⟩, ⟨#[33]⟩, ⟨#[63]⟩, ⟨#[41]⟩, ⟨#[93]⟩]
def opens2 : List ByteArray := [⟨#[40]⟩, ⟨#[91]⟩]
/-- a blank stands between two bare words -/
def apartB (a b : ByteArray) : Bool := !inB marks8 b && !inB opens2 a
theorem strs_new (w : World) (ws : List ByteArray) (t : TypeId) (hl : ws.length ≤ 1000) : StrsAt (w.alloc (.cells (ws.map Value.string).toArray t)) (.slice (some ⟨w.heap.size, 0, none⟩) ws.length ws.length) ws := by
  refine ⟨some ⟨w.heap.size, 0, none⟩, ws.length, rfl, Nat.le_refl _, by unfold maxLen; omega, fun _ => ⟨_, rfl, by simp, fun i j hi hj => ?_⟩⟩
  have hj0 : j = 0 := by omega
  subst hj0
  rw [add_at, Nat.mul_one, Nat.add_zero]
  refine (Lib.cell_of_heap (heap_alloc_new w _) i).trans ?_
  simp [strF, List.getElem?_eq_getElem hi]
set_option maxHeartbeats 4000000 in
theorem refApart_any (a b : ByteArray) (w : World) :
    Calls Tryz.prog 108 #[.string a, .string b] w fun e w' => e = .returned (.bool (apartB a b)) ∧ Below w.heap.size w w' := by
  have c8 := fun w2 : World => refIn_any marks8 _ b _ (strs_new w2 marks8 9 (by decide))
  have c2 := fun w2 : World => refIn_any opens2 _ a _ (strs_new w2 opens2 9 (by decide))
  have HX := Lib.hid (show apartB a b = (!inB marks8 b && !inB opens2 a) from rfl)
  have HB8 := Lib.hid (fun w2 : World => below_box (w := w2) (.cells (marks8.map Value.string).toArray 9))
  have HB2 := Lib.hid (fun w2 : World => below_box (w := w2) (.cells (opens2.map Value.string).toArray 9))
  generalize inB marks8 b = x at c8 HX
  generalize inB opens2 a = y at c2 HX
  simp only [marks8, opens2, List.map_cons, List.map_nil, List.length_cons, List.length_nil, Nat.zero_add, Nat.reduceAdd] at c8 c2 HB8 HB2
  cases x <;> cases y
  all_goals
    go_enter Tryz.func108, Tryz.ntmps108
    go_wp2_with (first
      | (go_at_call 149; (with_reducible refine (c8 _).mono ?_); rintro e w2 ⟨rfl, hb2⟩; have HC := Lib.hid ((HB8.out _).trans (hb2.mono (HB8.out _).size)); clear hb2)
      | (go_at_call 149; (with_reducible refine (c2 _).mono ?_); rintro e w3 ⟨rfl, hb3⟩; replace HC := Lib.hid (below_next HC.out ((HB2.out _).trans (hb3.mono (HB2.out _).size))); clear hb3))
    go_ret
    exact ⟨ret_bool (by rw [HX.out]; rfl), HC.out⟩
set_option maxHeartbeats 4000000 in
theorem apart_any (x y : Pc) (w : World) :
    Calls Tryz.prog 105 #[pcV x, pcV y] w fun e w' => e = .returned (.bool (apartB x.s y.s)) ∧ Below w.heap.size w w' := by
  obtain ⟨xk, a, xc⟩ := x
  obtain ⟨yk, b, yc⟩ := y
  have ag := Tryz.isAgg56
  have zg := Tryz.sizeOf56
  have HX := Lib.hid (show apartB a b = (!((b.toList == [46]) || (b.toList == [44]) || (b.toList == [59]) || (b.toList == [58]) || (b.toList == [33]) || (b.toList == [63]) || (b.toList == [41]) || (b.toList == [93])) && !((a.toList == [40]) || (a.toList == [91]))) by
    unfold apartB inB marks8 opens2
    simp only [List.any_cons, List.any_nil, Bool.or_false, Bool.or_assoc, show (⟨#[46]⟩ : ByteArray).toList = [46] from ByteArray.toList_eq _, show (⟨#[44]⟩ : ByteArray).toList = [44] from ByteArray.toList_eq _, show (⟨#[59]⟩ : ByteArray).toList = [59] from ByteArray.toList_eq _, show (⟨#[58]⟩ : ByteArray).toList = [58] from ByteArray.toList_eq _, show (⟨#[33]⟩ : ByteArray).toList = [33] from ByteArray.toList_eq _, show (⟨#[63]⟩ : ByteArray).toList = [63] from ByteArray.toList_eq _, show (⟨#[41]⟩ : ByteArray).toList = [41] from ByteArray.toList_eq _, show (⟨#[93]⟩ : ByteArray).toList = [93] from ByteArray.toList_eq _, show (⟨#[40]⟩ : ByteArray).toList = [40] from ByteArray.toList_eq _, show (⟨#[91]⟩ : ByteArray).toList = [91] from ByteArray.toList_eq _]
    rw [Bool.beq_comm (a := [(46 : UInt8)]), Bool.beq_comm (a := [(44 : UInt8)]), Bool.beq_comm (a := [(59 : UInt8)]), Bool.beq_comm (a := [(58 : UInt8)]), Bool.beq_comm (a := [(33 : UInt8)]), Bool.beq_comm (a := [(63 : UInt8)]), Bool.beq_comm (a := [(41 : UInt8)]), Bool.beq_comm (a := [(93 : UInt8)]), Bool.beq_comm (a := [(40 : UInt8)]), Bool.beq_comm (a := [(91 : UInt8)])])
  unfold pcV
  dsimp only
  obtain ⟨z0, h0⟩ : ∃ z, (b.toList == [46]) = z := ⟨_, rfl⟩
  obtain ⟨z1, h1⟩ : ∃ z, (b.toList == [44]) = z := ⟨_, rfl⟩
  obtain ⟨z2, h2⟩ : ∃ z, (b.toList == [59]) = z := ⟨_, rfl⟩
  obtain ⟨z3, h3⟩ : ∃ z, (b.toList == [58]) = z := ⟨_, rfl⟩
  obtain ⟨z4, h4⟩ : ∃ z, (b.toList == [33]) = z := ⟨_, rfl⟩
  obtain ⟨z5, h5⟩ : ∃ z, (b.toList == [63]) = z := ⟨_, rfl⟩
  obtain ⟨z6, h6⟩ : ∃ z, (b.toList == [41]) = z := ⟨_, rfl⟩
  obtain ⟨z7, h7⟩ : ∃ z, (b.toList == [93]) = z := ⟨_, rfl⟩
  rw [h0, h1, h2, h3, h4, h5, h6, h7] at HX
  cases z0
  rotate_left
  · go_enter Tryz.func105, Tryz.ntmps105
    go_wp2
    go_ret
    exact ⟨ret_bool (by rw [HX.out]; rfl), below_two _ _ _⟩
  cases z1
  rotate_left
  · go_enter Tryz.func105, Tryz.ntmps105
    go_wp2
    go_ret
    exact ⟨ret_bool (by rw [HX.out]; rfl), below_two _ _ _⟩
  cases z2
  rotate_left
  · go_enter Tryz.func105, Tryz.ntmps105
    go_wp2
    go_ret
    exact ⟨ret_bool (by rw [HX.out]; rfl), below_two _ _ _⟩
  cases z3
  rotate_left
  · go_enter Tryz.func105, Tryz.ntmps105
    go_wp2
    go_ret
    exact ⟨ret_bool (by rw [HX.out]; rfl), below_two _ _ _⟩
  cases z4
  rotate_left
  · go_enter Tryz.func105, Tryz.ntmps105
    go_wp2
    go_ret
    exact ⟨ret_bool (by rw [HX.out]; rfl), below_two _ _ _⟩
  cases z5
  rotate_left
  · go_enter Tryz.func105, Tryz.ntmps105
    go_wp2
    go_ret
    exact ⟨ret_bool (by rw [HX.out]; rfl), below_two _ _ _⟩
  cases z6
  rotate_left
  · go_enter Tryz.func105, Tryz.ntmps105
    go_wp2
    go_ret
    exact ⟨ret_bool (by rw [HX.out]; rfl), below_two _ _ _⟩
  cases z7
  rotate_left
  · go_enter Tryz.func105, Tryz.ntmps105
    go_wp2
    go_ret
    exact ⟨ret_bool (by rw [HX.out]; rfl), below_two _ _ _⟩
  by_cases h8 : a.toList = [40]
  · rw [show (a.toList == [40]) = true by rw [h8]; rfl] at HX
    go_enter Tryz.func105, Tryz.ntmps105
    go_wp2
    go_ret
    exact ⟨ret_bool (by rw [HX.out]; rfl), below_two _ _ _⟩
  by_cases h9 : a.toList = [91]
  · rw [show (a.toList == [91]) = true by rw [h9]; rfl, show (a.toList == [40]) = false by rw [h9]; rfl] at HX
    go_enter Tryz.func105, Tryz.ntmps105
    go_wp2
    go_ret
    exact ⟨ret_bool (by rw [HX.out]; rfl), below_two _ _ _⟩
  · rw [show (a.toList == [91]) = false by simpa using h9, show (a.toList == [40]) = false by simpa using h8] at HX
    go_enter Tryz.func105, Tryz.ntmps105
    go_wp2
    go_ret
    exact ⟨ret_bool (by rw [HX.out]; simp [h8, h9]), below_two _ _ _⟩
end Go.Proofs.YtnbeomclmggbiaaGreatDoor
namespace Go.Proofs.YtnbeomclmggbiaaGreatDoor
open Go Go.RowKit Go.Lib
set_option maxRecDepth 100000
noncomputable def behindW (ws : List ByteArray) (k : Nat) : ByteArray := ((ws.drop k).find? fun s => !tagW s).getD ByteArray.empty
theorem dropS_cons {ws : List ByteArray} {k : Nat} (h : k < ws.length) : ws.drop k = ws.getD k ByteArray.empty :: ws.drop (k + 1) := by
  rw [List.drop_eq_getElem_cons h, List.getD_eq_getElem?_getD, List.getElem?_eq_getElem h]; rfl
theorem behindW_end {ws : List ByteArray} {k : Nat} (h : ws.length ≤ k) : behindW ws k = ByteArray.empty := by
  unfold behindW; rw [List.drop_eq_nil_of_le h]; rfl
theorem behindW_hit {ws : List ByteArray} {k : Nat} (h : k < ws.length) (ht : tagW (ws.getD k ByteArray.empty) = false) : behindW ws k = ws.getD k ByteArray.empty := by
  unfold behindW; rw [dropS_cons h, List.find?_cons, ht]; rfl
theorem behindW_pass {ws : List ByteArray} {k : Nat} (h : k < ws.length) (ht : tagW (ws.getD k ByteArray.empty) = true) : behindW ws k = behindW ws (k + 1) := by
  unfold behindW; rw [dropS_cons h, List.find?_cons, ht]; rfl
set_option maxHeartbeats 4000000 in
theorem refBehind_any (ws : List ByteArray) (at' : Nat) (v : Value) (w : World) (hv : StrsAt w v ws) (hsz : ∀ s ∈ ws, s.size ≤ 140737488355328) (ha : at' ≤ ws.length) (hn : ws.length ≤ 100000) :
    Calls Tryz.prog 107 #[v, .int .i64 (at' : Int)] w fun e w' => e = .returned (.string (behindW ws at')) ∧ Below w.heap.size w w' := by
  obtain ⟨p, cap, rfl, hl, hc, hrow⟩ := hv
  unfold maxLen at hc
  have HR := Lib.hid hrow
  have HSZ := Lib.hid hsz
  clear hrow hsz
  go_enter Tryz.func107, Tryz.ntmps107
  go_wp2
  go_loopw [5] (fun i wr => ∃ k : Nat, k ≤ ws.length ∧ i = .int .i64 k ∧ Hid (behindW ws at' = behindW ws k) ∧ Hid (Below w.heap.size w wr)) (fun i _ => ws.length - (RowKit.intOf i).toNat)
  case atStart => exact ⟨at', ha, rfl, rfl, Below.refl _ _⟩
  case round =>
    obtain ⟨k, hk, rfl, HN, HB⟩ := hrel
    by_cases hlt : k < ws.length
    · obtain ⟨A, rfl, hA, hcell⟩ := HR.out (by omega)
      have XC := Lib.hid (fun wr (h : Below w.heap.size w wr) => strs_cell hA hcell hlt h)
      have x0 := XC.out wr HB.out
      have hsb := HSZ.out _ (getS_mem hlt)
      have HY := Lib.hid (fun h => HN.out.trans (behindW_hit hlt h))
      have HZ := Lib.hid (fun h => HN.out.trans (behindW_pass hlt h))
      clear hcell
      generalize ws.getD k ByteArray.empty = x at XC x0 hsb HY HZ
      have cT1 := refIsTag_any x wr hsb
      cases hx : tagW x
      · rw [hx] at cT1
        have HX := Lib.hid (HY.out hx)
        go_wp2_with (go_at_call 57; (with_reducible refine cT1.mono ?_); rintro e w2 ⟨rfl, hb2⟩; have HB2 := Lib.hid (below_next HB.out hb2); have x1 := XC.out w2 HB2.out; clear hb2)
        go_ret
        exact ⟨ret_str HX.out.symm, HB2.out⟩
      · rw [hx] at cT1
        have HX := Lib.hid (HZ.out hx)
        go_wp2_with (go_at_call 57; (with_reducible refine cT1.mono ?_); rintro e w2 ⟨rfl, hb2⟩; have HB2 := Lib.hid (below_next HB.out hb2); clear hb2)
        go_roundw
        case rel => exact ⟨k + 1, by omega, by go_num, HX.out, HB2.out⟩
        case measure => simp [RowKit.intOf]; omega
    · have HX := Lib.hid (HN.out.trans (behindW_end (by omega)))
      go_wp2
      go_ret
      exact ⟨ret_str HX.out.symm, HB.out⟩
/-- the first bare piece of a list -/
def firstB (l : List Pc) : Option Pc := l.find? fun x => !isTagB x
def FirstEnd (l : List Pc) (e : Ending) : Prop := match firstB l with
  | some x => e = .returned (.tuple #[pcV x, .bool true])
  | none => ∃ x, e = .returned (.tuple #[pcV x, .bool false])
theorem FirstEnd.hit {l : List Pc} {x : Pc} (h : firstB l = some x) : FirstEnd l (.returned (.tuple #[pcV x, .bool true])) := by unfold FirstEnd; rw [h]
theorem FirstEnd.miss {l : List Pc} (x : Pc) (h : firstB l = none) : FirstEnd l (.returned (.tuple #[pcV x, .bool false])) := by unfold FirstEnd; rw [h]; exact ⟨x, rfl⟩
theorem firstB_drop {l : List Pc} {k : Nat} (h : k < l.length) : firstB (l.drop k) = if isTagB (l.getD k nil) then firstB (l.drop (k + 1)) else some (l.getD k nil) := by
  have e : l.drop k = l.getD k nil :: l.drop (k + 1) := by rw [List.drop_eq_getElem_cons h, List.getD_eq_getElem?_getD, List.getElem?_eq_getElem h]; rfl
  unfold firstB
  rw [e, List.find?_cons]
  cases isTagB (l.getD k nil) <;> rfl
set_option maxHeartbeats 8000000 in
theorem firstBare_any (l : List Pc) (v : Value) (w : World) (hv : PcsAt w v l) :
    Calls Tryz.prog 104 #[v] w fun e w' => FirstEnd l e ∧ Below w.heap.size w w' := by
  obtain ⟨p, cap, rfl, hl, hc, hrow⟩ := hv
  unfold maxLen at hc
  have ag := Tryz.isAgg56
  have zg := Tryz.sizeOf56
  have HR := Lib.hid hrow
  have HB0 := Lib.hid (below_box (w := w) pcZ)
  have HZ := Lib.hid (show (w.alloc pcZ).heap[w.heap.size]? = some pcZ by show (w.heap.push _)[_]? = _; simp)
  unfold pcZ at HB0 HZ
  clear hrow
  go_enter Tryz.func104, Tryz.ntmps104
  go_wp2
  go_loopw [8] (fun i wr => ∃ k : Nat, k ≤ l.length ∧ i = .int .i64 k ∧ Hid (firstB l = firstB (l.drop k)) ∧ Hid (wr.heap[w.heap.size]? = some (.cells #[.int .u8 0, .string ⟨#[]⟩, .bool false] 56 (0, 0))) ∧ Hid (Below w.heap.size w wr)) (fun i _ => l.length - (RowKit.intOf i).toNat)
  case atStart => exact ⟨0, Nat.zero_le _, rfl, rfl, HZ.out, HB0.out⟩
  case round =>
    obtain ⟨k, hk, rfl, HN, HZr, HB⟩ := hrel
    clear HZ HB0
    by_cases hlt : k < l.length
    · obtain ⟨A, rfl, hA, hcell⟩ := HR.out (by omega)
      obtain ⟨x0, x1, x2⟩ := pcs_cells hA hcell hlt HB.out
      have hF := HN.out.trans (firstB_drop hlt)
      clear hcell
      generalize l.getD k nil = x at x0 x1 x2 hF
      have hlw := lt_of_block HZr.out
      have HBX := Lib.hid (below_next HB.out (below_box (w := wr) (pcC x)))
      have HX := Lib.hid (Boxed.new wr x)
      have HZX := Lib.hid ((Below.heap_alloc wr (pcC x) _ hlw).trans HZr.out)
      have cT1 := isTag_any x (wr.alloc (pcC x))
      unfold pcC at cT1 HBX HX HZX
      unfold pcV at cT1
      cases hx : isTagB x
      · rw [hx] at cT1 hF
        have HF := Lib.hid (show firstB l = some x from hF)
        clear hF
        go_wp2_with (go_at_call 61; (with_reducible refine cT1.mono ?_); rintro e w2 ⟨rfl, hb2⟩; have HB2 := Lib.hid (below_next HBX.out hb2); obtain ⟨b0, b1, b2, _⟩ := HX.out.step hb2; have HZ2 := Lib.hid ((hb2.block _ (lt_of_block HZX.out)).trans HZX.out); obtain ⟨c0, c1, c2, f0, f1, f2, hlw2⟩ := zbox HZ2.out; clear hb2)
        have h3 := set3_cells HZ2.out (.int .u8 x.k) (.string x.s) (.bool x.c)
        refine bodyPost_ret (results_ct (xs := [.int .u8 x.k, .string x.s, .bool x.c]) rfl rfl ag zg (three_cells (by rw [Lib.cell_of_heap h3]; rfl) (by rw [Lib.cell_of_heap h3]; rfl) (by rw [Lib.cell_of_heap h3]; rfl))) rfl ⟨?_, ?_⟩
        · exact FirstEnd.hit HF.out
        · exact ((HB2.out.setCell (p := ⟨w.heap.size, 0, none⟩) (Nat.le_refl _) _).setCell (p := ⟨w.heap.size, 1, none⟩) (Nat.le_refl _) _).setCell (p := ⟨w.heap.size, 2, none⟩) (Nat.le_refl _) _
      · rw [hx] at cT1 hF
        have HF := Lib.hid (show firstB l = firstB (l.drop (k + 1)) from hF)
        clear hF
        go_wp2_with (go_at_call 61; (with_reducible refine cT1.mono ?_); rintro e w2 ⟨rfl, hb2⟩; have HB2 := Lib.hid (below_next HBX.out hb2); have HZ2 := Lib.hid ((hb2.block _ (lt_of_block HZX.out)).trans HZX.out); clear hb2)
        go_roundw
        case rel => exact ⟨k + 1, by omega, by go_num, HF.out, HZ2.out, HB2.out⟩
        case measure => simp [RowKit.intOf]; omega
    · have HF := Lib.hid (HN.out.trans (show firstB (l.drop k) = none by rw [List.drop_eq_nil_of_le (by omega)]; rfl))
      obtain ⟨c0, c1, c2, f0, f1, f2, hlw⟩ := zbox HZr.out
      go_wp2
      have h3 := set3_cells HZr.out (.int .u8 0) (.string ⟨#[]⟩) (.bool false)
      refine bodyPost_ret (results_ct (xs := [.int .u8 0, .string ⟨#[]⟩, .bool false]) rfl rfl ag zg (three_cells (by rw [Lib.cell_of_heap h3]; rfl) (by rw [Lib.cell_of_heap h3]; rfl) (by rw [Lib.cell_of_heap h3]; rfl))) rfl ⟨?_, ?_⟩
      · exact FirstEnd.miss ⟨0, ⟨#[]⟩, false⟩ HF.out
      · exact ((HB.out.setCell (p := ⟨w.heap.size, 0, none⟩) (Nat.le_refl _) _).setCell (p := ⟨w.heap.size, 1, none⟩) (Nat.le_refl _) _).setCell (p := ⟨w.heap.size, 2, none⟩) (Nat.le_refl _) _
end Go.Proofs.YtnbeomclmggbiaaGreatDoor
namespace Go.Proofs.YtnbeomclmggbiaaGreatDoor
open Go Go.RowKit Go.Lib
set_option maxRecDepth 100000
theorem cells_setCell {w : World} {g : Nat} {cur : Array Value} {t : TypeId} (h : w.heap[g]? = some (.cells cur t (0, 0))) (j : Nat) (u : Value) :
    (w.setCell ⟨g, j, none⟩ u).heap[g]? = some (.cells (cur.setIfInBounds j u) t (0, 0)) := by
  simp [World.setCell, Array.getElem?_modify, h]
theorem ownsRow_put {w : World} {base : Nat} {e : TypeId} {size n cap g : Nat} {xs : List Value} (h : w.ownsRow base e size (.slice (some ⟨g, 0, none⟩) n cap) n xs) (j : Nat) (u : Value) :
    (w.setCell ⟨g, j, none⟩ u).ownsRow base e size (.slice (some ⟨g, 0, none⟩) n cap) n (xs.set j u) := by
  obtain ⟨h1, h2⟩ := h
  refine ⟨by rw [List.length_set]; exact h1, ?_⟩
  rcases h2 with ⟨h2, _⟩ | ⟨g', cap', cur, hv, hg, hh, hn, hm, hs, ht⟩
  · cases h2
  · cases hv
    exact .inr ⟨g, cap, _, rfl, hg, cells_setCell hh j u, hn, hm, by simpa using hs, by rw [← ht]; simp [List.take_set]⟩
theorem OwnP.put {B : Nat} {g cap : Nat} {o : List Pc} {y : Pc} {s : ByteArray} {w : World} (h : OwnP B (.slice (some ⟨g, 0, none⟩) (o.length + 1) cap) (o ++ [y]) w) :
    OwnP B (.slice (some ⟨g, 0, none⟩) (o.length + 1) cap) (o ++ [⟨y.k, s, y.c⟩]) (w.setCell ⟨g, o.length * 3 + 1, none⟩ (.string s)) := by
  unfold OwnP at h ⊢
  rw [List.length_append] at h ⊢
  have := ownsRow_put h (o.length * 3 + 1) (.string s)
  have hc : (cells3 o).length = o.length * 3 := by
    have h1 := h.1
    rw [cells3_app, List.length_append] at h1
    simp [cells3] at h1 ⊢
    omega
  rw [cells3_app] at this ⊢
  rw [List.set_append_right (h := by omega)] at this
  rw [show o.length * 3 + 1 - (cells3 o).length = 1 by omega] at this
  exact this
def addP (l : List Pc) (x : Pc) : List Pc := match l.getLast? with
  | some y => if x.k = 1 ∧ y.k = 1 then l.dropLast ++ [⟨y.k, y.s ++ x.s, y.c⟩] else l ++ [x]
  | none => l ++ [x]
theorem addP_nil (x : Pc) : addP [] x = [x] := rfl
theorem addP_more {o : List Pc} {y x : Pc} (h : ¬ (x.k = 1 ∧ y.k = 1)) : addP (o ++ [y]) x = (o ++ [y]) ++ [x] := by unfold addP; rw [List.getLast?_concat]; simp [h]
theorem addP_join {o : List Pc} {y x : Pc} (h : x.k = 1) (h' : y.k = 1) : addP (o ++ [y]) x = o ++ [⟨y.k, y.s ++ x.s, y.c⟩] := by unfold addP; rw [List.getLast?_concat]; simp [h, h']
theorem OwnP.last {B : Nat} {o : List Pc} {y : Pc} {v : Value} {w : World} (h : OwnP B v (o ++ [y]) w) : ∃ g cap, v = .slice (some ⟨g, 0, none⟩) (o.length + 1) cap ∧ o.length + 1 ≤ cap ∧ g < w.heap.size ∧ B ≤ g ∧
    w.cell? ⟨g, o.length * 3, none⟩ = some (.int .u8 y.k) ∧ w.cell? ⟨g, o.length * 3 + 1, none⟩ = some (.string y.s) ∧ w.cell? ⟨g, o.length * 3 + 2, none⟩ = some (.bool y.c) ∧ w.frozen? ⟨g, o.length * 3 + 1, none⟩ = false := by
  have hp := h.at
  obtain ⟨p, cap', e, h1, h2, h3⟩ := hp
  rcases h.2 with ⟨rfl, h0⟩ | ⟨g, cap, cur, rfl, hg, hh, hn, hm, _⟩
  · simp at h0
  · cases e
    obtain ⟨A, hA1, hA, hcell⟩ := h3 (by simp)
    cases hA1
    obtain ⟨c0, c1, c2⟩ := pcs_cells hA hcell (k := o.length) (by simp) (Below.refl _ w)
    have hy : (o ++ [y]).getD o.length Go.Proofs.YtnbeomclmggbiaaGreatDoor.nil = y := by simp
    rw [hy, add_at] at c0 c1 c2
    refine ⟨g, _, by rw [List.length_append, List.length_singleton], by simpa using hn, hA, hg, c0, c1, c2, Lib.frozen_of_heap hh _⟩
/-- all that was is as it was, but for the row itself -/
def BesideOwn (w w' : World) (v : Value) : Prop := ∀ b, b < w.heap.size → v.ownBlock ≠ some b → w'.heap[b]? = w.heap[b]?
theorem BesideOwn.grown {w w' : World} {v : Value} {o o' : Obj} (h : ((w.alloc o).alloc o').grownBy w' v.ownBlock) : BesideOwn w w' v := fun b hb hv => by
  have h1 : b < (w.alloc o).heap.size := by simp; omega
  have h2 : b < ((w.alloc o).alloc o').heap.size := by simp; omega
  rw [h.block b h2 (fun e => hv e.symm), Below.heap_alloc _ _ _ h1, Below.heap_alloc _ _ _ hb]
set_option maxHeartbeats 8000000 in
theorem refAdd_any (B : Nat) (l : List Pc) (x : Pc) (v : Value) (w : World) (hO : OwnP B v l w) (hB : B ≤ w.heap.size) (hl : l.length ≤ 100000) (hs : ∀ y ∈ l, y.s.size + x.s.size ≤ 1000000000) :
    Calls Tryz.prog 109 #[v, pcV x] w fun e w' => ∃ v', e = .returned v' ∧ OwnP B v' (addP l x) w' ∧ Below B w w' ∧ BesideOwn w w' v := by
  obtain ⟨i0, hi, hz0, hz1, hz2⟩ := info_parts info_pc
  have ag := Tryz.isAgg56
  have zg := Tryz.sizeOf56
  obtain ⟨xk, xs, xc⟩ := x
  unfold pcV
  dsimp only at hs ⊢
  have hown := hO
  unfold OwnP at hown
  have q1 := Lib.hid (show l.length + 1 ≤ maxLen by unfold maxLen; omega)
  have q2 := Lib.hid (show (l.length + 1) * 32 ≤ 140737488355328 by omega)
  have news2 : Hid (∀ w2 : World, ∀ j u, ([.int .u8 xk, .string xs, .bool xc] : List Value)[j]? = some u → ((w2.alloc (.cells #[.int .u8 xk, .string xs, .bool xc] 56)).alloc (.cells #[.int .u8 xk, .string xs, .bool xc] 56)).cell? (Addr.add ⟨w2.heap.size + 1, 0, none⟩ j) = some u) := by
    intro w2
    have := cell_new3 (w2.alloc (.cells #[.int .u8 xk, .string xs, .bool xc] 56)) (.int .u8 xk) (.string xs) (.bool xc) 56
    rw [show (w2.alloc (.cells #[.int .u8 xk, .string xs, .bool xc] 56)).heap.size = w2.heap.size + 1 by simp] at this
    exact this
  have q3 : Hid (∀ w2 : World, B ≤ w2.heap.size → B ≤ ((w2.alloc (.cells #[.int .u8 xk, .string xs, .bool xc] 56)).alloc (.cells #[.int .u8 xk, .string xs, .bool xc] 56)).heap.size) := fun w2 h => by simp; omega
  have one3 : Hid (∀ u ∈ ([.int .u8 xk, .string xs, .bool xc] : List Value), u.oneCell' = true) := by intro u hu; simp at hu; rcases hu with rfl | rfl | rfl <;> rfl
  rcases List.eq_nil_or_concat l with rfl | ⟨o, y, rfl⟩
  · have HX := Lib.hid (addP_nil ⟨xk, xs, xc⟩)
    obtain ⟨ao, ca, rfl⟩ := hO.form
    by_cases h1 : xk = 1
    · subst h1
      go_enter Tryz.func109, Tryz.ntmps109
      go_wp2_with (first | (at_builtin; refine wpList_append_own _ rfl _ _ 35 rfl B 56 i0 _ 3 32 Tryz.underlying35 hi hz0 hz1 hz2 rfl (by decide) _ _ _ rfl ((hown.alloc (.cells #[.int .u8 1, .string xs, .bool xc] 56)).alloc (.cells #[.int .u8 1, .string xs, .bool xc] 56)) ⟨w.heap.size + 1, 0, none⟩ 1 1 [.int .u8 1, .string xs, .bool xc] rfl rfl (news2.out w) one3.out q1.out q2.out (q3.out w hB) ?_; intro v3 w3 hown3 hgrow3 hnil3; have HB3 := Lib.hid ((((Below.refl B w).alloc hB (.cells #[.int .u8 1, .string xs, .bool xc] 56)).alloc (by simp; omega) (.cells #[.int .u8 1, .string xs, .bool xc] 56)).grown hgrow3 (q3.out w hB) (fun k hk => (hown.lt k hk).1)); have HK3 := Lib.hid (OwnP.more (x := ⟨1, xs, xc⟩) hown3); have HBO := Lib.hid (BesideOwn.grown hgrow3); clear hown hown3 hgrow3 hnil3))
      go_ret
      exact ⟨v3, rfl, (by rw [HX.out]; exact HK3.out), HB3.out, HBO.out⟩
    · have h1b : (xk == 1) = false := by simpa using h1
      go_enter Tryz.func109, Tryz.ntmps109
      go_wp2_with (first | (at_builtin; refine wpList_append_own _ rfl _ _ 35 rfl B 56 i0 _ 3 32 Tryz.underlying35 hi hz0 hz1 hz2 rfl (by decide) _ _ _ rfl ((hown.alloc (.cells #[.int .u8 xk, .string xs, .bool xc] 56)).alloc (.cells #[.int .u8 xk, .string xs, .bool xc] 56)) ⟨w.heap.size + 1, 0, none⟩ 1 1 [.int .u8 xk, .string xs, .bool xc] rfl rfl (news2.out w) one3.out q1.out q2.out (q3.out w hB) ?_; intro v3 w3 hown3 hgrow3 hnil3; have HB3 := Lib.hid ((((Below.refl B w).alloc hB (.cells #[.int .u8 xk, .string xs, .bool xc] 56)).alloc (by simp; omega) (.cells #[.int .u8 xk, .string xs, .bool xc] 56)).grown hgrow3 (q3.out w hB) (fun k hk => (hown.lt k hk).1)); have HK3 := Lib.hid (OwnP.more (x := ⟨xk, xs, xc⟩) hown3); have HBO := Lib.hid (BesideOwn.grown hgrow3); clear hown hown3 hgrow3 hnil3))
      go_ret
      exact ⟨v3, rfl, (by rw [HX.out]; exact HK3.out), HB3.out, HBO.out⟩
  · rw [List.concat_eq_append] at *
    obtain ⟨g, cap, rfl, hcap, hgl, hBg, c0, c1, c2, f1⟩ := hO.last
    rw [List.length_append, List.length_singleton] at hown q1 q2
    have hol : o.length ≤ 100000 := by rw [List.length_append, List.length_singleton] at hl; omega
    by_cases h1 : xk = 1
    · subst h1
      obtain ⟨yk, ys, yc⟩ := y
      by_cases h2 : yk = 1
      · subst h2
        have HX := Lib.hid (addP_join (o := o) (y := ⟨1, ys, yc⟩) (x := ⟨1, xs, xc⟩) rfl rfl)
        have hno : ¬ 9223372036854775807 < ys.size + xs.size := by have := hs ⟨1, ys, yc⟩ (by simp); simp at this; omega
        have HO := Lib.hid hO
        have hwr : IntKind.i64.wrap ((o.length : Nat) : Int) = ((o.length : Nat) : Int) := by rw [IntKind.wrap_i64]; omega
        have hb0 : (0 : Int) ≤ ((o.length : Nat) : Int) := by omega
        have hb1 : ((o.length : Nat) : Int) < ((o.length : Nat) : Int) + 1 := by omega
        clear hown hO
        go_enter Tryz.func109, Tryz.ntmps109
        go_wp2
        have hb : Below w.heap.size w (w.alloc (.cells #[.int .u8 1, .string xs, .bool xc] 56)) := below_box _
        obtain ⟨b0, b1, b2, _⟩ := Boxed.new w ⟨1, xs, xc⟩
        unfold pcC at b0 b1 b2
        have d1 : (w.alloc (.cells #[.int .u8 1, .string xs, .bool xc] 56)).cell? ⟨g, o.length * 3 + 1, none⟩ = some (.string ys) := (hb.cell (p := ⟨g, o.length * 3 + 1, none⟩) hgl).trans c1
        have g1 : (w.alloc (.cells #[.int .u8 1, .string xs, .bool xc] 56)).frozen? ⟨g, o.length * 3 + 1, none⟩ = false := (hb.frozen (p := ⟨g, o.length * 3 + 1, none⟩) hgl).trans f1
        have HOx := Lib.hid (HO.out.step hb)
        have HBx := Lib.hid (hb.mono hB)
        have HWB := Lib.hid (fun b (h : b < w.heap.size) => hb.block b h)
        clear c0 c1 c2 f1 hb HO
        generalize w.alloc (.cells #[.int .u8 1, .string xs, .bool xc] 56) = wx at *
        go_still_tail 14, (by kernel_rfl)
        go_wp2
        go_ret
        exact ⟨_, rfl, (by rw [HX.out]; exact (OwnP.put (y := ⟨1, ys, yc⟩) HOx.out).step ((Below.refl _ _).drew)), ((HBx.out.setCell (p := ⟨g, o.length * 3 + 1, none⟩) hBg _).drew), fun b hb hv => (Below.heap_setCell wx ⟨g, o.length * 3 + 1, none⟩ _ b (fun e => hv (by rw [e]; rfl))).trans (HWB.out b hb)⟩
      · have h2b : (yk == 1) = false := by simpa using h2
        have HX := Lib.hid (addP_more (o := o) (y := ⟨yk, ys, yc⟩) (x := ⟨1, xs, xc⟩) (fun h => h2 h.2))
        clear h2
        go_enter Tryz.func109, Tryz.ntmps109
        go_wp2_with (first | (at_builtin; refine wpList_append_own _ rfl _ _ 35 rfl B 56 i0 _ 3 32 Tryz.underlying35 hi hz0 hz1 hz2 rfl (by decide) _ _ _ rfl ((hown.alloc (.cells #[.int .u8 1, .string xs, .bool xc] 56)).alloc (.cells #[.int .u8 1, .string xs, .bool xc] 56)) ⟨w.heap.size + 1, 0, none⟩ 1 1 [.int .u8 1, .string xs, .bool xc] rfl rfl (news2.out w) one3.out q1.out q2.out (q3.out w hB) ?_; intro v3 w3 hown3 hgrow3 hnil3; have HB3 := Lib.hid ((((Below.refl B w).alloc hB (.cells #[.int .u8 1, .string xs, .bool xc] 56)).alloc (by simp; omega) (.cells #[.int .u8 1, .string xs, .bool xc] 56)).grown hgrow3 (q3.out w hB) (fun k hk => (hown.lt k hk).1)); have HK3 := Lib.hid (OwnP.more (l := o ++ [⟨yk, ys, yc⟩]) (x := ⟨1, xs, xc⟩) (by rw [List.length_append, List.length_singleton]; exact hown3)); have HBO := Lib.hid (BesideOwn.grown hgrow3); clear hown hown3 hgrow3 hnil3))
        go_ret
        exact ⟨v3, rfl, (by rw [HX.out]; exact HK3.out), HB3.out, HBO.out⟩
    · have h1b : (xk == 1) = false := by simpa using h1
      have HX := Lib.hid (addP_more (o := o) (y := y) (x := ⟨xk, xs, xc⟩) (fun h => h1 h.1))
      clear h1
      go_enter Tryz.func109, Tryz.ntmps109
      go_wp2_with (first | (at_builtin; refine wpList_append_own _ rfl _ _ 35 rfl B 56 i0 _ 3 32 Tryz.underlying35 hi hz0 hz1 hz2 rfl (by decide) _ _ _ rfl ((hown.alloc (.cells #[.int .u8 xk, .string xs, .bool xc] 56)).alloc (.cells #[.int .u8 xk, .string xs, .bool xc] 56)) ⟨w.heap.size + 1, 0, none⟩ 1 1 [.int .u8 xk, .string xs, .bool xc] rfl rfl (news2.out w) one3.out q1.out q2.out (q3.out w hB) ?_; intro v3 w3 hown3 hgrow3 hnil3; have HB3 := Lib.hid ((((Below.refl B w).alloc hB (.cells #[.int .u8 xk, .string xs, .bool xc] 56)).alloc (by simp; omega) (.cells #[.int .u8 xk, .string xs, .bool xc] 56)).grown hgrow3 (q3.out w hB) (fun k hk => (hown.lt k hk).1)); have HK3 := Lib.hid (OwnP.more (l := o ++ [y]) (x := ⟨xk, xs, xc⟩) (by rw [List.length_append, List.length_singleton]; exact hown3)); have HBO := Lib.hid (BesideOwn.grown hgrow3); clear hown hown3 hgrow3 hnil3))
      go_ret
      exact ⟨v3, rfl, (by rw [HX.out]; exact HK3.out), HB3.out, HBO.out⟩
end Go.Proofs.YtnbeomclmggbiaaGreatDoor
namespace Go.Proofs.YtnbeomclmggbiaaGreatDoor
open Go Go.RowKit Go.Lib
set_option maxRecDepth 100000
def spX : Pc := ⟨1, ⟨#[32]⟩, false⟩
def isE (a : ByteArray) : Bool := a.toList.isEmpty
noncomputable def spStep (ws : List ByteArray) (k : Nat) (s : ByteArray) (x : Pc) (out : List Pc) (last : ByteArray) (blank : Bool) : List Pc × ByteArray × Bool :=
  if isTagB x = true then
    if x.k ≠ 3 ∧ isE last = false ∧ blank = false then
      (addP (if isE (behindW ws k) = false ∧ apartB last (behindW ws k) = true then addP out spX else out) x, last, true)
    else (addP out x, last, blank)
  else (addP (if isE last = false ∧ blank = false ∧ apartB last s = true then addP out spX else out) x, s, false)
/-- the spaced form of the first words; the last bare one; whether a blank behind it is settled -/
noncomputable def spTo (ws : List ByteArray) : Nat → List Pc × ByteArray × Bool
  | 0 => ([], ByteArray.empty, false)
  | k + 1 => spStep ws k (ws.getD k ByteArray.empty) (pieceW (ws.getD k ByteArray.empty)).1 (spTo ws k).1 (spTo ws k).2.1 (spTo ws k).2.2
noncomputable def spacedL (ws : List ByteArray) : List Pc := (spTo ws ws.length).1
theorem mem_bulk {l : List Pc} {y : Pc} (h : y ∈ l) : y.s.size + l.length ≤ bulk l := by
  have key : ∀ {l : List Pc} {y : Pc}, y ∈ l → y.s.size ≤ (l.map fun x => x.s.size).sum := by
    intro l y h
    exact le_sum_of_mem (List.mem_map_of_mem (f := fun x : Pc => x.s.size) h)
  have := key h
  unfold bulk
  omega
theorem addP_mem {l : List Pc} {x y : Pc} (h : y ∈ addP l x) : y.s.size ≤ bulk l + x.s.size := by
  rcases List.eq_nil_or_concat l with rfl | ⟨o, z, rfl⟩
  · rw [addP_nil] at h
    rw [List.mem_singleton.1 h]; omega
  · rw [List.concat_eq_append] at h ⊢
    by_cases hh : x.k = 1 ∧ z.k = 1
    · rw [addP_join hh.1 hh.2] at h
      rcases List.mem_append.1 h with h | h
      · have := mem_bulk (l := o ++ [z]) (y := y) (by simp [h]); omega
      · have := mem_bulk (l := o ++ [z]) (y := z) (by simp)
        rw [List.mem_singleton.1 h]
        simp only [ByteArray.size_append]
        omega
    · rw [addP_more hh] at h
      rcases List.mem_append.1 h with h | h
      · have := mem_bulk h; omega
      · rw [List.mem_singleton.1 h]; omega
theorem addP_len (l : List Pc) (x : Pc) : (addP l x).length ≤ l.length + 1 := by
  rcases List.eq_nil_or_concat l with rfl | ⟨o, z, rfl⟩
  · simp [addP_nil]
  · rw [List.concat_eq_append]
    by_cases hh : x.k = 1 ∧ z.k = 1
    · rw [addP_join hh.1 hh.2]; simp
    · rw [addP_more hh]; simp
theorem pieceW_size (s : ByteArray) : (pieceW s).1.s.size ≤ s.size := by
  by_cases h : ∃ y, Mk y s.data.toList
  · obtain ⟨y, h⟩ := h
    rw [pieceW_some h]
    have h1 := h.size
    have h2 := size_eq s
    show y.s.size ≤ _
    omega
  · rw [pieceW_none (fun y hy => h ⟨y, hy⟩)]
    exact Nat.le_refl _
theorem Boxed.beside {w w' : World} {v : Value} {b : Nat} {x : Pc} (h : BesideOwn w w' v) (hs : w.heap.size ≤ w'.heap.size) (hv : v.ownBlock ≠ some b) (hx : Boxed b x w) : Boxed b x w' := by
  obtain ⟨h0, h1, h2, h3⟩ := hx
  have e := h b h3 hv
  exact ⟨(World.cell?_of_block (w := w) (a := ⟨b, 0, none⟩) e).trans h0, (World.cell?_of_block (w := w) (a := ⟨b, 1, none⟩) e).trans h1, (World.cell?_of_block (w := w) (a := ⟨b, 2, none⟩) e).trans h2, by omega⟩
set_option maxHeartbeats 16000000 in
theorem refSpaced_any (ws : List ByteArray) (v : Value) (w : World) (hv : StrsAt w v ws) (hsz : ∀ s ∈ ws, s.size ≤ 100000) (hn : ws.length ≤ 1000) (hbk : ∀ k, k ≤ ws.length → bulk (spTo ws k).1 ≤ 50000) :
    Calls Tryz.prog 60 #[v] w fun e w' => (∃ u, e = .returned u ∧ OwnP w.heap.size u (spacedL ws) w') ∧ Below w.heap.size w w' := by
  have HV := Lib.hid hv
  obtain ⟨p, cap, rfl, hl, hc, hrow⟩ := hv
  unfold maxLen at hc
  have ag := Tryz.isAgg56
  have zg := Tryz.sizeOf56
  have HR := Lib.hid hrow
  have HSZ := Lib.hid hsz
  have HBK := Lib.hid hbk
  clear hrow hsz hbk
  go_enter Tryz.func60, Tryz.ntmps60
  go_wp2
  go_loopw [3, 4, 5, 6] (fun o la bl i wr => ∃ (k : Nat) (out : List Pc) (last : ByteArray) (blank : Bool), k ≤ ws.length ∧ i = .int .i64 k ∧ la = .string last ∧ bl = .bool blank ∧ Hid (spTo ws k = (out, last, blank)) ∧ Hid (OwnP w.heap.size o out wr) ∧ Hid (Below w.heap.size w wr)) (fun _ _ _ i _ => ws.length - (RowKit.intOf i).toNat)
  case atStart => exact ⟨0, [], ByteArray.empty, false, Nat.zero_le _, rfl, rfl, rfl, rfl, OwnP.nil _ _, Below.refl _ _⟩
  case round =>
    obtain ⟨k, out, last, blank, hk, rfl, rfl, rfl, HQ, HK, HB⟩ := hrel
    by_cases hlt : k < ws.length
    · obtain ⟨A, rfl, hA, hcell⟩ := HR.out (by omega)
      have XC := Lib.hid (fun wr (h : Below w.heap.size w wr) => strs_cell hA hcell hlt h)
      have x0 := XC.out wr HB.out
      have hsb := HSZ.out _ (getS_mem hlt)
      have hS : spTo ws (k + 1) = spStep ws k (ws.getD k ByteArray.empty) (pieceW (ws.getD k ByteArray.empty)).1 out last blank := by show spStep _ _ _ _ _ _ _ = _; rw [HQ.out]
      have hbo := HBK.out k hk
      rw [HQ.out] at hbo
      dsimp only at hbo
      have cN := fun w2 (h : Below w.heap.size w w2) => refBehind_any ws k _ w2 (HV.out.step h) (fun s hs => Nat.le_trans (HSZ.out s hs) (by omega)) hk (by omega)
      clear hcell
      generalize ws.getD k ByteArray.empty = s at XC x0 hS hsb
      have cP := refPiece_any s wr hsb
      obtain ⟨x, hx⟩ : ∃ x, (pieceW s).1 = x := ⟨_, rfl⟩
      obtain ⟨ok, hok⟩ : ∃ ok, (pieceW s).2 = ok := ⟨_, rfl⟩
      have hxs : x.s.size ≤ 100000 := by rw [← hx]; exact Nat.le_trans (pieceW_size s) hsb
      have HPF : Hid (∀ e, PieceEnd s e → e = .returned (.tuple #[.agg #[.int .u8 x.k, .string x.s, .bool x.c], .bool ok])) := fun e h => by rw [h.of, hok, hx]
      rw [hx] at hS
      clear hx hok
      obtain ⟨xk, xs, xc⟩ := x
      have hol := bulk_len out
      have HLO := Lib.hid (show out.length ≤ 100000 by omega)
      have HLP := Lib.hid (show (addP out spX).length ≤ 100000 by have := addP_len out spX; omega)
      have HM1 := Lib.hid (show ∀ y ∈ out, y.s.size + xs.size ≤ 1000000000 from fun y hy => by have := mem_bulk hy; simp at hxs; omega)
      have HM2 := Lib.hid (show ∀ y ∈ addP out spX, y.s.size + xs.size ≤ 1000000000 from fun y hy => by have := addP_mem hy; have h1 : spX.s.size = 1 := rfl; simp at hxs; omega)
      have HM3 := Lib.hid (show ∀ y ∈ out, y.s.size + spX.s.size ≤ 1000000000 from fun y hy => by have := mem_bulk hy; have h1 : spX.s.size = 1 := rfl; omega)
      have cT := fun w2 => refTag_any xk w2
      have hU : (decide (xk = 2) || decide (xk = 3) || decide (xk = 4)) = isTagB ⟨xk, xs, xc⟩ := rfl
      rw [hU] at cT
      obtain ⟨ao, ca, rfl⟩ := HK.out.form
      obtain ⟨E, hE⟩ : ∃ E, last.toList.isEmpty = E := ⟨_, rfl⟩
      have hEb : isE last = E := hE
      unfold spStep at hS
      dsimp only at hS
      rw [hEb] at hS
      clear hU hEb hol hbo HQ
      have HKo := Lib.hid (fun b (e : (Value.slice ao out.length ca).ownBlock = some b) => (World.ownsRow.lt HK.out b e).2)
      have cS : ∀ v' w', OwnP w.heap.size v' out w' → w.heap.size ≤ w'.heap.size → Calls Tryz.prog 109 #[v', .agg #[.int .u8 1, .string ⟨#[32]⟩, .bool false]] w' fun e w1 => ∃ u, e = .returned u ∧ OwnP w.heap.size u (addP out spX) w1 ∧ Below w.heap.size w' w1 ∧ BesideOwn w' w1 v' := fun v' w' hO hB => refAdd_any w.heap.size out spX v' w' hO hB HLO.out HM3.out
      have cX0 : ∀ v' w', OwnP w.heap.size v' out w' → w.heap.size ≤ w'.heap.size → Calls Tryz.prog 109 #[v', .agg #[.int .u8 xk, .string xs, .bool xc]] w' fun e w1 => ∃ u, e = .returned u ∧ OwnP w.heap.size u (addP out ⟨xk, xs, xc⟩) w1 ∧ Below w.heap.size w' w1 ∧ BesideOwn w' w1 v' := fun v' w' hO hB => refAdd_any w.heap.size out ⟨xk, xs, xc⟩ v' w' hO hB HLO.out HM1.out
      have cX1 : ∀ v' w', OwnP w.heap.size v' (addP out spX) w' → w.heap.size ≤ w'.heap.size → Calls Tryz.prog 109 #[v', .agg #[.int .u8 xk, .string xs, .bool xc]] w' fun e w1 => ∃ u, e = .returned u ∧ OwnP w.heap.size u (addP (addP out spX) ⟨xk, xs, xc⟩) w1 ∧ Below w.heap.size w' w1 ∧ BesideOwn w' w1 v' := fun v' w' hO hB => refAdd_any w.heap.size (addP out spX) ⟨xk, xs, xc⟩ v' w' hO hB HLP.out HM2.out
      dsimp only at HPF
      clear HLO HLP HM1 HM2 HM3 hxs
      generalize isTagB ⟨xk, xs, xc⟩ = tg at hS cT
      cases tg
      · have cA := fun w2 => refApart_any last s w2
        cases E
        · cases blank
          · cases hap : apartB last s
            · rw [hap] at hS cA
              simp only [Bool.false_eq_true, if_false, and_false] at hS
              have HS := Lib.hid hS
              clear hS
              go_wp2_with (first
                | (go_at_call 55; (with_reducible refine cP.mono ?_); rintro e w2 ⟨he2, hb2⟩; obtain rfl := HPF.out _ he2; have HB2 := Lib.hid (below_next HB.out hb2); have HBc := Lib.hid (below_next HB2.out (below_box (w := w2) (.cells #[.int .u8 xk, .string xs, .bool xc] 56))); have HKc := Lib.hid ((HK.out.step hb2).step (below_box (w := w2) (.cells #[.int .u8 xk, .string xs, .bool xc] 56))); have HXc : Hid (Boxed w2.heap.size ⟨xk, xs, xc⟩ (w2.alloc (.cells #[.int .u8 xk, .string xs, .bool xc] 56))) := Boxed.new w2 ⟨xk, xs, xc⟩; have HNE : Hid ((Value.slice ao out.length ca).ownBlock ≠ some w2.heap.size) := (fun e => by have h1 := (HKo.out _ e); have h2 := hb2.size; omega); obtain ⟨b0, b1, b2, _⟩ := HXc.out; have y0 := XC.out _ HBc.out; clear he2 hb2)
                | (go_at_call 63; (with_reducible refine (cT _).mono ?_); rintro e w9 ⟨rfl, hw⟩; obtain rfl := hw.symm)
                | (go_at_call 108; (with_reducible refine (cA _).mono ?_); rintro e w4 ⟨rfl, hb4⟩; replace HKc := Lib.hid (HKc.out.step hb4); replace HXc := Lib.hid (HXc.out.step hb4); replace HBc := Lib.hid (below_next HBc.out hb4); clear b0 b1 b2 y0; obtain ⟨b0, b1, b2, _⟩ := HXc.out; have y0 := XC.out _ HBc.out; clear hb4)
                | (go_at_call 109; (with_reducible refine (cX0 _ _ HKc.out HBc.out.size).mono ?_); rintro e w6 ⟨v6, rfl, hO6, hb6, _⟩; have HB6 := Lib.hid (HBc.out.trans hb6); have HK6 := Lib.hid hO6; have z0 := XC.out _ HB6.out; clear hO6 hb6))
              go_roundw
              case rel => exact ⟨k + 1, _, _, _, by omega, by go_num, rfl, rfl, HS.out, HK6.out, HB6.out⟩
              case measure => simp [RowKit.intOf]; omega
            · rw [hap] at hS cA
              simp only [Bool.false_eq_true, if_false, and_self, if_true] at hS
              have HS := Lib.hid hS
              clear hS
              go_wp2_with (first
                | (go_at_call 55; (with_reducible refine cP.mono ?_); rintro e w2 ⟨he2, hb2⟩; obtain rfl := HPF.out _ he2; have HB2 := Lib.hid (below_next HB.out hb2); have HBc := Lib.hid (below_next HB2.out (below_box (w := w2) (.cells #[.int .u8 xk, .string xs, .bool xc] 56))); have HKc := Lib.hid ((HK.out.step hb2).step (below_box (w := w2) (.cells #[.int .u8 xk, .string xs, .bool xc] 56))); have HXc : Hid (Boxed w2.heap.size ⟨xk, xs, xc⟩ (w2.alloc (.cells #[.int .u8 xk, .string xs, .bool xc] 56))) := Boxed.new w2 ⟨xk, xs, xc⟩; have HNE : Hid ((Value.slice ao out.length ca).ownBlock ≠ some w2.heap.size) := (fun e => by have h1 := (HKo.out _ e); have h2 := hb2.size; omega); obtain ⟨b0, b1, b2, _⟩ := HXc.out; have y0 := XC.out _ HBc.out; clear he2 hb2)
                | (go_at_call 63; (with_reducible refine (cT _).mono ?_); rintro e w9 ⟨rfl, hw⟩; obtain rfl := hw.symm)
                | (go_at_call 108; (with_reducible refine (cA _).mono ?_); rintro e w4 ⟨rfl, hb4⟩; replace HKc := Lib.hid (HKc.out.step hb4); replace HXc := Lib.hid (HXc.out.step hb4); replace HBc := Lib.hid (below_next HBc.out hb4); clear b0 b1 b2 y0; obtain ⟨b0, b1, b2, _⟩ := HXc.out; have y0 := XC.out _ HBc.out; clear hb4)
                | (go_at_call 109; (with_reducible refine (cS _ _ HKc.out HBc.out.size).mono ?_); rintro e w5 ⟨v5, rfl, hO5, hb5, hbo⟩; have HXs := Lib.hid (HXc.out.beside hbo hb5.size HNE.out); have HBs := Lib.hid (HBc.out.trans hb5); have HKs := Lib.hid hO5; clear b0 b1 b2 y0; obtain ⟨b0, b1, b2, _⟩ := HXs.out; have y0 := XC.out _ HBs.out; obtain ⟨ao5, ca5, rfl⟩ := hO5.form; clear hO5 hb5 hbo cS)
                | (go_at_call 109; (with_reducible refine (cX1 _ _ HKs.out HBs.out.size).mono ?_); rintro e w6 ⟨v6, rfl, hO6, hb6, _⟩; have HB6 := Lib.hid (HBs.out.trans hb6); have HK6 := Lib.hid hO6; have z0 := XC.out _ HB6.out; clear hO6 hb6))
              go_roundw
              case rel => exact ⟨k + 1, _, _, _, by omega, by go_num, rfl, rfl, HS.out, HK6.out, HB6.out⟩
              case measure => simp [RowKit.intOf]; omega
          · simp only [Bool.false_eq_true, Bool.true_eq_false, if_false, and_false, false_and] at hS
            have HS := Lib.hid hS
            clear hS
            go_wp2_with (first
              | (go_at_call 55; (with_reducible refine cP.mono ?_); rintro e w2 ⟨he2, hb2⟩; obtain rfl := HPF.out _ he2; have HB2 := Lib.hid (below_next HB.out hb2); have HBc := Lib.hid (below_next HB2.out (below_box (w := w2) (.cells #[.int .u8 xk, .string xs, .bool xc] 56))); have HKc := Lib.hid ((HK.out.step hb2).step (below_box (w := w2) (.cells #[.int .u8 xk, .string xs, .bool xc] 56))); have HXc : Hid (Boxed w2.heap.size ⟨xk, xs, xc⟩ (w2.alloc (.cells #[.int .u8 xk, .string xs, .bool xc] 56))) := Boxed.new w2 ⟨xk, xs, xc⟩; have HNE : Hid ((Value.slice ao out.length ca).ownBlock ≠ some w2.heap.size) := (fun e => by have h1 := (HKo.out _ e); have h2 := hb2.size; omega); obtain ⟨b0, b1, b2, _⟩ := HXc.out; have y0 := XC.out _ HBc.out; clear he2 hb2)
              | (go_at_call 63; (with_reducible refine (cT _).mono ?_); rintro e w9 ⟨rfl, hw⟩; obtain rfl := hw.symm)
              | (go_at_call 109; (with_reducible refine (cX0 _ _ HKc.out HBc.out.size).mono ?_); rintro e w6 ⟨v6, rfl, hO6, hb6, _⟩; have HB6 := Lib.hid (HBc.out.trans hb6); have HK6 := Lib.hid hO6; have z0 := XC.out _ HB6.out; clear hO6 hb6))
            go_roundw
            case rel => exact ⟨k + 1, _, _, _, by omega, by go_num, rfl, rfl, HS.out, HK6.out, HB6.out⟩
            case measure => simp [RowKit.intOf]; omega
        · simp only [Bool.false_eq_true, Bool.true_eq_false, if_false, false_and] at hS
          have HS := Lib.hid hS
          clear hS
          go_wp2_with (first
            | (go_at_call 55; (with_reducible refine cP.mono ?_); rintro e w2 ⟨he2, hb2⟩; obtain rfl := HPF.out _ he2; have HB2 := Lib.hid (below_next HB.out hb2); have HBc := Lib.hid (below_next HB2.out (below_box (w := w2) (.cells #[.int .u8 xk, .string xs, .bool xc] 56))); have HKc := Lib.hid ((HK.out.step hb2).step (below_box (w := w2) (.cells #[.int .u8 xk, .string xs, .bool xc] 56))); have HXc : Hid (Boxed w2.heap.size ⟨xk, xs, xc⟩ (w2.alloc (.cells #[.int .u8 xk, .string xs, .bool xc] 56))) := Boxed.new w2 ⟨xk, xs, xc⟩; have HNE : Hid ((Value.slice ao out.length ca).ownBlock ≠ some w2.heap.size) := (fun e => by have h1 := (HKo.out _ e); have h2 := hb2.size; omega); obtain ⟨b0, b1, b2, _⟩ := HXc.out; have y0 := XC.out _ HBc.out; clear he2 hb2)
            | (go_at_call 63; (with_reducible refine (cT _).mono ?_); rintro e w9 ⟨rfl, hw⟩; obtain rfl := hw.symm)
            | (go_at_call 109; (with_reducible refine (cX0 _ _ HKc.out HBc.out.size).mono ?_); rintro e w6 ⟨v6, rfl, hO6, hb6, _⟩; have HB6 := Lib.hid (HBc.out.trans hb6); have HK6 := Lib.hid hO6; have z0 := XC.out _ HB6.out; clear hO6 hb6))
          go_roundw
          case rel => exact ⟨k + 1, _, _, _, by omega, by go_num, rfl, rfl, HS.out, HK6.out, HB6.out⟩
          case measure => simp [RowKit.intOf]; omega
      · by_cases h3 : xk = 3
        · subst h3
          simp only [ne_eq, not_true_eq_false, false_and, if_false, if_true] at hS
          have HS := Lib.hid hS
          clear hS
          go_wp2_with (first
            | (go_at_call 55; (with_reducible refine cP.mono ?_); rintro e w2 ⟨he2, hb2⟩; obtain rfl := HPF.out _ he2; have HB2 := Lib.hid (below_next HB.out hb2); have HBc := Lib.hid (below_next HB2.out (below_box (w := w2) (.cells #[.int .u8 3, .string xs, .bool xc] 56))); have HKc := Lib.hid ((HK.out.step hb2).step (below_box (w := w2) (.cells #[.int .u8 3, .string xs, .bool xc] 56))); have HXc : Hid (Boxed w2.heap.size ⟨3, xs, xc⟩ (w2.alloc (.cells #[.int .u8 3, .string xs, .bool xc] 56))) := Boxed.new w2 ⟨3, xs, xc⟩; have HNE : Hid ((Value.slice ao out.length ca).ownBlock ≠ some w2.heap.size) := (fun e => by have h1 := (HKo.out _ e); have h2 := hb2.size; omega); obtain ⟨b0, b1, b2, _⟩ := HXc.out; have y0 := XC.out _ HBc.out; clear he2 hb2)
            | (go_at_call 63; (with_reducible refine (cT _).mono ?_); rintro e w9 ⟨rfl, hw⟩; obtain rfl := hw.symm)
            | (go_at_call 109; (with_reducible refine (cX0 _ _ HKc.out HBc.out.size).mono ?_); rintro e w6 ⟨v6, rfl, hO6, hb6, _⟩; have HB6 := Lib.hid (HBc.out.trans hb6); have HK6 := Lib.hid hO6; have z0 := XC.out _ HB6.out; clear hO6 hb6))
          go_roundw
          case rel => exact ⟨k + 1, _, _, _, by omega, by go_num, rfl, rfl, HS.out, HK6.out, HB6.out⟩
          case measure => simp [RowKit.intOf]; omega
        · have h3b : (xk == 3) = false := by simpa using h3
          have h3c : (xk != 3) = true := by simpa using h3
          cases E
          · cases blank
            · generalize behindW ws k = nx at cN hS
              have cA := fun w2 => refApart_any last nx w2
              obtain ⟨EN, hEN⟩ : ∃ EN, nx.toList.isEmpty = EN := ⟨_, rfl⟩
              have hEb : isE nx = EN := hEN
              rw [hEb] at hS
              clear hEb
              cases EN
              · cases hap : apartB last nx
                · rw [hap] at hS cA
                  simp only [ne_eq, h3, not_false_eq_true, and_self, if_true, Bool.false_eq_true, and_false, if_false] at hS
                  have HS := Lib.hid hS
                  clear hS
                  go_wp2_with (first
                    | (go_at_call 55; (with_reducible refine cP.mono ?_); rintro e w2 ⟨he2, hb2⟩; obtain rfl := HPF.out _ he2; have HB2 := Lib.hid (below_next HB.out hb2); have HBc := Lib.hid (below_next HB2.out (below_box (w := w2) (.cells #[.int .u8 xk, .string xs, .bool xc] 56))); have HKc := Lib.hid ((HK.out.step hb2).step (below_box (w := w2) (.cells #[.int .u8 xk, .string xs, .bool xc] 56))); have HXc : Hid (Boxed w2.heap.size ⟨xk, xs, xc⟩ (w2.alloc (.cells #[.int .u8 xk, .string xs, .bool xc] 56))) := Boxed.new w2 ⟨xk, xs, xc⟩; have HNE : Hid ((Value.slice ao out.length ca).ownBlock ≠ some w2.heap.size) := (fun e => by have h1 := (HKo.out _ e); have h2 := hb2.size; omega); obtain ⟨b0, b1, b2, _⟩ := HXc.out; have y0 := XC.out _ HBc.out; clear he2 hb2)
                    | (go_at_call 63; (with_reducible refine (cT _).mono ?_); rintro e w9 ⟨rfl, hw⟩; obtain rfl := hw.symm)
                    | (go_at_call 107; (with_reducible refine (cN _ HBc.out).mono ?_); rintro e w3 ⟨rfl, hb3⟩; replace HKc := Lib.hid (HKc.out.step hb3); replace HXc := Lib.hid (HXc.out.step hb3); replace HBc := Lib.hid (below_next HBc.out hb3); clear b0 b1 b2 y0; obtain ⟨b0, b1, b2, _⟩ := HXc.out; have y0 := XC.out _ HBc.out; clear hb3)
                    | (go_at_call 108; (with_reducible refine (cA _).mono ?_); rintro e w4 ⟨rfl, hb4⟩; replace HKc := Lib.hid (HKc.out.step hb4); replace HXc := Lib.hid (HXc.out.step hb4); replace HBc := Lib.hid (below_next HBc.out hb4); clear b0 b1 b2 y0; obtain ⟨b0, b1, b2, _⟩ := HXc.out; have y0 := XC.out _ HBc.out; clear hb4)
                    | (go_at_call 109; (with_reducible refine (cX0 _ _ HKc.out HBc.out.size).mono ?_); rintro e w6 ⟨v6, rfl, hO6, hb6, _⟩; have HB6 := Lib.hid (HBc.out.trans hb6); have HK6 := Lib.hid hO6; have z0 := XC.out _ HB6.out; clear hO6 hb6))
                  go_roundw
                  case rel => exact ⟨k + 1, _, _, _, by omega, by go_num, rfl, rfl, HS.out, HK6.out, HB6.out⟩
                  case measure => simp [RowKit.intOf]; omega
                · rw [hap] at hS cA
                  simp only [ne_eq, h3, not_false_eq_true, and_self, if_true] at hS
                  have HS := Lib.hid hS
                  clear hS
                  go_wp2_with (first
                    | (go_at_call 55; (with_reducible refine cP.mono ?_); rintro e w2 ⟨he2, hb2⟩; obtain rfl := HPF.out _ he2; have HB2 := Lib.hid (below_next HB.out hb2); have HBc := Lib.hid (below_next HB2.out (below_box (w := w2) (.cells #[.int .u8 xk, .string xs, .bool xc] 56))); have HKc := Lib.hid ((HK.out.step hb2).step (below_box (w := w2) (.cells #[.int .u8 xk, .string xs, .bool xc] 56))); have HXc : Hid (Boxed w2.heap.size ⟨xk, xs, xc⟩ (w2.alloc (.cells #[.int .u8 xk, .string xs, .bool xc] 56))) := Boxed.new w2 ⟨xk, xs, xc⟩; have HNE : Hid ((Value.slice ao out.length ca).ownBlock ≠ some w2.heap.size) := (fun e => by have h1 := (HKo.out _ e); have h2 := hb2.size; omega); obtain ⟨b0, b1, b2, _⟩ := HXc.out; have y0 := XC.out _ HBc.out; clear he2 hb2)
                    | (go_at_call 63; (with_reducible refine (cT _).mono ?_); rintro e w9 ⟨rfl, hw⟩; obtain rfl := hw.symm)
                    | (go_at_call 107; (with_reducible refine (cN _ HBc.out).mono ?_); rintro e w3 ⟨rfl, hb3⟩; replace HKc := Lib.hid (HKc.out.step hb3); replace HXc := Lib.hid (HXc.out.step hb3); replace HBc := Lib.hid (below_next HBc.out hb3); clear b0 b1 b2 y0; obtain ⟨b0, b1, b2, _⟩ := HXc.out; have y0 := XC.out _ HBc.out; clear hb3)
                    | (go_at_call 108; (with_reducible refine (cA _).mono ?_); rintro e w4 ⟨rfl, hb4⟩; replace HKc := Lib.hid (HKc.out.step hb4); replace HXc := Lib.hid (HXc.out.step hb4); replace HBc := Lib.hid (below_next HBc.out hb4); clear b0 b1 b2 y0; obtain ⟨b0, b1, b2, _⟩ := HXc.out; have y0 := XC.out _ HBc.out; clear hb4)
                    | (go_at_call 109; (with_reducible refine (cS _ _ HKc.out HBc.out.size).mono ?_); rintro e w5 ⟨v5, rfl, hO5, hb5, hbo⟩; have HXs := Lib.hid (HXc.out.beside hbo hb5.size HNE.out); have HBs := Lib.hid (HBc.out.trans hb5); have HKs := Lib.hid hO5; clear b0 b1 b2 y0; obtain ⟨b0, b1, b2, _⟩ := HXs.out; have y0 := XC.out _ HBs.out; obtain ⟨ao5, ca5, rfl⟩ := hO5.form; clear hO5 hb5 hbo cS)
                    | (go_at_call 109; (with_reducible refine (cX1 _ _ HKs.out HBs.out.size).mono ?_); rintro e w6 ⟨v6, rfl, hO6, hb6, _⟩; have HB6 := Lib.hid (HBs.out.trans hb6); have HK6 := Lib.hid hO6; have z0 := XC.out _ HB6.out; clear hO6 hb6))
                  go_roundw
                  case rel => exact ⟨k + 1, _, _, _, by omega, by go_num, rfl, rfl, HS.out, HK6.out, HB6.out⟩
                  case measure => simp [RowKit.intOf]; omega
              · simp only [ne_eq, h3, not_false_eq_true, and_self, if_true, Bool.true_eq_false, false_and, if_false] at hS
                have HS := Lib.hid hS
                clear hS
                go_wp2_with (first
                  | (go_at_call 55; (with_reducible refine cP.mono ?_); rintro e w2 ⟨he2, hb2⟩; obtain rfl := HPF.out _ he2; have HB2 := Lib.hid (below_next HB.out hb2); have HBc := Lib.hid (below_next HB2.out (below_box (w := w2) (.cells #[.int .u8 xk, .string xs, .bool xc] 56))); have HKc := Lib.hid ((HK.out.step hb2).step (below_box (w := w2) (.cells #[.int .u8 xk, .string xs, .bool xc] 56))); have HXc : Hid (Boxed w2.heap.size ⟨xk, xs, xc⟩ (w2.alloc (.cells #[.int .u8 xk, .string xs, .bool xc] 56))) := Boxed.new w2 ⟨xk, xs, xc⟩; have HNE : Hid ((Value.slice ao out.length ca).ownBlock ≠ some w2.heap.size) := (fun e => by have h1 := (HKo.out _ e); have h2 := hb2.size; omega); obtain ⟨b0, b1, b2, _⟩ := HXc.out; have y0 := XC.out _ HBc.out; clear he2 hb2)
                  | (go_at_call 63; (with_reducible refine (cT _).mono ?_); rintro e w9 ⟨rfl, hw⟩; obtain rfl := hw.symm)
                  | (go_at_call 107; (with_reducible refine (cN _ HBc.out).mono ?_); rintro e w3 ⟨rfl, hb3⟩; replace HKc := Lib.hid (HKc.out.step hb3); replace HXc := Lib.hid (HXc.out.step hb3); replace HBc := Lib.hid (below_next HBc.out hb3); clear b0 b1 b2 y0; obtain ⟨b0, b1, b2, _⟩ := HXc.out; have y0 := XC.out _ HBc.out; clear hb3)
                  | (go_at_call 109; (with_reducible refine (cX0 _ _ HKc.out HBc.out.size).mono ?_); rintro e w6 ⟨v6, rfl, hO6, hb6, _⟩; have HB6 := Lib.hid (HBc.out.trans hb6); have HK6 := Lib.hid hO6; have z0 := XC.out _ HB6.out; clear hO6 hb6))
                go_roundw
                case rel => exact ⟨k + 1, _, _, _, by omega, by go_num, rfl, rfl, HS.out, HK6.out, HB6.out⟩
                case measure => simp [RowKit.intOf]; omega
            · simp only [Bool.true_eq_false, and_false, if_false, if_true] at hS
              have HS := Lib.hid hS
              clear hS
              go_wp2_with (first
                | (go_at_call 55; (with_reducible refine cP.mono ?_); rintro e w2 ⟨he2, hb2⟩; obtain rfl := HPF.out _ he2; have HB2 := Lib.hid (below_next HB.out hb2); have HBc := Lib.hid (below_next HB2.out (below_box (w := w2) (.cells #[.int .u8 xk, .string xs, .bool xc] 56))); have HKc := Lib.hid ((HK.out.step hb2).step (below_box (w := w2) (.cells #[.int .u8 xk, .string xs, .bool xc] 56))); have HXc : Hid (Boxed w2.heap.size ⟨xk, xs, xc⟩ (w2.alloc (.cells #[.int .u8 xk, .string xs, .bool xc] 56))) := Boxed.new w2 ⟨xk, xs, xc⟩; have HNE : Hid ((Value.slice ao out.length ca).ownBlock ≠ some w2.heap.size) := (fun e => by have h1 := (HKo.out _ e); have h2 := hb2.size; omega); obtain ⟨b0, b1, b2, _⟩ := HXc.out; have y0 := XC.out _ HBc.out; clear he2 hb2)
                | (go_at_call 63; (with_reducible refine (cT _).mono ?_); rintro e w9 ⟨rfl, hw⟩; obtain rfl := hw.symm)
                | (go_at_call 109; (with_reducible refine (cX0 _ _ HKc.out HBc.out.size).mono ?_); rintro e w6 ⟨v6, rfl, hO6, hb6, _⟩; have HB6 := Lib.hid (HBc.out.trans hb6); have HK6 := Lib.hid hO6; have z0 := XC.out _ HB6.out; clear hO6 hb6))
              go_roundw
              case rel => exact ⟨k + 1, _, _, _, by omega, by go_num, rfl, rfl, HS.out, HK6.out, HB6.out⟩
              case measure => simp [RowKit.intOf]; omega
          · simp only [Bool.true_eq_false, and_false, false_and, if_false, if_true] at hS
            have HS := Lib.hid hS
            clear hS
            go_wp2_with (first
              | (go_at_call 55; (with_reducible refine cP.mono ?_); rintro e w2 ⟨he2, hb2⟩; obtain rfl := HPF.out _ he2; have HB2 := Lib.hid (below_next HB.out hb2); have HBc := Lib.hid (below_next HB2.out (below_box (w := w2) (.cells #[.int .u8 xk, .string xs, .bool xc] 56))); have HKc := Lib.hid ((HK.out.step hb2).step (below_box (w := w2) (.cells #[.int .u8 xk, .string xs, .bool xc] 56))); have HXc : Hid (Boxed w2.heap.size ⟨xk, xs, xc⟩ (w2.alloc (.cells #[.int .u8 xk, .string xs, .bool xc] 56))) := Boxed.new w2 ⟨xk, xs, xc⟩; have HNE : Hid ((Value.slice ao out.length ca).ownBlock ≠ some w2.heap.size) := (fun e => by have h1 := (HKo.out _ e); have h2 := hb2.size; omega); obtain ⟨b0, b1, b2, _⟩ := HXc.out; have y0 := XC.out _ HBc.out; clear he2 hb2)
              | (go_at_call 63; (with_reducible refine (cT _).mono ?_); rintro e w9 ⟨rfl, hw⟩; obtain rfl := hw.symm)
              | (go_at_call 109; (with_reducible refine (cX0 _ _ HKc.out HBc.out.size).mono ?_); rintro e w6 ⟨v6, rfl, hO6, hb6, _⟩; have HB6 := Lib.hid (HBc.out.trans hb6); have HK6 := Lib.hid hO6; have z0 := XC.out _ HB6.out; clear hO6 hb6))
            go_roundw
            case rel => exact ⟨k + 1, _, _, _, by omega, by go_num, rfl, rfl, HS.out, HK6.out, HB6.out⟩
            case measure => simp [RowKit.intOf]; omega
    · have hkl : k = ws.length := by omega
      have HX := Lib.hid (show OwnP w.heap.size _ (spacedL ws) wr by unfold spacedL; rw [← hkl, HQ.out]; exact HK.out)
      go_wp2
      go_ret
      exact ⟨⟨_, rfl, HX.out⟩, HB.out⟩
end Go.Proofs.YtnbeomclmggbiaaGreatDoor
namespace Go.Proofs.YtnbeomclmggbiaaGreatDoor
open Go Go.RowKit Go.Lib
set_option maxRecDepth 100000
noncomputable def fromE (ws : List ByteArray) : Int := if wordsE ws = 0 then (if 512 < (spacedL ws).length then 3 else 0) else wordsE ws
noncomputable def fromL (ws : List ByteArray) : List Pc := if fromE ws = 0 then spacedL ws else []
theorem fromE_bad {ws : List ByteArray} (h : wordsE ws ≠ 0) : fromE ws = wordsE ws ∧ fromL ws = [] := by
  have e : fromE ws = wordsE ws := by unfold fromE; rw [if_neg h]
  exact ⟨e, by unfold fromL; rw [e, if_neg h]⟩
theorem fromE_long {ws : List ByteArray} (h : wordsE ws = 0) (hl : 512 < (spacedL ws).length) : fromE ws = 3 ∧ fromL ws = [] := by
  have e : fromE ws = 3 := by unfold fromE; rw [if_pos h, if_pos hl]
  exact ⟨e, by unfold fromL; rw [e]; rfl⟩
theorem fromE_fine {ws : List ByteArray} (h : wordsE ws = 0) (hl : ¬ 512 < (spacedL ws).length) : fromE ws = 0 ∧ fromL ws = spacedL ws := by
  have e : fromE ws = 0 := by unfold fromE; rw [if_pos h, if_neg hl]
  exact ⟨e, by unfold fromL; rw [e]; rfl⟩
theorem wordsE_short {ws : List ByteArray} (h : wordsE ws = 0) : ¬ 512 < ws.length := by
  intro hl
  unfold wordsE at h
  rw [if_pos hl] at h
  exact absurd h (by decide)
/-- what FromWords returns -/
def FromEnd (B : Nat) (ws : List ByteArray) (e : Ending) (w' : World) : Prop := ∃ v, e = .returned (.tuple #[v, .int .u8 (fromE ws)]) ∧ OwnP B v (fromL ws) w'
set_option maxHeartbeats 8000000 in
theorem refFrom_any (ws : List ByteArray) (v : Value) (w : World) (hv : StrsAt w v ws) (hsz : ¬ 512 < ws.length → ∀ s ∈ ws, s.size ≤ 100000) (hbh : ¬ 512 < ws.length → bulk (holesL ws) ≤ 100000) (hbk : ¬ 512 < ws.length → ∀ k, k ≤ ws.length → bulk (spTo ws k).1 ≤ 50000) :
    Calls Tryz.prog 27 #[v] w fun e w' => FromEnd w.heap.size ws e w' ∧ Below w.heap.size w w' := by
  have cC := refCheckWords_any ws v w hv hsz hbh
  have HV := Lib.hid hv
  obtain ⟨ao, ca, rfl⟩ := hv.form
  clear hv
  by_cases h0 : wordsE ws = 0
  · have hs := wordsE_short h0
    have cS := fun w2 (h : Below w.heap.size w w2) => refSpaced_any ws _ w2 (HV.out.step h) (hsz hs) (by omega) (hbk hs)
    rw [h0] at cC
    clear hsz hbh hbk
    by_cases hl : 512 < (spacedL ws).length
    · have hlI : (512 : Int) < ((spacedL ws).length : Int) := by omega
      have HX := Lib.hid (fromE_long h0 hl)
      clear hl h0
      go_enter Tryz.func27, Tryz.ntmps27
      go_wp2_with (first
        | (go_at_call 23; (with_reducible refine cC.mono ?_); rintro e w2 ⟨rfl, hb2⟩; have HB2 := Lib.hid hb2; clear hb2)
        | (go_at_call 60; (with_reducible refine (cS _ HB2.out).mono ?_); rintro e w3 ⟨⟨u, rfl, hO⟩, hb3⟩; have HB3 := Lib.hid (below_next HB2.out hb3); obtain ⟨ao3, ca3, rfl⟩ := hO.form; clear hb3 hO))
      go_ret2
      exact ⟨⟨.slice none 0 0, by rw [HX.out.1]; rfl, by rw [HX.out.2]; exact OwnP.nil _ _⟩, HB3.out⟩
    · have hlI : ¬ (512 : Int) < ((spacedL ws).length : Int) := by omega
      have HX := Lib.hid (fromE_fine h0 hl)
      clear hl h0
      go_enter Tryz.func27, Tryz.ntmps27
      go_wp2_with (first
        | (go_at_call 23; (with_reducible refine cC.mono ?_); rintro e w2 ⟨rfl, hb2⟩; have HB2 := Lib.hid hb2; clear hb2)
        | (go_at_call 60; (with_reducible refine (cS _ HB2.out).mono ?_); rintro e w3 ⟨⟨u, rfl, hO⟩, hb3⟩; have HB3 := Lib.hid (below_next HB2.out hb3); obtain ⟨ao3, ca3, rfl⟩ := hO.form; have HO := Lib.hid (show OwnP w.heap.size _ (spacedL ws) w3 from ⟨hO.1, hO.2.imp id fun ⟨g, cap, cur, e, hg, r⟩ => ⟨g, cap, cur, e, Nat.le_trans HB2.out.size hg, r⟩⟩); clear hb3 hO))
      go_ret2
      exact ⟨⟨_, by rw [HX.out.1]; rfl, by rw [HX.out.2]; exact HO.out⟩, HB3.out⟩
  · obtain ⟨Z, hZ⟩ : ∃ Z, wordsE ws = Z := ⟨_, rfl⟩
    have HX := Lib.hid (fromE_bad h0)
    rw [hZ] at cC h0
    have HZ := Lib.hid hZ
    have hz : (Z == 0) = false := by simpa using h0
    clear hsz hbh hbk hZ h0
    go_enter Tryz.func27, Tryz.ntmps27
    go_wp2_with (go_at_call 23; (with_reducible refine cC.mono ?_); rintro e w2 ⟨rfl, hb2⟩; have HB2 := Lib.hid hb2; clear hb2)
    go_ret2
    exact ⟨⟨.slice none 0 0, by rw [HX.out.1, HZ.out]; rfl, by rw [HX.out.2]; exact OwnP.nil _ _⟩, HB2.out⟩
end Go.Proofs.YtnbeomclmggbiaaGreatDoor
