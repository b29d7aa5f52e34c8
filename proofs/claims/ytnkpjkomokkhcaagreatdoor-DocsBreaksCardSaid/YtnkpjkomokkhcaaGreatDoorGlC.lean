/- Glue by the specification: what a part closes and opens between parts. Glue, by the specification. the guard on sizes, over several lists. each unit and each tag by itself, by the specification. the units of a list, by the specification. -/
import Derived.Test.YtnkpjkomokkhcaaGreatDoorGlB
import Derived.Test.YtnkpjkomokkhcaaGreatDoorDqA
namespace Go.Proofs.YtnkpjkomokkhcaaGreatDoor
open Go Go.RowKit Go.Lib
set_option maxRecDepth 100000
theorem own_beside {u v : Value} (h : ∀ g, u.ownBlock = some g → v.ownBlock = some g → False) : u.ownBlock = none ∨ u.ownBlock ≠ v.ownBlock := by
  cases hu : u.ownBlock with
  | none => exact .inl rfl
  | some g => exact .inr (fun e => h g hu e.symm)
theorem runC_nonzero {l : List Pc} : ∀ {n : Nat} {z : Int}, runC l n = .error z → z ≠ 0 := by
  intro n
  induction n with
  | zero => intro z h; simp [runC] at h
  | succ n ih =>
    intro z h hz
    subst hz
    simp only [runC] at h
    cases e : runC l n with
    | error x =>
      rw [e] at h
      exact ih (z := 0) (by rw [e]; exact h) rfl
    | ok o =>
      rw [e] at h
      have hop' : (if hereE l n ≠ 0 then Except.error (hereE l n) else folE o (l.getD n nil)) = Except.error 0 := h
      split at hop'
      · rename_i hh; injection hop' with h0; exact hh h0
      · unfold folE at hop'
        split at hop'
        · split at hop' <;> cases hop'
        · split at hop'
          · split at hop' <;> cases hop'
          · cases hop'
theorem own_lt {B : Nat} {v : Value} {l : List ByteArray} {w : World} (h : OwnS B v l w) {g : Nat} (hg : v.ownBlock = some g) : g < w.heap.size := by
  rcases h.2 with ⟨rfl, _⟩ | ⟨g', cap, cur, rfl, _, hh, _⟩
  · simp [Value.ownBlock] at hg
  · simp only [Value.ownBlock, Option.some.injEq] at hg
    subst hg
    exact lt_of_block hh
theorem check_run {l : List Pc} (h : checkE l = 0) : ∃ op, runC l l.length = .ok op := by
  unfold checkE at h
  split at h
  · cases h
  · cases e : runC l l.length with
    | ok op => exact ⟨op, rfl⟩
    | error z =>
      rw [e] at h
      have hz : z = 0 := h
      exact absurd hz (runC_nonzero e)
/-- what opens once more stands ahead of all else -/
theorem co_first {l : List Pc} (h : checkE l = 0) : ∀ d k, k + d < l.length → coB (l.getD (k + d) nil) = true → coB (l.getD k nil) = true
  | 0, _, _, hc => hc
  | d + 1, k, hk, hc => by
    obtain ⟨op, hr⟩ := check_run h
    have hm := nbr_zero hr (k + d + 1) hk (by omega)
    rw [show k + d + 1 - 1 = k + d by omega] at hm
    have : coB (l.getD (k + d) nil) = true := by
      unfold misB at hm
      have hc' : coB (l.getD (k + d + 1) nil) = true := hc
      rw [hc'] at hm
      cases e : coB (l.getD (k + d) nil)
      · rw [e] at hm; simp at hm
      · rfl
    exact co_first h d k (by omega) this
theorem closes_none {l : List Pc} (h : checkE l = 0) {k : Nat} (hk : k < l.length) (hc : coB (l.getD k nil) = true) : closesL (l.take k) = [] := by
  unfold closesL
  rw [List.filter_eq_nil_iff.2 (fun x hx => ?_)]
  · rfl
  · obtain ⟨j, hj, rfl⟩ := List.getElem_of_mem hx
    rw [List.length_take] at hj
    have h1 := co_first h (k - j) j (by omega) (by rw [show j + (k - j) = k by omega]; exact hc)
    rw [List.getD_eq_getElem?_getD, List.getElem?_eq_getElem (by omega)] at h1
    rw [List.getElem_take]
    have h2 : coB l[j] = true := h1
    unfold coB at h2
    unfold ccB
    simp only [Bool.and_eq_true, decide_eq_true_eq] at h2 ⊢
    omega
set_option maxHeartbeats 16000000 in
theorem refEnds_any (l : List Pc) (v : Value) (w : World) (hv : PcsAt w v l) (hz : checkE l = 0) (hl5 : l.length ≤ 3000) :
    Calls Tryz.prog 48 #[v] w fun e w' => (∃ (a b : Option Addr × Nat), e = .returned (.tuple #[.slice a.1 (closesL l).length a.2, .slice b.1 (opensL l).length b.2]) ∧ WsAt w' (.slice a.1 (closesL l).length a.2) (closesL l).length (fun j => (closesL l).getD j ByteArray.empty) ∧ WsAt w' (.slice b.1 (opensL l).length b.2) (opensL l).length (fun j => (opensL l).getD j ByteArray.empty)) ∧ Below w.heap.size w w' := by
  obtain ⟨i0, hi, hz0, hz1, hz2⟩ := info_parts info_str
  have ag := Tryz.isAgg52
  have zg := Tryz.sizeOf52
  obtain ⟨p, cap, rfl, hlc, hcm, hrow⟩ := hv
  unfold maxLen at hcm
  have HR := Lib.hid hrow
  have HZ := Lib.hid (fun k (hk : k < l.length) (hc : coB (l.getD k nil) = true) => closes_none hz hk hc)
  clear hrow hz
  go_enter Tryz.func48, Tryz.ntmps48
  go_wp2
  go_loopw [4, 5, 6] (fun c o i wr => ∃ k B1 : Nat, k ≤ l.length ∧ i = .int .i64 k ∧ w.heap.size ≤ B1 ∧ B1 ≤ wr.heap.size ∧ Hid (OwnS B1 c (closesL (l.take k)) wr) ∧ Hid (OwnS w.heap.size o (opensL (l.take k)) wr) ∧ Hid (∀ g, o.ownBlock = some g → g < B1) ∧ Hid (closesL (l.take k) = [] → c = .slice none 0 0) ∧ Hid (Below w.heap.size w wr)) (fun _ _ i _ => l.length - (RowKit.intOf i).toNat)
  case atStart => exact ⟨0, w.heap.size, Nat.zero_le _, rfl, Nat.le_refl _, Nat.le_refl _, World.ownsRow_nil _ _ _ _, World.ownsRow_nil _ _ _ _, fun g h => by simp [Value.ownBlock] at h, fun _ => rfl, Below.refl _ _⟩
  case round =>
    obtain ⟨k, B1, hk, rfl, hwB, hB1, HC, HO, HOB, HCN, HB⟩ := hrel
    by_cases hlt : k < l.length
    · obtain ⟨A, rfl, hA, hcell⟩ := HR.out (by omega)
      obtain ⟨x0, x1, x2⟩ := pcs_cells hA hcell hlt HB.out
      have hT := closesL_succ hlt
      have hU := opensL_succ hlt
      have hV := HZ.out k hlt
      have hpl := closesL_len (l.take k)
      have hpo := opensL_len (l.take k)
      have htk : (l.take k).length ≤ l.length := by rw [List.length_take]; omega
      have hszw := HB.out.size
      have HX := Lib.hid (fun (w2 : World) (h2 : Below w.heap.size w w2) => pcs_cells hA hcell hlt h2)
      clear hcell
      generalize l.getD k nil = x at x0 x1 x2 hT hU hV HX
      generalize closesL (l.take k) = pc at HC HCN hT hV hpl
      generalize opensL (l.take k) = po at HO hU hpo
      obtain ⟨xk, xs, xc⟩ := x
      dsimp only at x0 x1 x2
      have hpre : pc.length ≤ 3000 := by omega
      have hpre2 : po.length ≤ 3000 := by omega
      have hki : (k : Int) < (l.length : Int) := by omega
      have hk0 : (0 : Int) ≤ (k : Int) := by omega
      obtain ⟨ao, ca, hfc⟩ := HC.out.form
      subst hfc
      obtain ⟨bo, cb, hfo⟩ := HO.out.form
      subst hfo
      cases xc
      · have HT2 := Lib.hid (show closesL (l.take (k + 1)) = pc by rw [hT]; simp [ccB])
        have HU2 := Lib.hid (show opensL (l.take (k + 1)) = po by rw [hU]; simp [coB])
        clear hT hU hV
        go_wp2
        go_roundw
        case rel => exact ⟨k + 1, B1, hlt, by go_num, hwB, hB1, by show OwnS _ _ _ _; rw [HT2.out]; exact HC.out, by show OwnS _ _ _ _; rw [HU2.out]; exact HO.out, HOB.out, by show _ → _; rw [HT2.out]; exact HCN.out, HB.out⟩
        case measure => simp [RowKit.intOf] <;> omega
      · by_cases h3 : xk = 3
        · subst h3
          have HT2 := Lib.hid (show closesL (l.take (k + 1)) = pc ++ [xs] by rw [hT]; simp [ccB])
          have HU2 := Lib.hid (show opensL (l.take (k + 1)) = po by rw [hU]; simp [coB])
          clear hT hU hV
          go_wp2_with (first
            | (at_builtin; have hown := HC.out; unfold OwnS at hown; refine wpList_append_own _ rfl _ _ 55 rfl B1 9 i0 (.string ⟨#[]⟩) 1 16 Tryz.underlying55 hi hz0 hz1 hz2 rfl (by decide) _ _ _ rfl (hown.alloc (.cells #[.string xs] 9)) _ 1 1 [.string xs] rfl rfl (cell_new1 _ _ _) (fun x hx => by simp at hx; subst hx; rfl) (by unfold maxLen; omega) (by omega) (by simp; omega) ?_; intro v6 w6 hown6 hgrow6 hnil6
               have HB6 := Lib.hid ((HB.out.alloc hszw (.cells #[.string xs] 9)).grown hgrow6 (by simp; omega) (fun k hk => Nat.le_trans hwB (hown.lt k hk).1))
               have HC6 := Lib.hid (show OwnS B1 v6 (pc ++ [xs]) w6 by unfold OwnS; rw [List.length_append, List.map_append]; exact hown6)
               have HO6 := Lib.hid (show OwnS w.heap.size _ po w6 from World.ownsRow.kept (HO.out.alloc (.cells #[.string xs] 9)) hgrow6 (by
                 refine own_beside fun g hg hg2 => ?_
                 have h1 := HOB.out g hg
                 have h2 := (hown.lt g hg2).1
                 omega))
               have hsz6 : B1 ≤ w6.heap.size := Nat.le_trans (by simp; omega) hgrow6.size
               obtain ⟨y0, y1, y2⟩ := HX.out w6 HB6.out
               dsimp only at y0 y1 y2
               clear hown hown6 hgrow6 hnil6))
          go_roundw
          case rel => exact ⟨k + 1, B1, hlt, by go_num, hwB, hsz6, by show OwnS _ _ _ _; rw [HT2.out]; exact HC6.out, by show OwnS _ _ _ _; rw [HU2.out]; exact HO6.out, HOB.out, by show _ → _; rw [HT2.out]; intro h; simp at h, HB6.out⟩
          case measure => simp [RowKit.intOf] <;> omega
        · have h3b : (xk == 3) = false := by simpa using h3
          by_cases h2 : xk = 2
          · subst h2
            have hpc : pc = [] := hV (by simp [coB])
            have HT2 := Lib.hid (show closesL (l.take (k + 1)) = [] by rw [hT, hpc]; simp [ccB])
            have HU2 := Lib.hid (show opensL (l.take (k + 1)) = po ++ [xs] by rw [hU]; simp [coB])
            clear hT hU hV
            subst hpc
            have HN := HCN.out rfl
            simp only [Value.slice.injEq, List.length_nil, true_and] at HN
            obtain ⟨rfl, rfl⟩ := HN
            go_wp2_with (first
              | (at_builtin; have hown := HO.out; unfold OwnS at hown; refine wpList_append_own _ rfl _ _ 55 rfl w.heap.size 9 i0 (.string ⟨#[]⟩) 1 16 Tryz.underlying55 hi hz0 hz1 hz2 rfl (by decide) _ _ _ rfl (hown.alloc (.cells #[.string xs] 9)) _ 1 1 [.string xs] rfl rfl (cell_new1 _ _ _) (fun x hx => by simp at hx; subst hx; rfl) (by unfold maxLen; omega) (by omega) (by simp; omega) ?_; intro v6 w6 hown6 hgrow6 hnil6
                 have HB6 := Lib.hid ((HB.out.alloc hszw (.cells #[.string xs] 9)).grown hgrow6 (by simp; omega) (fun k hk => (hown.lt k hk).1))
                 have HO6 := Lib.hid (show OwnS w.heap.size v6 (po ++ [xs]) w6 by unfold OwnS; rw [List.length_append, List.map_append]; exact hown6)
                 have hsz6 : w.heap.size ≤ w6.heap.size := HB6.out.size
                 obtain ⟨y0, y1, y2⟩ := HX.out w6 HB6.out
                 dsimp only at y0 y1 y2
                 clear hown hown6 hgrow6 hnil6))
            go_roundw
            case rel => exact ⟨k + 1, w6.heap.size, hlt, by go_num, hsz6, Nat.le_refl _, by show OwnS _ _ _ _; rw [HT2.out]; exact World.ownsRow_nil _ _ _ _, by show OwnS _ _ _ _; rw [HU2.out]; exact HO6.out, fun g hg => own_lt HO6.out hg, by show _ → _; intro _; rfl, HB6.out⟩
            case measure => simp [RowKit.intOf] <;> omega
          · have h2b : (xk == 2) = false := by simpa using h2
            have HT2 := Lib.hid (show closesL (l.take (k + 1)) = pc by rw [hT]; simp [ccB, h3])
            have HU2 := Lib.hid (show opensL (l.take (k + 1)) = po by rw [hU]; simp [coB, h2])
            clear hT hU hV
            go_wp2
            go_roundw
            case rel => exact ⟨k + 1, B1, hlt, by go_num, hwB, hB1, by show OwnS _ _ _ _; rw [HT2.out]; exact HC.out, by show OwnS _ _ _ _; rw [HU2.out]; exact HO.out, HOB.out, by show _ → _; rw [HT2.out]; exact HCN.out, HB.out⟩
            case measure => simp [RowKit.intOf] <;> omega
    · obtain rfl : k = l.length := by omega
      rw [List.take_length] at HC HO
      have hki : ¬ (l.length : Int) < (l.length : Int) := by omega
      obtain ⟨ao, ca, hfc⟩ := HC.out.form
      subst hfc
      obtain ⟨bo, cb, hfo⟩ := HO.out.form
      subst hfo
      go_wp2
      go_ret2
      exact ⟨⟨ao, ca, bo, cb, rfl, WsAt.own HC.out, WsAt.own HO.out⟩, HB.out⟩
end Go.Proofs.YtnkpjkomokkhcaaGreatDoor
namespace Go.Proofs.YtnkpjkomokkhcaaGreatDoor
open Go Go.RowKit Go.Lib
set_option maxRecDepth 100000
theorem rev_of {C O : List ByteArray} (hl : C.length = O.length) (h : ∀ t, t < O.length → C.getD t ByteArray.empty = O.getD (O.length - 1 - t) ByteArray.empty) : C = O.reverse := by
  refine List.ext_getElem (by simpa using hl) fun i h1 h2 => ?_
  rw [List.getElem_reverse]
  have h3 := h i (by omega)
  rw [List.getD_eq_getElem?_getD, List.getD_eq_getElem?_getD, List.getElem?_eq_getElem h1, List.getElem?_eq_getElem (by omega)] at h3
  exact h3
theorem rev_not {C O : List ByteArray} {t : Nat} (ht : t < O.length) (h : C.getD t ByteArray.empty ≠ O.getD (O.length - 1 - t) ByteArray.empty) : C ≠ O.reverse := by
  intro e
  subst e
  apply h
  rw [List.getD_eq_getElem?_getD, List.getD_eq_getElem?_getD, List.getElem?_reverse ht]
theorem len_bulk (l : List Pc) : l.length ≤ bulk l := by unfold bulk; omega
theorem mem_bulk {l : List Pc} {y : Pc} (h : y ∈ l) : y.s.size ≤ bulk l := by
  obtain ⟨i, hi, rfl⟩ := List.getElem_of_mem h
  have h1 := bulk_get hi
  omega
theorem rev_len {C O : List ByteArray} (h : C.length ≠ O.length) : C ≠ O.reverse := by
  intro e
  subst e
  simp at h
set_option maxHeartbeats 64000000 in
theorem refGlue_any (ps : List (List Pc)) (v : Value) (w : World) (hp : PtsAt w v ps) (hn : ps.length ≤ 30) (hb : bulkPs ps ≤ 2500) :
    Calls Tryz.prog 13 #[v] w fun e w' => (∃ u, e = .returned (.tuple #[u, .int .u8 (glueE ps)]) ∧ OwnP 0 u (glueL ps) w') ∧ Below w.heap.size w w' := by
  have ag := Tryz.isAgg52
  have zg := Tryz.sizeOf52
  have HP := Lib.hid hp
  obtain ⟨p, cap, rfl, hlc, hcm⟩ := hp.form
  unfold maxLen at hcm
  clear hp
  have HGE : Hid (glueE ps = if ps.length = 0 then 1 else if checkPs ps ps.length ≠ 0 then checkPs ps ps.length else if fitPs ps (ps.length - 1) = false then 10 else if 512 < (gTo ps ps.length).length then 3 else 0) := rfl
  have HGL : Hid (glueL ps = if glueE ps = 0 then gTo ps ps.length else []) := rfl
  have HBK := Lib.hid (fun i (hi : i < ps.length) => Nat.le_trans (bulkPs_get hi) hb)
  by_cases h0 : ps.length = 0
  · have hE : glueE ps = 1 := by rw [HGE.out, if_pos h0]
    have hL : glueL ps = [] := by rw [HGL.out, if_neg (by rw [hE]; decide)]
    rw [hE, hL]
    have hi0 : ((ps.length : Int) == 0) = true := beq_iff_eq.2 (by omega)
    clear hE hL
    go_enter Tryz.func13, Tryz.ntmps13
    go_wp2
    go_ret2
    exact ⟨⟨_, rfl, OwnP.nil _ _⟩, Below.refl _ _⟩
  have hi0 : ((ps.length : Int) == 0) = false := beq_eq_false_iff_ne.2 (by omega)
  rw [if_neg h0] at HGE
  go_enter Tryz.func13, Tryz.ntmps13
  go_wp2
  go_loopw [4] (fun i wr => ∃ k : Nat, k ≤ ps.length ∧ i = .int .i64 k ∧ Hid (checkPs ps k = 0) ∧ Hid (Below w.heap.size w wr)) (fun i _ => ps.length - (RowKit.intOf i).toNat)
  case atStart => exact ⟨0, Nat.zero_le _, rfl, rfl, Below.refl _ _⟩
  case round =>
    obtain ⟨k, hk, rfl, HC, HB⟩ := hrel
    by_cases hlt : k < ps.length
    · obtain ⟨A, q, c, rfl, x0, hpc⟩ := HP.out.part HB.out hlt
      have hbk := HBK.out k hlt
      have cC := refCheck_any (ps.getD k []) _ wr hpc (by omega)
      have HS : Hid (checkPs ps (k + 1) = checkE (ps.getD k [])) := by
        show _ = _
        simp only [checkPs]
        rw [if_neg (by rw [HC.out]; simp)]
      have hki : (k : Int) < (ps.length : Int) := by omega
      have hk0 : (0 : Int) ≤ (k : Int) := by omega
      clear hpc
      by_cases hz : checkE (ps.getD k []) = 0
      · rw [hz] at cC HS
        clear hz
        generalize ps.getD k [] = part at x0 cC
        go_wp2_with (go_at_call 26; (with_reducible refine cC.mono ?_); rintro e w5 ⟨rfl, hb5⟩)
        go_roundw
        case rel => exact ⟨k + 1, hlt, by go_num, HS.out, below_next HB.out hb5⟩
        case measure => simp [RowKit.intOf] <;> omega
      · have hE : glueE ps = checkE (ps.getD k []) := by
          have h1 := checkPs_stuck (ps := ps) (k := k + 1) (by rw [HS.out]; exact hz) (ps.length - (k + 1))
          rw [show k + 1 + (ps.length - (k + 1)) = ps.length by omega, HS.out] at h1
          rw [HGE.out, if_pos (by rw [h1]; exact hz), h1]
        have hL : glueL ps = [] := by rw [HGL.out, if_neg (by rw [hE]; exact hz)]
        have HE2 := Lib.hid (And.intro hE hL)
        have hz2 : (checkE (ps.getD k []) != 0) = true := by simpa using hz
        clear hE hL hz HS
        generalize checkE (ps.getD k []) = Z at cC hz2 HE2
        generalize ps.getD k [] = part at x0 cC
        go_wp2_with (go_at_call 26; (with_reducible refine cC.mono ?_); rintro e w5 ⟨rfl, hb5⟩)
        go_ret2
        exact ⟨⟨.slice none 0 0, by rw [HE2.out.1]; rfl, by rw [HE2.out.2]; exact OwnP.nil _ _⟩, below_next HB.out hb5⟩
    · obtain rfl : k = ps.length := by omega
      have hki : ¬ (ps.length : Int) < (ps.length : Int) := by omega
      have hc0 := HC.out
      have HCZ := Lib.hid (checkPs_zero hc0)
      rw [if_neg (by rw [hc0]; simp)] at HGE
      have HB1 := Lib.hid HB.out
      clear hc0 hk hlt HC HB
      go_wp2
      go_loopw [6] (fun i wr => ∃ k : Nat, k ≤ ps.length - 1 ∧ i = .int .i64 ((k : Int) + 1) ∧ Hid (fitPs ps k = true) ∧ Hid (Below w.heap.size w wr)) (fun i _ => ps.length - (RowKit.intOf i).toNat)
      case atStart => exact ⟨0, Nat.zero_le _, rfl, rfl, HB1.out⟩
      case round =>
        clear HB1
        obtain ⟨k, hk, rfl, HF, HB⟩ := hrel
        by_cases hlt : k < ps.length - 1
        · obtain ⟨A, q, c, rfl, x0, hpa⟩ := HP.out.part HB.out (i := k) (by omega)
          obtain ⟨A2, q2, c2, e2, y0, hpb⟩ := HP.out.part HB.out (i := k + 1) (by omega)
          obtain rfl : A = A2 := by simpa using e2
          have hba := HBK.out k (by omega)
          have hbb := HBK.out (k + 1) (by omega)
          have hla : (ps.getD k []).length ≤ bulk (ps.getD k []) := by unfold bulk; omega
          have hlb : (ps.getD (k + 1) []).length ≤ bulk (ps.getD (k + 1) []) := by unfold bulk; omega
          have hza := HCZ.out k (by omega)
          have hzb := HCZ.out (k + 1) (by omega)
          have cE1 := fun W (h1 : Below wr.heap.size wr W) => refEnds_any (ps.getD k []) _ W (hpa.step h1) hza (by omega)
          have cE2 := fun W (h1 : Below wr.heap.size wr W) => refEnds_any (ps.getD (k + 1) []) _ W (hpb.step h1) hzb (by omega)
          have hk0 : (0 : Int) ≤ (k : Int) := by omega
          have hki2 : (k : Int) < (ps.length : Int) := by omega
          have hk10 : (0 : Int) ≤ (k : Int) + 1 := by omega
          have hk1i : (k : Int) + 1 < (ps.length : Int) := by omega
          have hS : fitPs ps (k + 1) = fitB (ps.getD k []) (ps.getD (k + 1) []) := by simp only [fitPs]; rw [HF.out]; rfl
          have HS : Hid (fitPs ps (k + 1) = decide (closesL (ps.getD k []) = (opensL (ps.getD (k + 1) [])).reverse)) := hS
          have hcn : (closesL (ps.getD k [])).length ≤ 3000 := by have := closesL_len (ps.getD k []); omega
          have hon : (opensL (ps.getD (k + 1) [])).length ≤ 3000 := by have := opensL_len (ps.getD (k + 1) []); omega
          clear hS hpa hpb hba hbb hla hlb hza hzb
          generalize closesL (ps.getD k []) = C at cE1 HS hcn
          generalize opensL (ps.getD k []) = O1 at cE1
          generalize closesL (ps.getD (k + 1) []) = C1 at cE2
          generalize opensL (ps.getD (k + 1) []) = O at cE2 HS hon
          generalize ps.getD k [] = pa at x0 cE1
          generalize ps.getD (k + 1) [] = pb at y0 cE2
          rw [show A.add (k + 1) = ({ block := A.block, off := A.off + (k + 1) } : Addr) by unfold Addr.add; simp] at y0
          have HE10 : Hid (fitPs ps (k + 1) = false → glueE ps = 10 ∧ glueL ps = []) := fun h => by
            have hE : glueE ps = 10 := by
              have h1 := fitPs_stuck (ps := ps) (k := k + 1) h (ps.length - 1 - (k + 1))
              rw [show k + 1 + (ps.length - 1 - (k + 1)) = ps.length - 1 by omega] at h1
              rw [HGE.out, if_pos h1]
            exact ⟨hE, by rw [HGL.out, if_neg (by rw [hE]; decide)]⟩
          by_cases hcl : C.length = O.length
          · have hclb : ((C.length : Int) != (O.length : Int)) = false := by rw [hcl]; simp
            rw [hcl] at cE1
            go_wp2_with (first
              | (go_at_call 48; (with_reducible refine (cE1 _ (Below.refl _ _)).mono ?_); rintro e w5 ⟨⟨⟨a5, d5⟩, ⟨b5, f5⟩, rfl, hc5, ho5⟩, hb5⟩; dsimp only; dsimp only at hc5; have y1 := (hb5.cell (World.block_lt_of_cell? wr _ y0)).trans y0; clear ho5)
              | (go_at_call 48; (with_reducible refine (cE2 _ hb5).mono ?_); rintro e w6 ⟨⟨⟨a6, d6⟩, ⟨b6, f6⟩, rfl, hc6, ho6⟩, hb6⟩; dsimp only; dsimp only at ho6; have HC6 := Lib.hid (hc5.step hb6); have HO6 := Lib.hid ho6; have HB6 := Lib.hid (below_next (below_next HB.out hb5) hb6); clear hc6 y1))
            have hn1 : IntKind.i64.wrap ((O.length : Int) - 1) = (O.length : Int) - 1 := by rw [IntKind.wrap_i64] <;> omega
            obtain ⟨wo, hwo⟩ : ∃ x, x = w6 := ⟨_, rfl⟩
            subst hwo
            go_loopw [12] (fun i wr => ∃ j : Nat, j ≤ O.length ∧ i = .int .i64 j ∧ Hid (∀ t, t < j → C.getD t ByteArray.empty = O.getD (O.length - 1 - t) ByteArray.empty) ∧ Hid (Below wo.heap.size wo wr)) (fun i _ => O.length - (RowKit.intOf i).toNat)
            case atStart => exact ⟨0, Nat.zero_le _, rfl, fun t ht => absurd ht (Nat.not_lt_zero _), Below.refl _ _⟩
            case round =>
              obtain ⟨j, hj, rfl, HS2, HB2⟩ := hrel
              by_cases hltj : j < O.length
              · obtain ⟨A5, rfl, u0⟩ := HC6.out.cell HB2.out hltj
                obtain ⟨A6, rfl, v0⟩ := HO6.out.cell HB2.out (i := O.length - 1 - j) (by omega)
                have hji : (j : Int) < (O.length : Int) := by omega
                have hj0 : (0 : Int) ≤ (j : Int) := by omega
                have hq : ((O.length : Int) - 1 - (j : Int)) = ((O.length - 1 - j : Nat) : Int) := by omega
                have hn2 : IntKind.i64.wrap ((O.length : Int) - 1 - (j : Int)) = ((O.length - 1 - j : Nat) : Int) := by rw [IntKind.wrap_i64] <;> omega
                have hj1 : (0 : Int) ≤ ((O.length - 1 - j : Nat) : Int) := by omega
                have hj2 : ((O.length - 1 - j : Nat) : Int) < (O.length : Int) := by omega
                by_cases hs : C.getD j ByteArray.empty = O.getD (O.length - 1 - j) ByteArray.empty
                · have hne2 : ((C.getD j ByteArray.empty).toList == (O.getD (O.length - 1 - j) ByteArray.empty).toList) = true := by rw [hs]; simp
                  have HS3 : Hid (∀ t, t < j + 1 → C.getD t ByteArray.empty = O.getD (O.length - 1 - t) ByteArray.empty) := fun t ht => by
                    rcases Nat.lt_succ_iff_lt_or_eq.1 ht with h1 | rfl
                    · exact HS2.out t h1
                    · exact hs
                  clear hs
                  generalize C.getD j ByteArray.empty = s at u0 hne2
                  generalize O.getD (O.length - 1 - j) ByteArray.empty = t at v0 hne2
                  go_wp2
                  go_quiet (fail)
                  go_wp2
                  go_roundw
                  case rel => exact ⟨j + 1, hltj, by go_num, HS3.out, below_next HB2.out (bdN _ _)⟩
                  case measure => simp [RowKit.intOf] <;> omega
                · have hne2 : ((C.getD j ByteArray.empty).toList == (O.getD (O.length - 1 - j) ByteArray.empty).toList) = false := by
                    simp
                    intro e
                    exact hs (bytes_ext e)
                  have HE2 := Lib.hid (HE10.out (by rw [HS.out]; exact decide_eq_false (rev_not hltj hs)))
                  clear hs
                  generalize C.getD j ByteArray.empty = s at u0 hne2
                  generalize O.getD (O.length - 1 - j) ByteArray.empty = t at v0 hne2
                  go_wp2
                  go_quiet (fail)
                  go_wp2
                  go_ret2
                  exact ⟨⟨.slice none 0 0, by rw [HE2.out.1]; rfl, by rw [HE2.out.2]; exact OwnP.nil _ _⟩, below_next HB6.out (below_next HB2.out (bdN _ _))⟩
              · obtain rfl : j = O.length := by omega
                have hji : ¬ (O.length : Int) < (O.length : Int) := by omega
                have HT := Lib.hid (show fitPs ps (k + 1) = true by rw [HS.out]; exact decide_eq_true (rev_of hcl HS2.out))
                go_wp2
                go_roundw
                case rel => exact ⟨k + 1, hlt, by go_num, HT.out, below_next HB6.out HB2.out⟩
                case measure => simp [RowKit.intOf] <;> omega
          · have hclb : ((C.length : Int) != (O.length : Int)) = true := by simp; omega
            have HE2 := Lib.hid (HE10.out (by rw [HS.out]; exact decide_eq_false (rev_len hcl)))
            go_wp2_with (first
              | (go_at_call 48; (with_reducible refine (cE1 _ (Below.refl _ _)).mono ?_); rintro e w5 ⟨⟨⟨a5, d5⟩, ⟨b5, f5⟩, rfl, hc5, ho5⟩, hb5⟩; dsimp only; have y1 := (hb5.cell (World.block_lt_of_cell? wr _ y0)).trans y0; clear ho5 hc5)
              | (go_at_call 48; (with_reducible refine (cE2 _ hb5).mono ?_); rintro e w6 ⟨⟨⟨a6, d6⟩, ⟨b6, f6⟩, rfl, hc6, ho6⟩, hb6⟩; dsimp only; have HB6 := Lib.hid (below_next (below_next HB.out hb5) hb6); clear hc6 ho6 y1))
            go_ret2
            exact ⟨⟨.slice none 0 0, by rw [HE2.out.1]; rfl, by rw [HE2.out.2]; exact OwnP.nil _ _⟩, HB6.out⟩
        · obtain rfl : k = ps.length - 1 := by omega
          have hf0 := HF.out
          rw [if_neg (by rw [hf0]; simp)] at HGE
          have hki : ¬ ((ps.length - 1 : Nat) : Int) + 1 < (ps.length : Int) := by omega
          have HB2 := Lib.hid HB.out
          clear hf0 HF HB hk hlt
          have hsmall : ∀ k, k ≤ ps.length → bulk (gTo ps k) ≤ 2500 := fun k hk => Nat.le_trans (gTo_bulk ps k hk) (Nat.le_trans (bulkPs_take_le ps (ps.length - k) k (by omega)) hb)
          have HSM := Lib.hid hsmall
          clear hsmall
          go_wp2
          go_loopw [13, 14] (fun o i wr => ∃ k : Nat, k ≤ ps.length ∧ i = .int .i64 k ∧ Hid (OwnP w.heap.size o (gTo ps k) wr) ∧ Hid (Below w.heap.size w wr)) (fun _ i _ => ps.length - (RowKit.intOf i).toNat)
          case atStart => exact ⟨0, Nat.zero_le _, rfl, OwnP.nil _ _, HB2.out⟩
          case round =>
            clear HB2
            obtain ⟨k, hk, rfl, HK, HB⟩ := hrel
            by_cases hlt : k < ps.length
            · obtain ⟨A, q, c, rfl, x0, hpk⟩ := HP.out.part (Below.refl _ _) (i := k) hlt
              have HX0 := Lib.hid x0
              obtain ⟨q', c', e2, hql, hqc, hrow⟩ := hpk
              obtain ⟨rfl, rfl⟩ : q = q' ∧ c = c' := by simpa using e2
              unfold maxLen at hqc
              have HR := Lib.hid hrow
              have hki : (k : Int) < (ps.length : Int) := by omega
              have hk0 : (0 : Int) ≤ (k : Int) := by omega
              have HNX : Hid (gTo ps (k + 1) = gPart ps.length k (gTo ps k) (ps.getD k []) (ps.getD k []).length) := rfl
              have HBP : Hid (∀ m, m ≤ (ps.getD k []).length → bulk (gPart ps.length k (gTo ps k) (ps.getD k []) m) ≤ 5000) := fun m hm => by
                have h1 := gPart_bulk ps.length k (gTo ps k) (ps.getD k []) m hm
                have h2 := HSM.out k hk
                have h3 := HBK.out k hlt
                have h4 := bulk_take (ps.getD k []) m
                omega
              have HJS := Lib.hid (fun m (hm : m < (ps.getD k []).length) => gPart_succ (n := ps.length) (i := k) (o := gTo ps k) hm)
              have hbk := HBK.out k hlt
              clear x0 e2 hrow
              generalize ps.getD k [] = part at *
              generalize gTo ps k = o0 at *
              go_wp2
              go_loopw [13, 15] (fun o i wr => ∃ m : Nat, m ≤ part.length ∧ i = .int .i64 m ∧ Hid (OwnP w.heap.size o (gPart ps.length k o0 part m) wr) ∧ Hid (Below w.heap.size w wr)) (fun _ i _ => part.length - (RowKit.intOf i).toNat)
              case atStart => exact ⟨0, Nat.zero_le _, rfl, HK.out, HB.out⟩
              case round =>
                clear HK HB
                obtain ⟨m, hm, rfl, HK, HB⟩ := hrel
                have x0 := (HB.out.cell (World.block_lt_of_cell? w _ HX0.out)).trans HX0.out
                by_cases hltm : m < part.length
                · obtain ⟨AP, rfl, hAP, hcell⟩ := HR.out (by omega)
                  obtain ⟨z0, z1, z2⟩ := pcs_cells hAP hcell hltm HB.out
                  have hsx := bulk_getD hltm
                  have hbo := HBP.out m hm
                  have HT2 := Lib.hid (HJS.out m hltm)
                  have hmi : (m : Int) < (part.length : Int) := by omega
                  have hm0 : (0 : Int) ≤ (m : Int) := by omega
                  clear hcell
                  generalize part.getD m nil = x at z0 z1 z2 hsx HT2
                  generalize gPart ps.length k o0 part m = out at HK hbo HT2
                  obtain ⟨xk, xs, xc⟩ := x
                  dsimp only at z0 z1 z2 hsx
                  have HKc := Lib.hid (HK.out.step (below_box (.cells #[.int .u8 xk, .string xs, .bool xc] 52)))
                  have HBc := Lib.hid (below_next HB.out (below_box (.cells #[.int .u8 xk, .string xs, .bool xc] 52)))
                  have HXc := Lib.hid (show (wr.alloc (.cells #[.int .u8 xk, .string xs, .bool xc] 52)).heap[wr.heap.size]? = some (pcC ⟨xk, xs, xc⟩) from heap_alloc_new wr _)
                  obtain ⟨y0, y1, y2⟩ := boxP_cells HXc.out
                  dsimp only at y0 y1 y2
                  have x9 := (HBc.out.cell (World.block_lt_of_cell? w _ HX0.out)).trans HX0.out
                  have hol := len_bulk out
                  have HLO := Lib.hid (show out.length ≤ 100000 by omega)
                  have HM1 := Lib.hid (show ∀ y ∈ out, y.s.size + xs.size ≤ 1000000000 from fun y hy => by have := mem_bulk hy; omega)
                  have cX := fun v' w' (hO : OwnP w.heap.size v' out w') (hB : w.heap.size ≤ w'.heap.size) => refAdd_any w.heap.size out ⟨xk, xs, xc⟩ v' w' hO hB HLO.out HM1.out
                  unfold pcV at cX
                  dsimp only at cX
                  obtain ⟨ao, ca, rfl⟩ := HK.out.form
                  have HIT := Lib.hid (fun (h : innerB ps.length k ⟨xk, xs, xc⟩ = true) => show gPart ps.length k o0 part (m + 1) = out by rw [HT2.out]; unfold gAdd; rw [if_pos h])
                  have HIF := Lib.hid (fun (h : innerB ps.length k ⟨xk, xs, xc⟩ = false) => show gPart ps.length k o0 part (m + 1) = addP out ⟨xk, xs, xc⟩ by rw [HT2.out]; unfold gAdd; rw [if_neg (by rw [h]; simp)])
                  clear HT2 hol hbo hsx
                  cases xc
                  · have HST := Lib.hid (HIF.out (innerB_no (.inl (by simp [coB])) (.inl (by simp [ccB]))))
                    clear HIT HIF
                    go_wp2_with (go_at_call 43; (with_reducible refine (cX _ _ HKc.out HBc.out.size).mono ?_); rintro e w6 ⟨v6, rfl, hO6, hb6, _⟩; have HB6 := Lib.hid (HBc.out.trans hb6); have HK6 := Lib.hid hO6; clear hO6 hb6)
                    go_roundw
                    case rel => exact ⟨m + 1, hltm, by go_num, by show OwnP _ _ _ _; rw [HST.out]; exact HK6.out, HB6.out⟩
                    case measure => simp [RowKit.intOf] <;> omega
                  · by_cases h2 : xk = 2
                    · subst h2
                      by_cases hkp : 0 < k
                      · have hkpi : (0 : Int) < (k : Int) := by omega
                        have HST := Lib.hid (HIT.out (innerB_co (by simp [coB]) hkp))
                        clear HIT HIF
                        go_wp2
                        go_roundw
                        case rel => exact ⟨m + 1, hltm, by go_num, by show OwnP _ _ _ _; rw [HST.out]; exact HKc.out, HBc.out⟩
                        case measure => simp [RowKit.intOf] <;> omega
                      · have hkpi : ¬ (0 : Int) < (k : Int) := by omega
                        have HST := Lib.hid (HIF.out (innerB_no (.inr hkp) (.inl (by simp [ccB]))))
                        clear HIT HIF
                        go_wp2_with (go_at_call 43; (with_reducible refine (cX _ _ HKc.out HBc.out.size).mono ?_); rintro e w6 ⟨v6, rfl, hO6, hb6, _⟩; have HB6 := Lib.hid (HBc.out.trans hb6); have HK6 := Lib.hid hO6; clear hO6 hb6)
                        go_roundw
                        case rel => exact ⟨m + 1, hltm, by go_num, by show OwnP _ _ _ _; rw [HST.out]; exact HK6.out, HB6.out⟩
                        case measure => simp [RowKit.intOf] <;> omega
                    · have h2b : (xk == 2) = false := by simpa using h2
                      by_cases h3 : xk = 3
                      · subst h3
                        by_cases hkl : k + 1 < ps.length
                        · have hkli : (k : Int) < (ps.length : Int) - 1 := by omega
                          have HST := Lib.hid (HIT.out (innerB_cc (by simp [ccB]) hkl))
                          clear HIT HIF
                          go_wp2
                          go_roundw
                          case rel => exact ⟨m + 1, hltm, by go_num, by show OwnP _ _ _ _; rw [HST.out]; exact HKc.out, HBc.out⟩
                          case measure => simp [RowKit.intOf] <;> omega
                        · have hkli : ¬ (k : Int) < (ps.length : Int) - 1 := by omega
                          have HST := Lib.hid (HIF.out (innerB_no (.inl (by simp [coB])) (.inr hkl)))
                          clear HIT HIF
                          go_wp2_with (go_at_call 43; (with_reducible refine (cX _ _ HKc.out HBc.out.size).mono ?_); rintro e w6 ⟨v6, rfl, hO6, hb6, _⟩; have HB6 := Lib.hid (HBc.out.trans hb6); have HK6 := Lib.hid hO6; clear hO6 hb6)
                          go_roundw
                          case rel => exact ⟨m + 1, hltm, by go_num, by show OwnP _ _ _ _; rw [HST.out]; exact HK6.out, HB6.out⟩
                          case measure => simp [RowKit.intOf] <;> omega
                      · have h3b : (xk == 3) = false := by simpa using h3
                        have HST := Lib.hid (HIF.out (innerB_no (.inl (by simp [coB, h2])) (.inl (by simp [ccB, h3]))))
                        clear HIT HIF
                        go_wp2_with (go_at_call 43; (with_reducible refine (cX _ _ HKc.out HBc.out.size).mono ?_); rintro e w6 ⟨v6, rfl, hO6, hb6, _⟩; have HB6 := Lib.hid (HBc.out.trans hb6); have HK6 := Lib.hid hO6; clear hO6 hb6)
                        go_roundw
                        case rel => exact ⟨m + 1, hltm, by go_num, by show OwnP _ _ _ _; rw [HST.out]; exact HK6.out, HB6.out⟩
                        case measure => simp [RowKit.intOf] <;> omega
                · obtain rfl : m = part.length := by omega
                  have hmi : ¬ (part.length : Int) < (part.length : Int) := by omega
                  go_wp2
                  go_roundw
                  case rel => exact ⟨k + 1, hlt, by go_num, by show OwnP _ _ _ _; rw [HNX.out]; exact HK.out, HB.out⟩
                  case measure => simp [RowKit.intOf] <;> omega
            · obtain rfl : k = ps.length := by omega
              have hki : ¬ (ps.length : Int) < (ps.length : Int) := by omega
              have hbg := HSM.out ps.length (Nat.le_refl _)
              have hgl0 : (gTo ps ps.length).length ≤ bulk (gTo ps ps.length) := by unfold bulk; omega
              have hgl : (gTo ps ps.length).length ≤ 2500 := by omega
              clear hbg hgl0
              generalize gTo ps ps.length = out at HK HGE HGL hgl
              obtain ⟨ao, ca, rfl⟩ := HK.out.form
              by_cases hlong : 512 < out.length
              · have hE : glueE ps = 3 := by rw [HGE.out, if_pos hlong]
                have hL : glueL ps = [] := by rw [HGL.out, if_neg (by rw [hE]; decide)]
                have HE2 := Lib.hid (And.intro hE hL)
                have hli : (512 : Int) < (out.length : Int) := by omega
                clear hE hL
                go_wp2
                go_ret2
                exact ⟨⟨.slice none 0 0, by rw [HE2.out.1]; rfl, by rw [HE2.out.2]; exact OwnP.nil _ _⟩, HB.out⟩
              · have hE : glueE ps = 0 := by rw [HGE.out, if_neg hlong]
                have hL : glueL ps = out := by rw [HGL.out, if_pos hE]
                have HE2 := Lib.hid (And.intro hE hL)
                have hli : ¬ (512 : Int) < (out.length : Int) := by omega
                have HO7 := Lib.hid HK.out.low
                clear hE hL
                go_wp2
                go_ret2
                exact ⟨⟨_, by rw [HE2.out.1]; rfl, by rw [HE2.out.2]; exact HO7.out⟩, HB.out⟩
end Go.Proofs.YtnkpjkomokkhcaaGreatDoor
namespace Go.Proofs.YtnkpjkomokkhcaaGreatDoor
open Go Go.RowKit Go.Lib
set_option maxRecDepth 100000
def LongsEnd (ps : List (List Pc)) (e : Ending) : Prop := ∃ b, e = .returned (.bool b) ∧ (b = false → bulkPs ps ≤ 2500)
def LsAt (ps : List (List Pc)) (i m : Nat) : Prop := (m = bulkPs (ps.take i) ∨ 5000 ≤ m) ∧ m ≤ i * 300000000000000 + 5000
def LsIn (ps : List (List Pc)) (l : List Pc) (i j m : Nat) : Prop := (m = bulkPs (ps.take i) + cnt l j ∨ 5000 ≤ m) ∧ m ≤ i * 300000000000000 + 150000000010000
theorem LsAt.in {ps : List (List Pc)} {l : List Pc} {i m : Nat} (h : LsAt ps i m) (hl : l.length ≤ 140737488355328) : LsIn ps l i 0 (m + l.length) := by
  unfold LsAt at h
  unfold LsIn
  rw [cnt_zero]
  omega
theorem LsIn.step {ps : List (List Pc)} {l : List Pc} {i j m : Nat} (h : LsIn ps l i j m) (hj : j < l.length) (hm : m < 5000) (hs : (l.getD j nil).s.size ≤ 140737488355328) : LsIn ps l i (j + 1) (m + (l.getD j nil).s.size) := by
  unfold LsIn at *
  rw [cnt_succ l j hj]
  omega
theorem LsIn.big {ps : List (List Pc)} {l : List Pc} {i j m : Nat} (h : LsIn ps l i j m) (hm : ¬ m < 5000) : LsAt ps (i + 1) m := by
  unfold LsIn LsAt at *
  omega
theorem LsIn.out {ps : List (List Pc)} {i m : Nat} (hi : i < ps.length) (h : LsIn ps (ps.getD i []) i (ps.getD i []).length m) : LsAt ps (i + 1) m := by
  unfold LsIn LsAt at *
  rw [cnt_all] at h
  rw [bulkPs_take_succ hi]
  omega
theorem LsIn.le {ps : List (List Pc)} {l : List Pc} {i j m : Nat} (h : LsIn ps l i j m) (hi : i ≤ 30) : m ≤ 10000000000000000 := by
  unfold LsIn at h
  omega
theorem LsAt.le {ps : List (List Pc)} {i m : Nat} (h : LsAt ps i m) (hi : i ≤ 30) : m ≤ 10000000000000000 := by
  unfold LsAt at h
  omega
set_option maxHeartbeats 8000000 in
theorem longs_any (ps : List (List Pc)) (v : Value) (w : World) (hp : PtsAt w v ps) (hn : ps.length ≤ 30) (hsz : ∀ k, k < ps.length → (ps.getD k []).length ≤ 140737488355328 ∧ ∀ x ∈ ps.getD k [], x.s.size ≤ 140737488355328) :
    Calls Tryz.prog 7 #[v] w fun e w' => LongsEnd ps e ∧ w' = w := by
  have ag := Tryz.isAgg52
  have zg := Tryz.sizeOf52
  have HP := Lib.hid hp
  obtain ⟨p, cap, rfl, hlc, hcm⟩ := hp.form
  unfold maxLen at hcm
  have HSZ := Lib.hid hsz
  clear hsz hp
  go_enter Tryz.func7, Tryz.ntmps7
  go_wp2
  go_loop [3, 4] (fun n i => ∃ k m : Nat, k ≤ ps.length ∧ i = .int .i64 k ∧ n = .int .i64 m ∧ Hid (LsAt ps k m)) (fun _ i => ps.length - (RowKit.intOf i).toNat)
  case atStart => exact ⟨0, 0, Nat.zero_le _, rfl, rfl, show LsAt _ _ _ from ⟨.inl rfl, by omega⟩⟩
  case round =>
    obtain ⟨k, m, hk, rfl, rfl, HA⟩ := hrel
    have hmb := HA.out.le (by omega)
    by_cases hlt : k < ps.length
    · obtain ⟨A, q, c, rfl, x0, hpk⟩ := HP.out.part (Below.refl _ _) (i := k) hlt
      obtain ⟨q', c', e2, hql, hqc, hrow⟩ := hpk
      obtain ⟨rfl, rfl⟩ : q = q' ∧ c = c' := by simpa using e2
      unfold maxLen at hqc
      have HR := Lib.hid hrow
      have hki : (k : Int) < (ps.length : Int) := by omega
      have hk0 : (0 : Int) ≤ (k : Int) := by omega
      have hll := (HSZ.out k hlt).1
      have HI := Lib.hid (HA.out.in (l := ps.getD k []) hll)
      have HO := Lib.hid (fun m (h : LsIn ps (ps.getD k []) k (ps.getD k []).length m) => h.out hlt)
      have HZ := Lib.hid (HSZ.out k hlt).2
      clear e2 hrow
      generalize ps.getD k [] = part at *
      go_wp2
      go_loop [3, 5] (fun n i => ∃ j m : Nat, j ≤ part.length ∧ i = .int .i64 j ∧ n = .int .i64 m ∧ Hid (LsIn ps part k j m)) (fun _ i => part.length - (RowKit.intOf i).toNat)
      case atStart => exact ⟨0, m + part.length, Nat.zero_le _, rfl, by go_num, HI.out⟩
      case round =>
        obtain ⟨j, m, hj, rfl, rfl, HN⟩ := hrel
        have hmb := HN.out.le (by omega)
        by_cases hltj : j < part.length
        · have hji : (j : Int) < (part.length : Int) := by omega
          have hj0 : (0 : Int) ≤ (j : Int) := by omega
          by_cases h5 : m < 5000
          · obtain ⟨A2, rfl, hA2, hcell⟩ := HR.out (by omega)
            obtain ⟨y0, y1, y2⟩ := pcs_cells hA2 hcell hltj (Below.refl _ w)
            have hsb := HZ.out _ (getD_mem hltj)
            have HS := Lib.hid (HN.out.step hltj h5 hsb)
            clear hcell y0 y2
            generalize part.getD j nil = x at y1 hsb HS
            have h5i : (m : Int) < 5000 := by omega
            go_wp2
            go_round
            case rel => exact ⟨j + 1, m + x.s.size, by omega, by go_num, by go_num, HS.out⟩
            case measure => simp [RowKit.intOf]; omega
          · have h5i : ¬ (m : Int) < 5000 := by omega
            have HS := Lib.hid (HN.out.big h5)
            go_wp2
            go_round
            case rel => exact ⟨k + 1, m, hlt, by go_num, rfl, HS.out⟩
            case measure => simp [RowKit.intOf]; omega
        · obtain rfl : j = part.length := by omega
          have hji : ¬ (part.length : Int) < (part.length : Int) := by omega
          have HS := Lib.hid (HO.out m HN.out)
          go_wp2
          go_round
          case rel => exact ⟨k + 1, m, hlt, by go_num, rfl, HS.out⟩
          case measure => simp [RowKit.intOf]; omega
    · obtain rfl : k = ps.length := by omega
      have hki : ¬ (ps.length : Int) < (ps.length : Int) := by omega
      go_wp2
      go_ret
      exact ⟨⟨_, rfl, fun h => by
        have h2 := HA.out.1
        rw [List.take_length] at h2
        simp at h
        rcases h2 with h2 | h2 <;> omega⟩, rfl⟩
end Go.Proofs.YtnkpjkomokkhcaaGreatDoor
namespace Go.Proofs.YtnkpjkomokkhcaaGreatDoor
open Go Go.RowKit Go.Lib
set_option maxRecDepth 100000
theorem enc_small (r : Int) : (Utf8.encode r).size ≤ 4 := by
  unfold Utf8.encode
  dsimp only
  split <;> (try split) <;> (try split) <;> (try split) <;> simp [ByteArray.size]
theorem toRunes2 (s : ByteArray) (w : World) (hs : s.size ≤ 100000) : ∃ cap W1 cur, (convert 9 142 (.string s)).run Tryz.prog w = .ok (.slice (some ⟨w.heap.size, 0, none⟩) (runesOf s).length cap) W1 ∧ Below w.heap.size w W1 ∧
    W1.heap[w.heap.size]? = some (.cells cur 21 (0, 0)) ∧ (∀ (k r : Nat), (runesOf s)[k]? = some r → cur[k]? = some (.int .i32 (r : Int))) ∧ (runesOf s).length ≤ cap := by
  have e : Conv.runesFrom s s.size 0 #[] = ((runesOf s).map runeV).toArray := by
    rw [runesFrom_eq]; simp [runesOf]
  have hlen : (runesOf s).length ≤ s.size := runesG_length _ _
  have hsz : (Conv.runesFrom s s.size 0 #[]).size = (runesOf s).length := by rw [e]; simp
  have h1 := run_runes_of_string (P := Tryz.prog) w 9 142 21 s Tryz.underlying9 Tryz.underlying142 Tryz.underlying21 (by rw [hsz]; omega)
  have hge := grownCap_ge w (Conv.runesFrom s s.size 0 #[]).size 0 21
  rw [hsz] at h1 hge
  refine ⟨_, _, _, h1, (Below.refl _ _).drew.alloc (Nat.le_refl _) _, heap_alloc_new w.drew _, ?_, by omega⟩
  intro k r hk
  have hkl : k < (runesOf s).length := (List.getElem?_eq_some_iff.1 hk).1
  rw [e]
  rw [Array.getElem?_append_left (by simpa using hkl)]
  simp [hk, runeV]
def runP (r : Nat) : Pc := ⟨1, Utf8.encode (r : Int), false⟩
/-- a piece, each unit by itself -/
def unP (x : Pc) : List Pc := if x.k = 1 then (runesOf x.s).map runP else [x]
def singleTo (l : List Pc) (k : Nat) : List Pc := (l.take k).flatMap unP
def singleL (l : List Pc) : List Pc := l.flatMap unP
theorem singleTo_succ {l : List Pc} {k : Nat} (h : k < l.length) : singleTo l (k + 1) = singleTo l k ++ unP (l.getD k nil) := by
  unfold singleTo
  rw [take_succ_getD l k h, List.flatMap_append]
  simp
theorem singleTo_all (l : List Pc) : singleTo l l.length = singleL l := by unfold singleTo singleL; rw [List.take_length]
theorem unP_len (x : Pc) : (unP x).length ≤ x.s.size + 1 := by
  unfold unP
  split
  · rw [List.length_map]
    have := runesG_length x.s.data.toList.length x.s.data.toList
    have h2 : (runesOf x.s).length ≤ x.s.size := this
    omega
  · simp
theorem flat_len : ∀ l : List Pc, (l.flatMap unP).length ≤ bulk l
  | [] => by simp
  | x :: l => by
    rw [List.flatMap_cons, List.length_append, bulk_cons]
    have h1 := flat_len l
    have h2 := unP_len x
    omega
theorem singleTo_len (l : List Pc) (k : Nat) : (singleTo l k).length ≤ bulk l := Nat.le_trans (flat_len _) (bulk_take l k)
theorem own_cells {w : World} {B b sz : Nat} {e t : TypeId} {v : Value} {n : Nat} {xs : List Value} {cs : Array Value} (hown : w.ownsRow B e sz v n xs) (hb : w.heap[b]? = some (.cells cs t (0, 0))) (hne : e ≠ t) : v.ownBlock ≠ some b := by
  rcases hown.2 with ⟨rfl, _⟩ | ⟨g, cap, cur, rfl, _, hg, _⟩
  · simp [Value.ownBlock]
  · intro e'
    simp only [Value.ownBlock, Option.some.injEq] at e'
    subst e'
    rw [hg] at hb
    injection hb with hb
    injection hb with _ ht _
    exact hne ht
theorem OwnP.more1 {B : Nat} {v : Value} {l : List Pc} {u : ByteArray} {w : World} (h : w.ownsRow B 52 3 v (l.length + 1) (cells3 l ++ [.int .u8 1, .string u, .bool false])) : OwnP B v (l ++ [⟨1, u, false⟩]) w := OwnP.more (x := ⟨1, u, false⟩) h
theorem one3 (a : Int) (b : ByteArray) (c : Bool) : ∀ u ∈ ([.int .u8 a, .string b, .bool c] : List Value), u.oneCell' = true := by intro u hu; simp at hu; rcases hu with rfl | rfl | rfl <;> rfl
set_option maxHeartbeats 16000000 in
theorem refSingle_any (l : List Pc) (v : Value) (w : World) (hv : PcsAt w v l) (hb : bulk l ≤ 10000) :
    Calls Tryz.prog 42 #[v] w fun e w' => (∃ u, e = .returned u ∧ OwnP w.heap.size u (singleL l) w') ∧ Below w.heap.size w w' := by
  obtain ⟨p, cap, rfl, hl, hc, hrow⟩ := hv
  unfold maxLen at hc
  obtain ⟨i0, hi, hz0, hz1, hz2⟩ := info_parts info_pc
  have ag := Tryz.isAgg52
  have zg := Tryz.sizeOf52
  have HR := Lib.hid hrow
  clear hrow
  go_enter Tryz.func42, Tryz.ntmps42
  go_wp2
  go_loopw [3, 4] (fun o i wr => ∃ k : Nat, k ≤ l.length ∧ i = .int .i64 k ∧ Hid (OwnP w.heap.size o (singleTo l k) wr) ∧ Hid (Below w.heap.size w wr)) (fun _ i _ => l.length - (RowKit.intOf i).toNat)
  case atStart => exact ⟨0, Nat.zero_le _, rfl, OwnP.nil _ _, Below.refl _ _⟩
  case round =>
    obtain ⟨k, hk, rfl, HK, HB⟩ := hrel
    by_cases hlt : k < l.length
    · obtain ⟨A, rfl, hA, hcell⟩ := HR.out (by omega)
      obtain ⟨x0, x1, x2⟩ := pcs_cells hA hcell hlt HB.out
      have HS := Lib.hid (singleTo_succ hlt)
      have hsz := bulk_getD hlt
      have hol := singleTo_len l k
      have hki : (k : Int) < (l.length : Int) := by omega
      have hk0 : (0 : Int) ≤ (k : Int) := by omega
      clear hcell
      generalize l.getD k nil = x at x0 x1 x2 HS hsz
      generalize singleTo l k = o1 at HK HS hol
      obtain ⟨ao, ca, rfl⟩ := HK.out.form
      have hszw := HB.out.size
      obtain ⟨xk, xs, xc⟩ := x
      dsimp only at x0 x1 x2 hsz
      by_cases h1 : xk = 1
      · subst h1
        obtain ⟨cap2, W1, cur, hcv, hb2, hbl2, hcur, hcap2⟩ := toRunes2 xs wr (by omega)
        have hrl : (runesOf xs).length ≤ xs.size := runesG_length _ _
        have HS1 := Lib.hid (show singleTo l (k + 1) = o1 ++ (runesOf xs).map runP by rw [HS.out]; unfold unP; rw [if_pos rfl])
        have HCU := Lib.hid hcur
        have HW := Lib.hid (below_next HB.out hb2)
        have HK1 := Lib.hid (HK.out.step hb2)
        have HBL := Lib.hid hbl2
        have hrs : (runesOf xs).length ≤ 10000 := by omega
        clear hcur hbl2 hrl HS
        generalize runesOf xs = rs at *
        obtain ⟨wo, hwo⟩ : ∃ wo, wo = wr := ⟨_, rfl⟩
        subst hwo
        go_wp2
        go_loopw [3, 6] (fun o i wr2 => ∃ j : Nat, j ≤ rs.length ∧ i = .int .i64 j ∧ Hid (OwnP w.heap.size o (o1 ++ (rs.take j).map runP) wr2) ∧ Hid (wr2.heap[wo.heap.size]? = some (.cells cur 21 (0, 0))) ∧ Hid (Below w.heap.size w wr2)) (fun _ i _ => rs.length - (RowKit.intOf i).toNat)
        case atStart => exact ⟨0, Nat.zero_le _, rfl, by show OwnP _ _ _ _; simpa using HK1.out, HBL.out, HW.out⟩
        case round =>
          clear HB HW HK HK1 hszw
          obtain ⟨j, hj, rfl, HO, HR2, HB⟩ := hrel
          by_cases hjl : j < rs.length
          · have hr : rs[j]? = some rs[j] := List.getElem?_eq_getElem hjl
            have ck := (Lib.cell_of_heap HR2.out j).trans (HCU.out j _ hr)
            have HT := Lib.hid (show o1 ++ (rs.take (j + 1)).map runP = (o1 ++ (rs.take j).map runP) ++ [⟨1, Utf8.encode ((rs[j] : Nat) : Int), false⟩] by rw [List.take_add_one, hr, List.map_append, List.append_assoc]; rfl)
            have hlen : (o1 ++ (rs.take j).map runP).length ≤ 20000 := by rw [List.length_append, List.length_map, List.length_take]; omega
            have hji : (j : Int) < (rs.length : Int) := by omega
            have hj0 : (0 : Int) ≤ (j : Int) := by omega
            generalize rs[j] = r at hr ck HT
            generalize o1 ++ (rs.take j).map runP = pre at HO HT hlen
            clear hr
            obtain ⟨aoj, caj, hfo⟩ := HO.out.form
            subst hfo
            have hown2 := HO.out
            unfold OwnP at hown2
            have HK2 := Lib.hid hown2
            have hszw := HB.out.size
            have q1 := Lib.hid (show pre.length + 1 ≤ maxLen by unfold maxLen; omega)
            have q2 := Lib.hid (show (pre.length + 1) * 32 ≤ 140737488355328 by omega)
            clear hown2 HO
            go_wp2_with (first
              | (at_builtin; refine wpList_append_own _ rfl _ _ 22 rfl w.heap.size 52 i0 _ 3 32 Tryz.underlying22 hi hz0 hz1 hz2 rfl (by decide) _ _ _ rfl (HK2.out.alloc (.cells #[.int .u8 1, .string (Utf8.encode (r : Int)), .bool false] 52)) ⟨wr.heap.size, 0, none⟩ 1 1 [.int .u8 1, .string (Utf8.encode (r : Int)), .bool false] rfl rfl (cell_new3 wr _ _ _ _) (one3 _ _ _) q1.out q2.out (by simp; omega) ?_; intro v3 w3 hown3 hgrow3 hnil3
                 have HR6 := Lib.hid (show w3.heap[wo.heap.size]? = some (.cells cur 21 (0, 0)) by
                   have d4 := (Below.heap_alloc wr (.cells #[.int .u8 1, .string (Utf8.encode (r : Int)), .bool false] 52) _ (lt_of_block HR2.out)).trans HR2.out
                   rw [hgrow3.block wo.heap.size (lt_of_block d4) (fun e => own_cells (HK2.out.alloc (.cells #[.int .u8 1, .string (Utf8.encode (r : Int)), .bool false] 52)) d4 (by decide) e.symm)]
                   exact d4)
                 have HB3 := Lib.hid ((HB.out.alloc hszw (.cells #[.int .u8 1, .string (Utf8.encode (r : Int)), .bool false] 52)).grown hgrow3 (by simp; omega) (fun k hk => (HK2.out.lt k hk).1))
                 have HK3 := Lib.hid (OwnP.more1 hown3)
                 clear hown3 hgrow3 hnil3))
            go_roundw
            case rel => exact ⟨j + 1, hjl, by go_num, (by show OwnP _ _ _ _; rw [HT.out]; exact HK3.out), HR6.out, HB3.out⟩
            case measure => simp [RowKit.intOf]; omega
          · have hji : ¬ (j : Int) < (rs.length : Int) := by omega
            have HE := Lib.hid (show o1 ++ (rs.take j).map runP = singleTo l (k + 1) by rw [HS1.out, List.take_of_length_le (by omega)])
            go_wp2
            go_roundw
            case rel => exact ⟨k + 1, hlt, by go_num, (by show OwnP _ _ _ _; rw [← HE.out]; exact HO.out), HB.out⟩
            case measure => simp [RowKit.intOf]; omega
      · have h1b : (xk != 1) = true := by simpa using h1
        have HS1 := Lib.hid (show singleTo l (k + 1) = o1 ++ [⟨xk, xs, xc⟩] by rw [HS.out]; unfold unP; rw [if_neg h1])
        have hown2 := HK.out
        unfold OwnP at hown2
        have HK2 := Lib.hid hown2
        have q1 := Lib.hid (show o1.length + 1 ≤ maxLen by unfold maxLen; omega)
        have q2 := Lib.hid (show (o1.length + 1) * 32 ≤ 140737488355328 by omega)
        clear hown2 HK HS h1
        go_wp2_with (first
          | (at_builtin; refine wpList_append_own _ rfl _ _ 22 rfl w.heap.size 52 i0 _ 3 32 Tryz.underlying22 hi hz0 hz1 hz2 rfl (by decide) _ _ _ rfl (HK2.out.alloc (.cells #[.int .u8 xk, .string xs, .bool xc] 52)) ⟨wr.heap.size, 0, none⟩ 1 1 [.int .u8 xk, .string xs, .bool xc] rfl rfl (cell_new3 wr _ _ _ _) (one3 _ _ _) q1.out q2.out (by simp; omega) ?_; intro v3 w3 hown3 hgrow3 hnil3
             have HB3 := Lib.hid ((HB.out.alloc hszw (.cells #[.int .u8 xk, .string xs, .bool xc] 52)).grown hgrow3 (by simp; omega) (fun k hk => (HK2.out.lt k hk).1))
             have HK3 := Lib.hid (OwnP.more (x := ⟨xk, xs, xc⟩) hown3)
             clear hown3 hgrow3 hnil3))
        go_roundw
        case rel => exact ⟨k + 1, hlt, by go_num, (by show OwnP _ _ _ _; rw [HS1.out]; exact HK3.out), HB3.out⟩
        case measure => simp [RowKit.intOf]; omega
    · have hki : ¬ (k : Int) < (l.length : Int) := by omega
      obtain rfl : k = l.length := by omega
      rw [singleTo_all] at HK
      go_wp2
      go_ret
      exact ⟨⟨_, rfl, HK.out⟩, HB.out⟩
end Go.Proofs.YtnkpjkomokkhcaaGreatDoor
namespace Go.Proofs.YtnkpjkomokkhcaaGreatDoor
open Go Go.RowKit Go.Lib
set_option maxRecDepth 100000
theorem info_unit : (Tryz.prog.info? 147).map (fun i => (i.zero, i.size, i.bytes)) = some (some (.agg #[.int .i32 0, .bool false]), 2, 8) := by kernel_rfl
def unN (x : Pc) : Nat := if x.k = 5 then 1 else if x.k = 1 then (runesOf x.s).length else 0
def unTo (l : List Pc) (k : Nat) : Nat := ((l.take k).map unN).sum
def nUnits (l : List Pc) : Nat := (l.map unN).sum
theorem unTo_succ {l : List Pc} {k : Nat} (h : k < l.length) : unTo l (k + 1) = unTo l k + unN (l.getD k nil) := by
  unfold unTo
  rw [take_succ_getD l k h, List.map_append, List.sum_append]
  simp
theorem unTo_all (l : List Pc) : unTo l l.length = nUnits l := by unfold unTo nUnits; rw [List.take_length]
theorem unN_le (x : Pc) : unN x ≤ x.s.size + 1 := by
  unfold unN
  split
  · omega
  · split
    · have h2 : (runesOf x.s).length ≤ x.s.size := runesG_length _ _
      omega
    · omega
theorem sum_un : ∀ l : List Pc, (l.map unN).sum ≤ bulk l
  | [] => by simp
  | x :: l => by
    rw [List.map_cons, List.sum_cons, bulk_cons]
    have h1 := sum_un l
    have h2 := unN_le x
    omega
theorem unTo_le (l : List Pc) (k : Nat) : unTo l k ≤ bulk l := Nat.le_trans (sum_un _) (bulk_take l k)
theorem cell_new2 (w : World) (a b : Value) (t : TypeId) : ∀ j u, [a, b][j]? = some u → (w.alloc (.cells #[a, b] t)).cell? ((⟨w.heap.size, 0, none⟩ : Addr).add j) = some u := by
  intro j x hj
  match j, hj with
  | 0, hj => simp at hj; subst hj; simp [Addr.add]
  | 1, hj => simp at hj; subst hj; simp [Addr.add]
theorem one2 (a : Int) (c : Bool) : ∀ u ∈ ([.int .i32 a, .bool c] : List Value), u.oneCell' = true := by intro u hu; simp at hu; rcases hu with rfl | rfl <;> rfl
/-- a row of units that the call owns; of its cells nothing is asked -/
def OwnU (B : Nat) (v : Value) (n : Nat) (w : World) : Prop := ∃ xs, w.ownsRow B 147 2 v n xs
theorem OwnU.step {B : Nat} {v : Value} {n : Nat} {w w' : World} (hb : Below w.heap.size w w') (h : OwnU B v n w) : OwnU B v n w' := by
  obtain ⟨xs, h⟩ := h
  exact ⟨xs, ownsRow_step hb h⟩
theorem OwnU.form {B : Nat} {v : Value} {n : Nat} {w : World} (h : OwnU B v n w) : ∃ ao cap, v = .slice ao n cap := by
  obtain ⟨xs, h⟩ := h
  rcases h.2 with ⟨hv, h0⟩ | ⟨g, cap, cur, hv, _⟩
  · subst h0
    exact ⟨none, 0, hv⟩
  · exact ⟨_, _, hv⟩
set_option maxHeartbeats 16000000 in
theorem units_any (l : List Pc) (v : Value) (w : World) (hv : PcsAt w v l) (hb : bulk l ≤ 10000) :
    Calls Tryz.prog 49 #[v] w fun e w' => (∃ a : Option Addr × Nat, e = .returned (.slice a.1 (nUnits l) a.2)) ∧ Below w.heap.size w w' := by
  obtain ⟨p, cap, rfl, hl, hc, hrow⟩ := hv
  unfold maxLen at hc
  obtain ⟨i0, hi, hz0, hz1, hz2⟩ := info_parts info_unit
  have ag := Tryz.isAgg52
  have zg := Tryz.sizeOf52
  have ag2 := Tryz.isAgg147
  have zg2 := Tryz.sizeOf147
  have HR := Lib.hid hrow
  clear hrow
  go_enter Tryz.func49, Tryz.ntmps49
  go_wp2
  go_loopw [3, 4] (fun o i wr => ∃ k : Nat, k ≤ l.length ∧ i = .int .i64 k ∧ Hid (OwnU w.heap.size o (unTo l k) wr) ∧ Hid (Below w.heap.size w wr)) (fun _ i _ => l.length - (RowKit.intOf i).toNat)
  case atStart => exact ⟨0, Nat.zero_le _, rfl, show OwnU _ _ _ _ from ⟨[], World.ownsRow_nil _ _ _ _⟩, Below.refl _ _⟩
  case round =>
    obtain ⟨k, hk, rfl, HK, HB⟩ := hrel
    by_cases hlt : k < l.length
    · obtain ⟨A, rfl, hA, hcell⟩ := HR.out (by omega)
      obtain ⟨x0, x1, x2⟩ := pcs_cells hA hcell hlt HB.out
      have HS := Lib.hid (unTo_succ hlt)
      have hsz := bulk_getD hlt
      have hol := unTo_le l k
      have hki : (k : Int) < (l.length : Int) := by omega
      have hk0 : (0 : Int) ≤ (k : Int) := by omega
      have HX := Lib.hid (fun (w2 : World) (h2 : Below w.heap.size w w2) => pcs_cells hA hcell hlt h2)
      clear hcell
      generalize l.getD k nil = x at x0 x1 x2 HS hsz HX
      generalize unTo l k = o1 at HK HS hol
      obtain ⟨ao, ca, rfl⟩ := HK.out.form
      have hszw := HB.out.size
      obtain ⟨xk, xs, xc⟩ := x
      dsimp only at x0 x1 x2 hsz
      by_cases h5 : xk = 5
      · subst h5
        have HS1 := Lib.hid (show unTo l (k + 1) = o1 + 1 by rw [HS.out]; rfl)
        obtain ⟨vs, hown2⟩ := HK.out
        have HK2 := Lib.hid hown2
        have q1 := Lib.hid (show o1 + 1 ≤ maxLen by unfold maxLen; omega)
        have q2 := Lib.hid (show (o1 + 1) * 8 ≤ 140737488355328 by omega)
        clear hown2 HK HS
        go_wp2_with (first
          | (at_builtin; refine wpList_append_own _ rfl _ _ 85 rfl w.heap.size 147 i0 _ 2 8 Tryz.underlying85 hi hz0 hz1 hz2 rfl (by decide) _ _ _ rfl (HK2.out.alloc (.cells #[.int .i32 0, .bool true] 147)) ⟨wr.heap.size, 0, none⟩ 1 1 [.int .i32 0, .bool true] rfl rfl (cell_new2 wr _ _ _) (one2 _ _) q1.out q2.out (by simp; omega) ?_; intro v3 w3 hown3 hgrow3 hnil3
             have HB3 := Lib.hid ((HB.out.alloc hszw (.cells #[.int .i32 0, .bool true] 147)).grown hgrow3 (by simp; omega) (fun k hk => (HK2.out.lt k hk).1))
             have HK3 := Lib.hid (show OwnU w.heap.size v3 (o1 + 1) w3 from ⟨_, hown3⟩)
             obtain ⟨y0, y1, y2⟩ := HX.out w3 HB3.out
             dsimp only at y0 y1 y2
             clear hown3 hgrow3 hnil3))
        go_roundw
        case rel => exact ⟨k + 1, hlt, by go_num, (by show OwnU _ _ _ _; rw [HS1.out]; exact HK3.out), HB3.out⟩
        case measure => simp [RowKit.intOf]; omega
      · have h5b : (xk == 5) = false := by simpa using h5
        by_cases h1 : xk = 1
        · subst h1
          obtain ⟨cap2, W1, cur, hcv, hb2, hbl2, hcur, hcap2⟩ := toRunes2 xs wr (by omega)
          have hrl : (runesOf xs).length ≤ xs.size := runesG_length _ _
          have HS1 := Lib.hid (show unTo l (k + 1) = o1 + (runesOf xs).length by rw [HS.out]; rfl)
          have HCU := Lib.hid hcur
          have HW := Lib.hid (below_next HB.out hb2)
          have HK1 := Lib.hid (HK.out.step hb2)
          have HBL := Lib.hid hbl2
          have hrs : (runesOf xs).length ≤ 10000 := by omega
          clear hcur hbl2 hrl HS
          generalize runesOf xs = rs at *
          obtain ⟨wo, hwo⟩ : ∃ wo, wo = wr := ⟨_, rfl⟩
          subst hwo
          go_wp2
          go_loopw [3, 6] (fun o i wr2 => ∃ j : Nat, j ≤ rs.length ∧ i = .int .i64 j ∧ Hid (OwnU w.heap.size o (o1 + j) wr2) ∧ Hid (wr2.heap[wo.heap.size]? = some (.cells cur 21 (0, 0))) ∧ Hid (Below w.heap.size w wr2)) (fun _ i _ => rs.length - (RowKit.intOf i).toNat)
          case atStart => exact ⟨0, Nat.zero_le _, rfl, HK1.out, HBL.out, HW.out⟩
          case round =>
            clear HB HW HK HK1 hszw
            obtain ⟨j, hj, rfl, HO, HR2, HB⟩ := hrel
            by_cases hjl : j < rs.length
            · have hr : rs[j]? = some rs[j] := List.getElem?_eq_getElem hjl
              have ck := (Lib.cell_of_heap HR2.out j).trans (HCU.out j _ hr)
              have hji : (j : Int) < (rs.length : Int) := by omega
              have hj0 : (0 : Int) ≤ (j : Int) := by omega
              generalize rs[j] = r at hr ck
              clear hr
              obtain ⟨aoj, caj, hfo⟩ := HO.out.form
              subst hfo
              obtain ⟨vs, hown2⟩ := HO.out
              have HK2 := Lib.hid hown2
              have hszw := HB.out.size
              have q1 := Lib.hid (show o1 + j + 1 ≤ maxLen by unfold maxLen; omega)
              have q2 := Lib.hid (show (o1 + j + 1) * 8 ≤ 140737488355328 by omega)
              clear hown2 HO
              go_wp2_with (first
                | (at_builtin; refine wpList_append_own _ rfl _ _ 85 rfl w.heap.size 147 i0 _ 2 8 Tryz.underlying85 hi hz0 hz1 hz2 rfl (by decide) _ _ _ rfl (HK2.out.alloc (.cells #[.int .i32 (r : Int), .bool false] 147)) ⟨wr.heap.size, 0, none⟩ 1 1 [.int .i32 (r : Int), .bool false] rfl rfl (cell_new2 wr _ _ _) (one2 _ _) q1.out q2.out (by simp; omega) ?_; intro v3 w3 hown3 hgrow3 hnil3
                   have HR6 := Lib.hid (show w3.heap[wo.heap.size]? = some (.cells cur 21 (0, 0)) by
                     have d4 := (Below.heap_alloc wr (.cells #[.int .i32 (r : Int), .bool false] 147) _ (lt_of_block HR2.out)).trans HR2.out
                     rw [hgrow3.block wo.heap.size (lt_of_block d4) (fun e => own_cells (HK2.out.alloc (.cells #[.int .i32 (r : Int), .bool false] 147)) d4 (by decide) e.symm)]
                     exact d4)
                   have HB3 := Lib.hid ((HB.out.alloc hszw (.cells #[.int .i32 (r : Int), .bool false] 147)).grown hgrow3 (by simp; omega) (fun k hk => (HK2.out.lt k hk).1))
                   have HK3 := Lib.hid (show OwnU w.heap.size v3 ((o1 + j) + 1) w3 from ⟨_, hown3⟩)
                   clear hown3 hgrow3 hnil3))
              go_roundw
              case rel => exact ⟨j + 1, hjl, by go_num, HK3.out, HR6.out, HB3.out⟩
              case measure => simp [RowKit.intOf]; omega
            · have hji : ¬ (j : Int) < (rs.length : Int) := by omega
              obtain rfl : j = rs.length := by omega
              go_wp2
              go_roundw
              case rel => exact ⟨k + 1, hlt, by go_num, (by show OwnU _ _ _ _; rw [HS1.out]; exact HO.out), HB.out⟩
              case measure => simp [RowKit.intOf]; omega
        · have h1b : (xk == 1) = false := by simpa using h1
          have HS1 := Lib.hid (show unTo l (k + 1) = o1 by rw [HS.out]; unfold unN; rw [if_neg h5, if_neg h1]; rfl)
          go_wp2
          go_roundw
          case rel => exact ⟨k + 1, hlt, by go_num, (by show OwnU _ _ _ _; rw [HS1.out]; exact HK.out), HB.out⟩
          case measure => simp [RowKit.intOf]; omega
    · have hki : ¬ (k : Int) < (l.length : Int) := by omega
      obtain rfl : k = l.length := by omega
      rw [unTo_all] at HK
      obtain ⟨ao, ca, rfl⟩ := HK.out.form
      go_wp2
      go_ret
      exact ⟨⟨ao, ca, rfl⟩, HB.out⟩
def unE (l : List Pc) : Nat := if checkE l = 0 then nUnits l else 0
set_option maxHeartbeats 4000000 in
theorem refUnits_any (l : List Pc) (v : Value) (w : World) (hv : PcsAt w v l) (hb : bulk l ≤ 10000) :
    Calls Tryz.prog 14 #[v] w fun e w' => e = .returned (.tuple #[.int .i64 (unE l : Nat), .int .u8 (checkE l)]) ∧ Below w.heap.size w w' := by
  have cC := refCheck_any l v w hv (by omega)
  have hn : nUnits l ≤ 10000 := by have := sum_un l; unfold nUnits; omega
  by_cases hE : checkE l = 0
  · have HU := Lib.hid (show unE l = nUnits l by unfold unE; rw [if_pos hE])
    have HH := Lib.hid hE
    rw [hE] at cC
    have cA := fun w1 (h1 : Below w.heap.size w w1) => units_any l v w1 (hv.step h1) hb
    generalize nUnits l = n at *
    go_enter Tryz.func14, Tryz.ntmps14
    go_wp2_with (first
      | (go_at_call 26; (with_reducible refine cC.mono ?_); rintro e w1 ⟨rfl, hb1⟩)
      | (go_at_call 49; (with_reducible refine (cA w1 hb1).mono ?_); rintro e w2 ⟨⟨⟨a, c⟩, rfl⟩, hb2⟩; dsimp only; have HB2 := Lib.hid (below_next hb1 hb2); clear hb1 hb2))
    go_ret2
    exact ⟨by rw [HU.out, HH.out]; rfl, HB2.out⟩
  · have HU := Lib.hid (show unE l = 0 by unfold unE; rw [if_neg hE])
    generalize hZ : checkE l = Z at cC hE
    have hz : (Z == 0) = false := by simpa using hE
    have hz2 : (Z != 0) = true := by simpa using hE
    clear hE hZ
    go_enter Tryz.func14, Tryz.ntmps14
    go_wp2_with (go_at_call 26; (with_reducible refine cC.mono ?_); rintro e w1 ⟨rfl, hb1⟩)
    go_ret2
    exact ⟨by rw [HU.out]; rfl, hb1⟩
end Go.Proofs.YtnkpjkomokkhcaaGreatDoor
