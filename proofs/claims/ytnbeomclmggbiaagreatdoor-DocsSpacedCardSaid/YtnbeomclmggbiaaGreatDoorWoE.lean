/- Words: the pieces that words stand for, by the program. Words: which lists of words are valid, by the program. Words: the spaced form of words, as the program makes it. No run of any program here. Words: a joiner takes a text, or a piece that is one, by the program. Words: the spaced form of words, by the program. Words: FromWords of the program; bounds of few words. -/
import Derived.Test.YtnbeomclmggbiaaGreatDoorWoD
namespace Go.Proofs.YtnbeomclmggbiaaGreatDoor
open Go Go.RowKit Go.Lib
set_option maxRecDepth 100000
noncomputable def pcsL (ws : List ByteArray) : List Pc := ws.map fun s => (pieceW s).1
noncomputable def pcsK (ws : List ByteArray) (k : Nat) : List Pc := pcsL (ws.take k)
theorem pcsK_all (ws : List ByteArray) : pcsK ws ws.length = pcsL ws := by unfold pcsK; rw [List.take_length]
theorem pcsK_succ {ws : List ByteArray} {k : Nat} (h : k < ws.length) : pcsK ws (k + 1) = pcsK ws k ++ [(pieceW (ws.getD k ByteArray.empty)).1] := by
  unfold pcsK pcsL
  rw [takeS_succ h, List.map_append]; rfl
theorem pcsK_len {ws : List ByteArray} {k : Nat} (h : k ≤ ws.length) : (pcsK ws k).length = k := by
  unfold pcsK pcsL
  rw [List.length_map, List.length_take]; omega
theorem pcsL_len (ws : List ByteArray) : (pcsL ws).length = ws.length := by unfold pcsL; rw [List.length_map]
theorem holesL_pcs (ws : List ByteArray) : holesL ws = (pcsL ws).map holeW := by unfold holesL pcsL; rw [List.map_map]; rfl
noncomputable def okW (ws : List ByteArray) : Bool := ws.all fun s => (pieceW s).2
theorem okW_no {ws : List ByteArray} {k : Nat} (hk : k < ws.length) (h : (pieceW (ws.getD k ByteArray.empty)).2 = false) : okW ws = false := by
  unfold okW
  rw [List.all_eq_false]
  exact ⟨_, getS_mem hk, by rw [h]; simp⟩
/-- what reading words returns -/
def RwsEnd (B : Nat) (ws : List ByteArray) (e : Ending) (w' : World) : Prop :=
  if okW ws = true then ∃ v, e = .returned (.tuple #[v, .bool true]) ∧ OwnP B v (pcsL ws) w' else e = .returned (.tuple #[.slice none 0 0, .bool false])
theorem RwsEnd.yes {B : Nat} {ws : List ByteArray} {e : Ending} {w' : World} (h : RwsEnd B ws e w') (ho : okW ws = true) : ∃ v, e = .returned (.tuple #[v, .bool true]) ∧ OwnP B v (pcsL ws) w' := by
  unfold RwsEnd at h; rwa [if_pos ho] at h
theorem RwsEnd.no {B : Nat} {ws : List ByteArray} {e : Ending} {w' : World} (h : RwsEnd B ws e w') (ho : okW ws = false) : e = .returned (.tuple #[.slice none 0 0, .bool false]) := by
  unfold RwsEnd at h; rwa [if_neg (by rw [ho]; simp)] at h
theorem WrdEnd.of {s : ByteArray} {e : Ending} (h : WrdEnd s e) : ∃ x : Pc, e = .returned (.tuple #[.agg #[.int .u8 x.k, .string x.s, .bool x.c], .bool (pieceW s).2]) ∧ ((pieceW s).2 = true → x = (pieceW s).1) :=
  ⟨_, h, fun h2 => by rw [if_pos h2]⟩
set_option maxHeartbeats 8000000 in
theorem readWords_any (ws : List ByteArray) (v : Value) (w : World) (hv : StrsAt w v ws) (hsz : ∀ s ∈ ws, s.size ≤ 140737488355328) (hn : ws.length ≤ 100000) (hT : Tabs w) (hC : Cls2 w) (hN : Nts w) :
    Calls Tryz.prog 54 #[v] w fun e w' => RwsEnd w.heap.size ws e w' ∧ Below w.heap.size w w' := by
  obtain ⟨p, cap, rfl, hl, hc, hrow⟩ := hv
  unfold maxLen at hc
  obtain ⟨i0, hi, hz0, hz1, hz2⟩ := info_parts info_pc
  have ag := Tryz.isAgg56
  have zg := Tryz.sizeOf56
  have HR := Lib.hid hrow
  have HS := Lib.hid hsz
  have HT := Lib.hid hT
  have HN := Lib.hid hN
  have HCl := Lib.hid hC
  clear hrow hsz hT hN hC
  go_enter Tryz.func54, Tryz.ntmps54
  go_wp2
  go_loopw [4, 11] (fun o i wr => ∃ k : Nat, k ≤ ws.length ∧ i = .int .i64 k ∧ Hid (OkTo ws k) ∧ Hid (OwnP w.heap.size o (pcsK ws k) wr) ∧ Hid (Below w.heap.size w wr)) (fun _ i _ => ws.length - (RowKit.intOf i).toNat)
  case atStart => exact ⟨0, Nat.zero_le _, rfl, (fun _ h => absurd h (Nat.not_lt_zero _)), OwnP.nil _ _, Below.refl _ _⟩
  case round =>
    obtain ⟨k, hk, rfl, HO, HK, HB⟩ := hrel
    by_cases hlt : k < ws.length
    · obtain ⟨A, rfl, hA, hcell⟩ := HR.out (by omega)
      have x0 := strs_cell hA hcell hlt HB.out
      have hS := pcsK_succ hlt
      have hsb := HS.out _ (getS_mem hlt)
      have hL := pcsK_len (Nat.le_of_lt hlt)
      have HFE := Lib.hid (okW_no hlt)
      have HOS := Lib.hid (HO.out.succ (k := k))
      clear hcell
      generalize ws.getD k ByteArray.empty = s at x0 hS hsb HFE HOS
      generalize pcsK ws k = o1 at HK hS hL
      have q1 := Lib.hid (show o1.length + 1 ≤ maxLen by unfold maxLen; omega)
      have q2 := Lib.hid (show (o1.length + 1) * 32 ≤ 140737488355328 by omega)
      clear hL
      have cP := readWord_any s wr hsb (HT.out.step HB.out) (HCl.out.below HB.out (by have := HN.out.1; omega)) (HN.out.step HB.out)
      obtain ⟨ao, ca, rfl⟩ := HK.out.form
      cases hok : (pieceW s).2
      · have HX := Lib.hid (HFE.out hok)
        have HPF := Lib.hid (fun e (h : WrdEnd s e) => show ∃ x : Pc, e = .returned (.tuple #[.agg #[.int .u8 x.k, .string x.s, .bool x.c], .bool false]) from by obtain ⟨x, h1, _⟩ := h.of; rw [hok] at h1; exact ⟨x, h1⟩)
        clear hS hok
        go_wp2_with (go_at_call 100; (with_reducible refine cP.mono ?_); rintro e w2 ⟨he2, hb2⟩; obtain ⟨x, rfl⟩ := HPF.out _ he2; have HB2 := Lib.hid (below_next HB.out hb2); clear he2 hb2)
        go_ret2
        exact ⟨by unfold RwsEnd; rw [if_neg (by rw [HX.out]; simp)]; rfl, HB2.out.trans ((below_box _).mono HB2.out.size)⟩
      · have HNx := Lib.hid (HOS.out hok)
        obtain ⟨x, hx⟩ : ∃ x, (pieceW s).1 = x := ⟨_, rfl⟩
        have HPF := Lib.hid (fun e (h : WrdEnd s e) => show e = .returned (.tuple #[.agg #[.int .u8 x.k, .string x.s, .bool x.c], .bool true]) from by obtain ⟨x', h1, h2⟩ := h.of; rw [hok] at h1 h2; rw [h1, h2 rfl, hx])
        rw [hx] at hS
        clear hok hx
        obtain ⟨xk, xs, xc⟩ := x
        have HOW := HK
        have HS1 := Lib.hid (show pcsK ws (k + 1) = o1 ++ [⟨xk, xs, xc⟩] from hS)
        clear hS
        have news2 : Hid (∀ w2 : World, ∀ j u, ([.int .u8 xk, .string xs, .bool xc] : List Value)[j]? = some u → ((w2.alloc (.cells #[.int .u8 xk, .string xs, .bool xc] 56)).alloc (.cells #[.int .u8 xk, .string xs, .bool xc] 56)).cell? (Addr.add ⟨w2.heap.size + 1, 0, none⟩ j) = some u) := by
          intro w2
          have := cell_new3 (w2.alloc (.cells #[.int .u8 xk, .string xs, .bool xc] 56)) (.int .u8 xk) (.string xs) (.bool xc) 56
          rw [show (w2.alloc (.cells #[.int .u8 xk, .string xs, .bool xc] 56)).heap.size = w2.heap.size + 1 by simp] at this
          exact this
        have q3 : Hid (∀ w2 : World, w.heap.size ≤ w2.heap.size → w.heap.size ≤ ((w2.alloc (.cells #[.int .u8 xk, .string xs, .bool xc] 56)).alloc (.cells #[.int .u8 xk, .string xs, .bool xc] 56)).heap.size) := fun w2 h => by simp; omega
        have one3 : Hid (∀ u ∈ ([.int .u8 xk, .string xs, .bool xc] : List Value), u.oneCell' = true) := by intro u hu; simp at hu; rcases hu with rfl | rfl | rfl <;> rfl
        go_wp2_with (first
          | (go_at_call 100; (with_reducible refine cP.mono ?_); rintro e w2 ⟨he2, hb2⟩; obtain rfl := HPF.out _ he2; have HB2 := Lib.hid (below_next HB.out hb2); have hown := HOW.out; unfold OwnP at hown; have hown2 := ownsRow_step hb2 hown; have hsz2 := HB2.out.size; clear he2 hb2)
          | (at_builtin; refine wpList_append_own _ rfl _ _ 35 rfl w.heap.size 56 i0 _ 3 32 Tryz.underlying35 hi hz0 hz1 hz2 rfl (by decide) _ _ _ rfl ((hown2.alloc (.cells #[.int .u8 xk, .string xs, .bool xc] 56)).alloc (.cells #[.int .u8 xk, .string xs, .bool xc] 56)) ⟨w2.heap.size + 1, 0, none⟩ 1 1 [.int .u8 xk, .string xs, .bool xc] rfl rfl (news2.out w2) one3.out q1.out q2.out (q3.out w2 hsz2) ?_; intro v3 w3 hown3 hgrow3 hnil3
             have HB3 := Lib.hid (((HB2.out.alloc hsz2 (.cells #[.int .u8 xk, .string xs, .bool xc] 56)).alloc (by simp; omega) (.cells #[.int .u8 xk, .string xs, .bool xc] 56)).grown hgrow3 (q3.out w2 hsz2) (fun k hk => (hown2.lt k hk).1))
             have HK3 := Lib.hid (OwnP.more (x := ⟨xk, xs, xc⟩) hown3)
             clear hown hown2 hown3 hgrow3 hnil3))
        go_roundw
        case rel => exact ⟨k + 1, by omega, by go_num, HNx.out, (by show OwnP _ _ _ _; rw [HS1.out]; exact HK3.out), HB3.out⟩
        case measure => simp [RowKit.intOf]; omega
    · have hkl : k = ws.length := by omega
      have HX := Lib.hid (show OwnP w.heap.size _ (pcsL ws) wr by rw [← pcsK_all, ← hkl]; exact HK.out)
      have HY := Lib.hid (show okW ws = true by rw [hkl] at HO; exact HO.out.all)
      clear hkl HK
      go_wp2
      go_ret2
      exact ⟨by unfold RwsEnd; rw [if_pos HY.out]; exact ⟨_, rfl, HX.out⟩, HB.out⟩
end Go.Proofs.YtnbeomclmggbiaaGreatDoor
namespace Go.Proofs.YtnbeomclmggbiaaGreatDoor
open Go Go.RowKit Go.Lib
set_option maxRecDepth 100000
theorem cells3_len (l : List Pc) : (cells3 l).length = l.length * 3 := by
  induction l with
  | nil => rfl
  | cons x l ih => unfold cells3 at ih ⊢; rw [List.flatMap_cons, List.length_append, ih, List.length_cons]; simp; omega
theorem cells3_cons (x : Pc) (l : List Pc) : cells3 (x :: l) = .int .u8 x.k :: .string x.s :: .bool x.c :: cells3 l := rfl
theorem cells3_set : ∀ (l : List Pc) (k : Nat) (x : Pc), k < l.length → cells3 (l.set k x) = (((cells3 l).set (k * 3) (.int .u8 x.k)).set (k * 3 + 1) (.string x.s)).set (k * 3 + 2) (.bool x.c)
  | y :: l, 0, x, _ => rfl
  | y :: l, k + 1, x, h => by
    have ih := cells3_set l k x (by simpa using h)
    rw [List.set_cons_succ, cells3_cons, cells3_cons, ih, show (k + 1) * 3 = k * 3 + 1 + 1 + 1 by omega, show k * 3 + 1 + 1 + 1 + 1 = (k * 3 + 1) + 1 + 1 + 1 by omega, show k * 3 + 1 + 1 + 1 + 2 = (k * 3 + 2) + 1 + 1 + 1 by omega]
    rfl
theorem OwnP.set {B : Nat} {g cap : Nat} {l : List Pc} {w : World} (h : OwnP B (.slice (some ⟨g, 0, none⟩) l.length cap) l w) {k : Nat} (hk : k < l.length) (x : Pc) :
    OwnP B (.slice (some ⟨g, 0, none⟩) l.length cap) (l.set k x) (((w.setCell ⟨g, k * 3, none⟩ (.int .u8 x.k)).setCell ⟨g, k * 3 + 1, none⟩ (.string x.s)).setCell ⟨g, k * 3 + 2, none⟩ (.bool x.c)) := by
  unfold OwnP at h ⊢
  rw [List.length_set, cells3_set l k x hk]
  exact ownsRow_put (ownsRow_put (ownsRow_put h _ _) _ _) _ _
theorem OwnP.place {B : Nat} {l : List Pc} {v : Value} {w : World} (h : OwnP B v l w) {k : Nat} (hk : k < l.length) : ∃ g cap, v = .slice (some ⟨g, 0, none⟩) l.length cap ∧ l.length ≤ cap ∧ g < w.heap.size ∧ B ≤ g ∧
    w.cell? ⟨g, k * 3, none⟩ = some (.int .u8 (l.getD k Go.Proofs.YtnbeomclmggbiaaGreatDoor.nil).k) ∧ w.cell? ⟨g, k * 3 + 1, none⟩ = some (.string (l.getD k Go.Proofs.YtnbeomclmggbiaaGreatDoor.nil).s) ∧ w.cell? ⟨g, k * 3 + 2, none⟩ = some (.bool (l.getD k Go.Proofs.YtnbeomclmggbiaaGreatDoor.nil).c) ∧
    w.frozen? ⟨g, k * 3, none⟩ = false ∧ w.frozen? ⟨g, k * 3 + 1, none⟩ = false ∧ w.frozen? ⟨g, k * 3 + 2, none⟩ = false := by
  have hp := h.at
  obtain ⟨p, cap', e, h1, h2, h3⟩ := hp
  rcases h.2 with ⟨rfl, h0⟩ | ⟨g, cap, cur, rfl, hg, hh, hn, hm, _⟩
  · omega
  · cases e
    obtain ⟨A, hA1, hA, hcell⟩ := h3 (by omega)
    cases hA1
    obtain ⟨c0, c1, c2⟩ := pcs_cells hA hcell hk (Below.refl _ w)
    rw [add_at] at c0 c1 c2
    exact ⟨g, _, rfl, hn, hA, hg, c0, c1, c2, Lib.frozen_of_heap hh _, Lib.frozen_of_heap hh _, Lib.frozen_of_heap hh _⟩
/-- the first pieces stand as holes already -/
def mixL (l : List Pc) (k : Nat) : List Pc := (l.take k).map holeW ++ l.drop k
theorem mixL_zero (l : List Pc) : mixL l 0 = l := by unfold mixL; simp
theorem mixL_all (l : List Pc) : mixL l l.length = l.map holeW := by unfold mixL; simp
theorem mixL_len (l : List Pc) (k : Nat) : (mixL l k).length = l.length := by unfold mixL; simp; omega
theorem mixL_get {l : List Pc} {k : Nat} (h : k < l.length) : (mixL l k).getD k nil = l.getD k nil := by
  unfold mixL
  rw [List.getD_eq_getElem?_getD, List.getElem?_append_right (by simp; omega), List.getD_eq_getElem?_getD]
  simp [Nat.min_eq_left (Nat.le_of_lt h)]
theorem mixL_succ {l : List Pc} {k : Nat} (h : k < l.length) : mixL l (k + 1) = (mixL l k).set k (holeW (l.getD k nil)) := by
  unfold mixL
  have hl : ((l.take k).map holeW).length = k := by simp; omega
  rw [List.set_append_right (h := by omega), hl, Nat.sub_self, takeP_succ h, List.map_append, List.append_assoc]
  congr 1
  rw [List.drop_eq_getElem_cons h, List.set_cons_zero, List.getD_eq_getElem?_getD, List.getElem?_eq_getElem h]
  rfl
theorem mixL_same {l : List Pc} {k : Nat} (h : k < l.length) (hk : (l.getD k nil).k ≠ 1) : mixL l (k + 1) = mixL l k := by
  rw [mixL_succ h]
  unfold holeW
  rw [if_neg hk, ← mixL_get h]
  apply List.ext_getElem?
  intro i
  rw [List.getElem?_set]
  split
  · rename_i e
    subst e
    have h' : k < (mixL l k).length := by rw [mixL_len]; exact h
    rw [if_pos h', List.getD_eq_getElem?_getD, List.getElem?_eq_getElem h']; rfl
  · rfl
set_option maxHeartbeats 8000000 in
theorem checkWords_any (ws : List ByteArray) (v : Value) (w : World) (hv : StrsAt w v ws) (hsz : ∀ s ∈ ws, s.size ≤ 140737488355328) (hbk : ¬ 512 < ws.length → bulk (holesL ws) ≤ 100000) (hT : Tabs w) (hC : Cls2 w) (hN : Nts w) :
    Calls Tryz.prog 22 #[v] w fun e w' => e = .returned (.int .u8 (wordsE ws)) ∧ Below w.heap.size w w' := by
  have ag := Tryz.isAgg56
  have zg := Tryz.sizeOf56
  obtain ⟨p, cap, rfl⟩ := hv.form
  by_cases h512 : 512 < ws.length
  · have h512I : (512 : Int) < (ws.length : Int) := by omega
    have HX := Lib.hid (show wordsE ws = 3 by unfold wordsE; rw [if_pos h512])
    go_enter Tryz.func22, Tryz.ntmps22
    go_wp2
    go_ret
    exact ⟨ret_u8 HX.out.symm, Below.refl _ _⟩
  have h512I : ¬ (512 : Int) < (ws.length : Int) := by omega
  have cR := readWords_any ws _ w hv hsz (by omega) hT hC hN
  have HBK := Lib.hid (hbk h512)
  have H5 := Lib.hid h512
  have HT := Lib.hid hT
  clear hsz hbk hv
  cases hok : okW ws
  · have HX := Lib.hid (show wordsE ws = 4 by unfold wordsE; rw [if_neg h512]; exact if_neg (show ¬ okW ws = true by rw [hok]; simp))
    have HP := Lib.hid (fun B e w' (h : RwsEnd B ws e w') => h.no hok)
    clear hok
    go_enter Tryz.func22, Tryz.ntmps22
    go_wp2_with (go_at_call 54; (with_reducible refine cR.mono ?_); rintro e w2 ⟨he2, hb2⟩; obtain rfl := HP.out _ _ _ he2; have HB2 := Lib.hid hb2; clear hb2 he2)
    go_ret
    exact ⟨ret_u8 HX.out.symm, HB2.out⟩
  · have HX := Lib.hid (show wordsE ws = checkE (holesL ws) by unfold wordsE; rw [if_neg h512]; exact if_pos hok)
    have HP := Lib.hid (fun B e w' (h : RwsEnd B ws e w') => h.yes hok)
    have hpl := pcsL_len ws
    have hhp := holesL_pcs ws
    rw [hhp] at HX HBK
    have hl5 : (pcsL ws).length ≤ 512 := by omega
    clear hok hhp hpl
    generalize pcsL ws = l at *
    go_enter Tryz.func22, Tryz.ntmps22
    go_wp2_with (go_at_call 54; (with_reducible refine cR.mono ?_); rintro e w2 ⟨he2, hb2⟩; obtain ⟨v2, rfl, hO2⟩ := HP.out _ _ _ he2; have HB2 := Lib.hid hb2; obtain ⟨ao, ca, rfl⟩ := hO2.form; have HO2 := Lib.hid hO2; clear hb2 he2 hO2)
    go_loopw [19] (fun i wr => ∃ k : Nat, k ≤ l.length ∧ i = .int .i64 k ∧ Hid (OwnP w.heap.size (.slice ao l.length ca) (mixL l k) wr) ∧ Hid (Below w.heap.size w wr)) (fun i _ => l.length - (RowKit.intOf i).toNat)
    case atStart => exact ⟨0, Nat.zero_le _, rfl, by show OwnP _ _ _ _; rw [mixL_zero]; exact HO2.out, HB2.out⟩
    case round =>
      obtain ⟨k, hk, rfl, HK, HB⟩ := hrel
      by_cases hlt : k < l.length
      · have hml : k < (mixL l k).length := by rw [mixL_len]; exact hlt
        obtain ⟨g, cap', hv', hcap, hgl, hBg, x0, x1, x2, f0, f1, f2⟩ := HK.out.place hml
        rw [mixL_len] at hv' hcap
        cases hv'
        rw [mixL_get hlt] at x0 x1 x2
        have hSm := fun h => mixL_same (k := k) hlt h
        have hSx := mixL_succ hlt
        have HKP := Lib.hid (fun x => by have := HK.out; rw [← mixL_len l k] at this; exact OwnP.set this hml x)
        generalize l.getD k nil = x at x0 x1 x2 hSm hSx
        obtain ⟨xk, xs, xc⟩ := x
        dsimp only at x0 x1 x2 hSm
        have HKX := Lib.hid (HK.out.step (below_box (w := wr) (.cells #[.int .u8 xk, .string xs, .bool xc] 56)))
        have HBX := Lib.hid (below_next HB.out (below_box (w := wr) (.cells #[.int .u8 xk, .string xs, .bool xc] 56)))
        by_cases h1 : xk = 1
        · subst h1
          have HS := Lib.hid (show mixL l (k + 1) = (mixL l k).set k holeX from hSx)
          have HKY := Lib.hid (show OwnP w.heap.size (.slice (some ⟨g, 0, none⟩) (mixL l k).length ca) ((mixL l k).set k holeX) (((wr.setCell ⟨g, k * 3, none⟩ (.int .u8 5)).setCell ⟨g, k * 3 + 1, none⟩ (.string ⟨#[120]⟩)).setCell ⟨g, k * 3 + 2, none⟩ (.bool false)) from by
            have := HK.out; rw [← mixL_len l k] at this; exact OwnP.set this hml holeX)
          rw [mixL_len] at HKY
          clear hSm hSx hml
          go_wp2
          go_roundw
          case rel => exact ⟨k + 1, by omega, by go_num, by show OwnP _ _ _ _; rw [HS.out]; exact HKY.out.step (below_box _), below_next (((HB.out.setCell (p := ⟨g, k * 3, none⟩) hBg _).setCell (p := ⟨g, k * 3 + 1, none⟩) hBg _).setCell (p := ⟨g, k * 3 + 2, none⟩) hBg _) (below_box _)⟩
          case measure => simp [RowKit.intOf]; omega
        · have h1b : (xk == 1) = false := by simpa using h1
          have HS := Lib.hid (hSm h1)
          clear hSm hSx hml h1
          go_wp2
          go_roundw
          case rel => exact ⟨k + 1, by omega, by go_num, by show OwnP _ _ _ _; rw [HS.out]; exact HKX.out, HBX.out⟩
          case measure => simp [RowKit.intOf]; omega
      · have hkl : k = l.length := by omega
        have HM := Lib.hid (show OwnP w.heap.size (.slice ao l.length ca) (l.map holeW) wr by rw [← mixL_all, ← hkl]; rw [← hkl] at HK; exact HK.out)
        have cC := checkPieces_any (l.map holeW) (.slice ao l.length ca) wr HM.out.at (short_mem HBK.out) (HT.out.step HB.out)
        clear hkl HK
        go_wp2_with (go_at_call 51; (with_reducible refine cC.mono ?_); rintro e w3 ⟨rfl, hb3⟩; have HB3 := Lib.hid (below_next HB.out hb3); clear hb3)
        go_ret
        exact ⟨ret_u8 HX.out.symm, HB3.out⟩
end Go.Proofs.YtnbeomclmggbiaaGreatDoor
namespace Go.Proofs.YtnbeomclmggbiaaGreatDoor
open Go Go.RowKit Go.Lib
set_option maxRecDepth 100000
structure Js where
  o : List Pc
  t : List UInt8
  last : Pc
  due : Bool
/-- a blank stands ahead of a place -/
def sepB (l : List Pc) (k : Nat) (last : Pc) : Bool := match firstB (l.drop k) with
  | some n => apartB last.s n.s
  | none => false
def js1 (l : List Pc) (k : Nat) (x : Pc) (st : Js) : Js := if st.due = true ∧ x.k ≠ 3 then ⟨st.o, if sepB l k st.last = true then st.t ++ [32] else st.t, st.last, false⟩ else st
def js2 (x : Pc) (st : Js) : Js := if isTagB x = true then st else ⟨st.o, st.t, x, true⟩
def js3 (x : Pc) (st : Js) : Js := if x.k = 1 then ⟨st.o, st.t ++ x.s.data.toList, st.last, st.due⟩ else ⟨st.o ++ flush st.t ++ [x], [], st.last, st.due⟩
def jTo (l : List Pc) : Nat → Js
  | 0 => ⟨[], [], nil, false⟩
  | k + 1 => js3 (l.getD k nil) (js2 (l.getD k nil) (js1 l k (l.getD k nil) (jTo l k)))
theorem word_cases {s : ByteArray} (h : (pieceW s).2 = true) : Mk (pieceW s).1 s.data.toList ∨ ((pieceW s).1 = ⟨1, s, false⟩ ∧ rowB s = true) := by
  by_cases hm : ∃ y, Mk y s.data.toList
  · obtain ⟨y, hy⟩ := hm
    left
    rw [pieceW_some hy]; exact hy
  · have hn : ∀ y, ¬ Mk y s.data.toList := fun y hy => hm ⟨y, hy⟩
    right
    rw [pieceW_none hn] at h ⊢
    exact ⟨rfl, h⟩
theorem tagW_piece (s : ByteArray) : tagW s = isTagB (pieceW s).1 := by
  by_cases hm : ∃ y, Mk y s.data.toList
  · obtain ⟨y, hy⟩ := hm
    rw [pieceW_some hy, tagW_some hy]
  · have hn : ∀ y, ¬ Mk y s.data.toList := fun y hy => hm ⟨y, hy⟩
    rw [pieceW_none hn, tagW_none hn]; rfl
theorem row_size {s : ByteArray} (h : rowB s = true) : 0 < s.size := by
  have hl : (runesOf s).length ≤ s.size := runesG_length _ _
  unfold rowB at h
  simp only [Bool.and_eq_true, decide_eq_true_eq] at h
  omega
theorem list_size (s : ByteArray) : s.data.toList.length = s.size := rfl
theorem word_size {s : ByteArray} (h : (pieceW s).2 = true) : 0 < s.size := by
  rcases word_cases h with h | ⟨_, h⟩
  · have := h.size
    rw [list_size] at this
    omega
  · exact row_size h
theorem isE_no {s : ByteArray} (h : 0 < s.size) : isE s = false := by
  unfold isE
  rw [ByteArray.toList_eq]
  cases e : s.data.toList with
  | nil => rw [← list_size, e] at h; simp at h
  | cons _ _ => rfl
theorem isE_nil : isE ByteArray.empty = true := by unfold isE; rw [ByteArray.toList_eq]; rfl
theorem marks_one : ∀ y ∈ marks8, ∃ c : UInt8, y.toList = [c] ∧ isL (c.toNat : Int) = false := by
  intro y hy
  simp only [marks8, List.mem_cons, List.not_mem_nil, or_false] at hy
  rcases hy with rfl | rfl | rfl | rfl | rfl | rfl | rfl | rfl <;> exact ⟨_, ByteArray.toList_eq _, by decide⟩
theorem opens_one : ∀ y ∈ opens2, ∃ c : UInt8, y.toList = [c] ∧ isL (c.toNat : Int) = false := by
  intro y hy
  simp only [opens2, List.mem_cons, List.not_mem_nil, or_false] at hy
  rcases hy with rfl | rfl <;> exact ⟨_, ByteArray.toList_eq _, by decide⟩
theorem inB_no {L : List ByteArray} {s : ByteArray} (hL : ∀ y ∈ L, ∃ c : UInt8, y.toList = [c] ∧ isL (c.toNat : Int) = false) (hs : ∀ c : UInt8, s.data.toList = [c] → isL (c.toNat : Int) = true) : inB L s = false := by
  unfold inB
  rw [List.any_eq_false]
  intro y hy h
  obtain ⟨c, h1, h2⟩ := hL y hy
  have h3 := eq_of_beq h
  rw [h1, ByteArray.toList_eq] at h3
  rw [hs c h3.symm] at h2
  cases h2
/-- a hole's name and its written form are no marks -/
theorem bare_same {s : ByteArray} (h : (pieceW s).2 = true) : inB marks8 (pieceW s).1.s = inB marks8 s ∧ inB opens2 (pieceW s).1.s = inB opens2 s := by
  rcases word_cases h with hm | ⟨e, _⟩
  · generalize (pieceW s).1 = x at hm
    have hk := hm.kinds.1
    have h1 := hm.size
    have hn : 1 ≤ x.s.size := by
      unfold nameB at hk
      simp only [Bool.and_eq_true, decide_eq_true_eq] at hk
      exact hk.1.1.1
    have a1 : ∀ c : UInt8, s.data.toList = [c] → isL (c.toNat : Int) = true := by
      intro c hc
      rw [hc] at h1
      simp only [List.length_cons, List.length_nil] at h1
      omega
    have a2 : ∀ c : UInt8, x.s.data.toList = [c] → isL (c.toNat : Int) = true := by
      intro c hc
      unfold nameB at hk
      simp only [Bool.and_eq_true] at hk
      have h0 := hk.1.2
      rw [get0 (by omega)] at h0
      have hc0 : x.s[0] = c := by
        have : x.s.data.toList[0]'(by rw [hc]; simp) = c := by simp [hc]
        exact this
      rw [hc0] at h0
      exact h0
    rw [inB_no marks_one a1, inB_no marks_one a2, inB_no opens_one a1, inB_no opens_one a2]
    exact ⟨rfl, rfl⟩
  · rw [e]
    exact ⟨rfl, rfl⟩
theorem apart_same {s n : ByteArray} (hs : (pieceW s).2 = true) (hn : (pieceW n).2 = true) : apartB (pieceW s).1.s (pieceW n).1.s = apartB s n := by
  unfold apartB
  rw [(bare_same hs).2, (bare_same hn).1]
theorem okW_get {ws : List ByteArray} (h : okW ws = true) {k : Nat} (hk : k < ws.length) : (pieceW (ws.getD k ByteArray.empty)).2 = true := by
  unfold okW at h
  rw [List.all_eq_true] at h
  exact h _ (getS_mem hk)
theorem pcsL_get {ws : List ByteArray} {k : Nat} (hk : k < ws.length) : (pcsL ws).getD k nil = (pieceW (ws.getD k ByteArray.empty)).1 := by
  unfold pcsL
  rw [List.getD_eq_getElem?_getD, List.getElem?_map, List.getD_eq_getElem?_getD, List.getElem?_eq_getElem hk]
  rfl
/-- the first bare word behind a place, on both sides -/
theorem first_same (ws : List ByteArray) (k : Nat) : firstB ((pcsL ws).drop k) = ((ws.drop k).find? fun s => !tagW s).map fun s => (pieceW s).1 := by
  unfold firstB pcsL
  rw [← List.map_drop, List.find?_map]
  congr 2
  funext s
  simp only [Function.comp_apply, tagW_piece]
theorem sep_same {ws : List ByteArray} (hok : okW ws = true) (k : Nat) {last : Pc} {lastW : ByteArray} (hl : ∀ n, apartB last.s n = apartB lastW n) :
    sepB (pcsL ws) k last = true ↔ isE (behindW ws k) = false ∧ apartB lastW (behindW ws k) = true := by
  unfold sepB behindW
  rw [first_same]
  cases e : (ws.drop k).find? fun s => !tagW s with
  | none => simp [isE_nil]
  | some n =>
    have hm : n ∈ ws := List.mem_of_mem_drop (List.mem_of_find?_eq_some e)
    have hn : (pieceW n).2 = true := by
      unfold okW at hok
      rw [List.all_eq_true] at hok
      exact hok n hm
    simp only [Option.map_some, Option.getD_some]
    rw [isE_no (word_size hn), hl]
    unfold apartB
    rw [(bare_same hn).1]
    simp
/-- both sides between two words -/
def JR (sp : List Pc × ByteArray × Bool) (st : Js) : Prop :=
  sp.1 = st.o ++ flush st.t ∧ (∀ y, st.o.getLast? = some y → y.k ≠ 1) ∧ st.due = (!isE sp.2.1 && !sp.2.2) ∧ ∀ n, apartB st.last.s n = apartB sp.2.1 n
theorem flush_text {o : List Pc} {t : List UInt8} {s : ByteArray} (ho : ∀ y, o.getLast? = some y → y.k ≠ 1) (hs : 0 < s.size) : addP (o ++ flush t) ⟨1, s, false⟩ = o ++ flush (t ++ s.data.toList) := by
  have hne : s.data.toList ≠ [] := by intro h; rw [← list_size, h] at hs; simp at hs
  by_cases ht : t = []
  · subst ht
    have e1 : flush [] = [] := rfl
    have e2 : flush ([] ++ s.data.toList) = [⟨1, s, false⟩] := by unfold flush; rw [List.nil_append, if_neg hne]; rfl
    rw [e1, e2, List.append_nil]
    rcases List.eq_nil_or_concat o with rfl | ⟨o', y, rfl⟩
    · rfl
    · rw [List.concat_eq_append] at ho ⊢
      exact addP_more (fun h => ho y List.getLast?_concat h.2)
  · have e1 : flush t = [⟨1, bytes t, false⟩] := by unfold flush; rw [if_neg ht]
    have e2 : flush (t ++ s.data.toList) = [⟨1, bytes (t ++ s.data.toList), false⟩] := by unfold flush; rw [if_neg (by simp [ht])]
    rw [e1, e2, addP_join rfl rfl]
    apply congrArg (fun z => o ++ [Pc.mk 1 z false])
    apply ByteArray.ext
    apply Array.ext'
    simp [bytes]
theorem flush_other {o : List Pc} {t : List UInt8} {x : Pc} (hx : x.k ≠ 1) : addP (o ++ flush t) x = o ++ flush t ++ [x] := by
  rcases List.eq_nil_or_concat (o ++ flush t) with e | ⟨o', y, e⟩
  · rw [e]; rfl
  · rw [e, List.concat_eq_append]
    exact addP_more (fun h => hx h.1)
theorem spX_list : (⟨#[32]⟩ : ByteArray).data.toList = [32] := rfl
/-- a word's piece behind all that stands -/
theorem js3_add {st : Js} {x : Pc} (ho : ∀ y, st.o.getLast? = some y → y.k ≠ 1) (hx : x.k = 1 → x = ⟨1, x.s, false⟩ ∧ 0 < x.s.size) :
    addP (st.o ++ flush st.t) x = (js3 x st).o ++ flush (js3 x st).t ∧ (∀ y, (js3 x st).o.getLast? = some y → y.k ≠ 1) ∧ (js3 x st).last = st.last ∧ (js3 x st).due = st.due := by
  unfold js3
  by_cases h : x.k = 1
  · rw [if_pos h]
    obtain ⟨e, hs⟩ := hx h
    refine ⟨?_, ho, rfl, rfl⟩
    rw [e]
    exact flush_text ho hs
  · rw [if_neg h]
    refine ⟨by rw [flush_other h]; exact (List.append_nil _).symm, fun y hy => ?_, rfl, rfl⟩
    rw [List.getLast?_concat] at hy
    cases hy
    exact h
theorem jTo_eq {ws : List ByteArray} (hok : okW ws = true) : ∀ k, k ≤ ws.length → JR (spTo ws k) (jTo (pcsL ws) k)
  | 0, _ => ⟨rfl, fun y h => (by cases h), by show false = _; rw [show (spTo ws 0).2.1 = ByteArray.empty from rfl, isE_nil]; rfl, fun n => rfl⟩
  | k + 1, hk => by
    have ih := jTo_eq hok k (by omega)
    have hw := okW_get hok (k := k) (by omega)
    have hsep := fun last lastW => @sep_same ws hok k last lastW
    have hsz := word_size hw
    have hx : (pieceW (ws.getD k ByteArray.empty)).1.k = 1 → (pieceW (ws.getD k ByteArray.empty)).1 = ⟨1, (pieceW (ws.getD k ByteArray.empty)).1.s, false⟩ ∧ 0 < (pieceW (ws.getD k ByteArray.empty)).1.s.size := by
      intro h1
      rcases word_cases hw with hm | ⟨e, hr⟩
      · exact absurd h1 hm.1
      · rw [e]; exact ⟨rfl, hsz⟩
    have hap := fun n => show apartB (pieceW (ws.getD k ByteArray.empty)).1.s n = apartB (ws.getD k ByteArray.empty) n by unfold apartB; rw [(bare_same hw).2]
    have hbh : isTagB (pieceW (ws.getD k ByteArray.empty)).1 = false → behindW ws k = ws.getD k ByteArray.empty := fun h => behindW_hit (by omega) (by rw [tagW_piece]; exact h)
    have hk3 : isTagB (pieceW (ws.getD k ByteArray.empty)).1 = false → (pieceW (ws.getD k ByteArray.empty)).1.k ≠ 3 := by intro h e; unfold isTagB at h; rw [e] at h; simp at h
    show JR (spStep ws k (ws.getD k ByteArray.empty) (pieceW (ws.getD k ByteArray.empty)).1 (spTo ws k).1 (spTo ws k).2.1 (spTo ws k).2.2) (js3 ((pcsL ws).getD k nil) (js2 ((pcsL ws).getD k nil) (js1 (pcsL ws) k ((pcsL ws).getD k nil) (jTo (pcsL ws) k))))
    rw [pcsL_get (by omega)]
    generalize spTo ws k = sp at ih
    generalize jTo (pcsL ws) k = st at ih
    generalize (pieceW (ws.getD k ByteArray.empty)).1 = x at *
    generalize ws.getD k ByteArray.empty = s at *
    obtain ⟨out, lastW, blank⟩ := sp
    obtain ⟨o, t, last, due⟩ := st
    obtain ⟨h1, h2, h3, h4⟩ := ih
    dsimp only at h1 h2 h3 h4 ⊢
    subst h1 h3
    have hse := hsep last lastW h4
    have hput : addP (o ++ flush t) spX = o ++ flush (t ++ [32]) := flush_text (s := ⟨#[32]⟩) h2 (by decide)
    unfold spStep js1 js2
    cases htg : isTagB x
    · have hb := hbh htg
      rw [hb] at hse
      have hk := hk3 htg
      simp only [Bool.false_eq_true, if_false]
      cases hd : (!isE lastW && !blank)
      · have hn : ¬ (isE lastW = false ∧ blank = false ∧ apartB lastW s = true) := by
          rintro ⟨a, b, _⟩
          rw [a, b] at hd; cases hd
        rw [if_neg hn, if_neg (by simp)]
        obtain ⟨a1, a2, a3, a4⟩ := js3_add (st := ⟨o, t, x, true⟩) (x := x) h2 hx
        exact ⟨a1, a2, by rw [a4, isE_no hsz]; rfl, fun n => by rw [a3]; exact hap n⟩
      · simp only [Bool.and_eq_true, Bool.not_eq_true'] at hd
        rw [if_pos (show true = true ∧ x.k ≠ 3 from ⟨rfl, hk⟩)]
        by_cases hq : sepB (pcsL ws) k last = true
        · have hs1 := hse.1 hq
          rw [if_pos ⟨hd.1, hd.2, hs1.2⟩, if_pos hq, hput]
          obtain ⟨a1, a2, a3, a4⟩ := js3_add (st := ⟨o, t ++ [32], x, true⟩) (x := x) h2 hx
          exact ⟨a1, a2, by rw [a4, isE_no hsz]; rfl, fun n => by rw [a3]; exact hap n⟩
        · have hs1 : ¬ (isE lastW = false ∧ blank = false ∧ apartB lastW s = true) := fun h => hq (hse.2 ⟨isE_no hsz, h.2.2⟩)
          rw [if_neg hs1, if_neg hq]
          obtain ⟨a1, a2, a3, a4⟩ := js3_add (st := ⟨o, t, x, true⟩) (x := x) h2 hx
          exact ⟨a1, a2, by rw [a4, isE_no hsz]; rfl, fun n => by rw [a3]; exact hap n⟩
    · simp only [if_true]
      cases hd : (!isE lastW && !blank)
      · have hn : ¬ (x.k ≠ 3 ∧ isE lastW = false ∧ blank = false) := by
          rintro ⟨_, a, b⟩
          rw [a, b] at hd; cases hd
        rw [if_neg hn, if_neg (by simp)]
        obtain ⟨a1, a2, a3, a4⟩ := js3_add (st := ⟨o, t, last, false⟩) (x := x) h2 hx
        exact ⟨a1, a2, by rw [a4]; exact hd.symm, fun n => by rw [a3]; exact h4 n⟩
      · have hd' := hd
        simp only [Bool.and_eq_true, Bool.not_eq_true'] at hd
        by_cases h3 : x.k = 3
        · have hn : ¬ (x.k ≠ 3 ∧ isE lastW = false ∧ blank = false) := fun h => h.1 h3
          rw [if_neg hn, if_neg (by simp [h3])]
          obtain ⟨a1, a2, a3, a4⟩ := js3_add (st := ⟨o, t, last, true⟩) (x := x) h2 hx
          exact ⟨a1, a2, by rw [a4]; exact hd'.symm, fun n => by rw [a3]; exact h4 n⟩
        · rw [if_pos ⟨h3, hd.1, hd.2⟩, if_pos (show true = true ∧ x.k ≠ 3 from ⟨rfl, h3⟩)]
          by_cases hq : sepB (pcsL ws) k last = true
          · rw [if_pos (hse.1 hq), if_pos hq, hput]
            obtain ⟨a1, a2, a3, a4⟩ := js3_add (st := ⟨o, t ++ [32], last, false⟩) (x := x) h2 hx
            exact ⟨a1, a2, by rw [a4]; simp, fun n => by rw [a3]; exact h4 n⟩
          · rw [if_neg (fun h => hq (hse.2 h)), if_neg hq]
            obtain ⟨a1, a2, a3, a4⟩ := js3_add (st := ⟨o, t, last, false⟩) (x := x) h2 hx
            exact ⟨a1, a2, by rw [a4]; simp, fun n => by rw [a3]; exact h4 n⟩
end Go.Proofs.YtnbeomclmggbiaaGreatDoor
namespace Go.Proofs.YtnbeomclmggbiaaGreatDoor
open Go Go.RowKit Go.Lib
set_option maxRecDepth 100000
/-- blocks of cells that are no bytes are as they were, but for one -/
def CellsKept (b : Nat) (w w' : World) : Prop := ∀ (k : Nat) (cs : Array Value) (t : TypeId), k ≠ b → t ≠ 5 → w.heap[k]? = some (.cells cs t (0, 0)) → w'.heap[k]? = some (.cells cs t (0, 0))
set_option maxHeartbeats 2000000 in
theorem putText2_any (B b : Nat) (o : List Pc) (t : List UInt8) (s : ByteArray) (w : World) (h : JoinAt B b o t w) (hlen : t.length + s.size ≤ 100000000) (hBw : B ≤ w.heap.size) :
    Calls Tryz.prog 106 #[.pointer (some ⟨b, 0, none⟩), .string s] w fun e w' => e = .returned (.tuple #[]) ∧ JoinAt B b o (t ++ s.data.toList) w' ∧ KeptBut B b w w' ∧ CellsKept b w w' := by
  obtain ⟨i0, hi, hz0, hz1, hz2⟩ := info_parts info_byte
  obtain ⟨hB, vo, vt, hbk, ho, ht⟩ := h
  have c1 : w.cell? ⟨b, 1, none⟩ = some vt := by rw [Lib.cell_of_heap hbk]; rfl
  have hown := ht
  unfold OwnB at hown
  have HO := Lib.hid ho
  have HT := Lib.hid ht
  have HBK := Lib.hid hbk
  clear ho ht
  go_enter Tryz.func106, Tryz.ntmps106
  go_wp2_with (at_builtin; refine Lib.wpList_append_own_string _ rfl _ _ 71 9 rfl B 5 i0 Tryz.underlying71 Tryz.underlying9 hi hz0 hz1 hz2 _ _ _ rfl hown s rfl ?c3 ?c4 ?c5 ?_)
  case c3 => unfold maxLen; omega
  case c4 => omega
  case c5 => omega
  intro v' w2 hown' hgrow _
  have hb2 : w2.heap[b]? = some (.cells #[vo, vt] 118 (0, 0)) := by
    rw [hgrow.block b (lt_of_block HBK.out) (fun e => own_other HT.out HBK.out (by decide) e.symm)]
    exact HBK.out
  have d1 : w2.cell? ⟨b, 1, none⟩ = some vt := by rw [Lib.cell_of_heap hb2]; rfl
  have f1 : w2.frozen? ⟨b, 1, none⟩ = false := Lib.frozen_of_heap hb2 1
  have ho2 : OwnP B vo o w2 := HO.out.kept hgrow (own_apart HO.out HT.out (by decide))
  have hT2 := OwnB.more (m := s.data.toList) hown'
  have HW := Lib.hid (JoinAt.putT hB hb2 ho2 hT2)
  obtain ⟨ao, cap, rfl⟩ := hT2.form
  have HB := Lib.hid (((KeptBut.refl B b w).grown hgrow hBw (fun k hk => (hown.lt k hk).1)).setCell 1 (.slice ao (t ++ s.data.toList).length cap))
  have HCK := Lib.hid (show CellsKept b w (w2.setCell ⟨b, 1, none⟩ (.slice ao (t ++ s.data.toList).length cap)) from fun k cs ty hk hty hw => by
    rw [Below.heap_setCell _ _ _ _ hk, hgrow.block k (lt_of_block hw) (fun e => own_other HT.out hw (Ne.symm hty) e.symm)]
    exact hw)
  rw [show (t ++ s.data.toList).length = t.length + s.size by simp] at HW HB HCK
  clear hown hown' hgrow ho2 hT2
  go_wp2
  go_end0
  exact ⟨rfl, HW.out, HB.out, HCK.out⟩
set_option maxHeartbeats 2000000 in
theorem putTextP_any (B b : Nat) (o : List Pc) (t : List UInt8) (x : Pc) (w : World) (h : JoinAt B b o t w) (hk : x.k = 1) (hlen : t.length + x.s.size ≤ 100000000) (hBw : B ≤ w.heap.size) :
    Calls Tryz.prog 76 #[.pointer (some ⟨b, 0, none⟩), pcV x] w fun e w' => e = .returned (.tuple #[]) ∧ JoinAt B b o (t ++ x.s.data.toList) w' ∧ KeptBut B b w w' := by
  have ag := Tryz.isAgg56
  have zg := Tryz.sizeOf56
  have hbx := below_box (w := w) (pcC x)
  have cT := putText_any B b o t x.s _ (h.step hbx) hlen (Nat.le_trans hBw hbx.size)
  have HBX := Lib.hid ((KeptBut.refl B b w).alloc hBw (pcC x))
  clear h hbx
  obtain ⟨k, s, c⟩ := x
  dsimp only at hk hlen cT
  subst hk
  unfold pcV
  unfold pcC at cT HBX
  go_enter Tryz.func76, Tryz.ntmps76
  go_wp2_with (go_at_call 106; (with_reducible refine cT.mono ?_); rintro e w2 ⟨rfl, hj2, hk2⟩; have HJ := Lib.hid hj2; have HK := Lib.hid (HBX.out.trans hk2); clear hj2 hk2)
  refine bodyPost_ret (results_none rfl _ _ _) rfl ?_
  exact ⟨rfl, HJ.out, HK.out⟩
/-- both kinds of pieces -/
theorem putPc_any (B b : Nat) (st : Js) (x : Pc) (w : World) (h : JoinAt B b st.o st.t w) (hlen : st.t.length + x.s.size ≤ 100000000) (holen : st.o.length ≤ 1000000) (hBw : B ≤ w.heap.size) :
    Calls Tryz.prog 76 #[.pointer (some ⟨b, 0, none⟩), pcV x] w fun e w' => e = .returned (.tuple #[]) ∧ JoinAt B b (js3 x st).o (js3 x st).t w' ∧ KeptBut B b w w' := by
  unfold js3
  by_cases hk : x.k = 1
  · rw [if_pos hk]
    exact putTextP_any B b st.o st.t x w h hk hlen hBw
  · rw [if_neg hk]
    exact put_any B b st.o st.t x w h hk (by omega) holen hBw
set_option maxHeartbeats 2000000 in
theorem isLong_any (l : List Pc) (v : Value) (w : World) (hv : ∃ ao ca, v = .slice ao l.length ca) : Calls Tryz.prog 59 #[v] w fun e w' => e = .returned (.bool (decide (512 < l.length))) ∧ w' = w := by
  obtain ⟨ao, ca, rfl⟩ := hv
  by_cases h : (512 : Int) < (l.length : Int)
  · have HX := Lib.hid (show decide (512 < l.length) = true by simp; omega)
    go_enter Tryz.func59, Tryz.ntmps59
    go_wp2
    go_ret
    exact ⟨ret_bool HX.out.symm, rfl⟩
  · have HX := Lib.hid (show decide (512 < l.length) = false by simp; omega)
    go_enter Tryz.func59, Tryz.ntmps59
    go_wp2
    go_ret
    exact ⟨ret_bool HX.out.symm, rfl⟩
end Go.Proofs.YtnbeomclmggbiaaGreatDoor
namespace Go.Proofs.YtnbeomclmggbiaaGreatDoor
open Go Go.RowKit Go.Lib
set_option maxRecDepth 100000
def SpS (w : World) (o : List Pc) (t : List UInt8) (last : Pc) (wr : World) : Prop :=
  JoinAt (w.heap.size + 2) w.heap.size o t wr ∧ wr.heap[w.heap.size + 1]? = some (pcC last) ∧ Below w.heap.size w wr ∧ w.heap.size + 2 ≤ wr.heap.size
theorem SpS.step {w : World} {o : List Pc} {t : List UInt8} {last : Pc} {wr w2 : World} (h : SpS w o t last wr) (hb : Below wr.heap.size wr w2) : SpS w o t last w2 :=
  ⟨h.1.step hb, (hb.block _ (lt_of_block h.2.1)).trans h.2.1, below_next h.2.2.1 hb, Nat.le_trans h.2.2.2 hb.size⟩
theorem SpS.joined {w : World} {o o' : List Pc} {t t' : List UInt8} {last : Pc} {wr w2 : World} (h : SpS w o t last wr) (hj : JoinAt (w.heap.size + 2) w.heap.size o' t' w2) (hk : KeptBut (w.heap.size + 2) w.heap.size wr w2) : SpS w o' t' last w2 :=
  ⟨hj, (hk.block _ (by omega) (by omega)).trans h.2.1, h.2.2.1.trans (hk.below (by omega) (Nat.le_refl _)), Nat.le_trans h.2.2.2 hk.size⟩
theorem SpS.set {w : World} {o : List Pc} {t : List UInt8} {last : Pc} {wr : World} (h : SpS w o t last wr) (x : Pc) :
    SpS w o t x (((wr.setCell ⟨w.heap.size + 1, 0, none⟩ (.int .u8 x.k)).setCell ⟨w.heap.size + 1, 1, none⟩ (.string x.s)).setCell ⟨w.heap.size + 1, 2, none⟩ (.bool x.c)) := by
  obtain ⟨h1, h2, h3, h4⟩ := h
  exact ⟨((h1.setOther (by omega) (by omega) _ _).setOther (by omega) (by omega) _ _).setOther (by omega) (by omega) _ _, set3_cells h2 _ _ _,
    ((h3.setCell (p := ⟨w.heap.size + 1, 0, none⟩) (Nat.le_succ _) _).setCell (p := ⟨w.heap.size + 1, 1, none⟩) (Nat.le_succ _) _).setCell (p := ⟨w.heap.size + 1, 2, none⟩) (Nat.le_succ _) _, by simpa [World.setCell] using h4⟩
theorem SpS.cells {w : World} {o : List Pc} {t : List UInt8} {last : Pc} {wr : World} (h : SpS w o t last wr) : wr.cell? ⟨w.heap.size + 1, 0, none⟩ = some (.int .u8 last.k) ∧ wr.cell? ⟨w.heap.size + 1, 1, none⟩ = some (.string last.s) ∧ wr.cell? ⟨w.heap.size + 1, 2, none⟩ = some (.bool last.c) ∧
    wr.frozen? ⟨w.heap.size + 1, 0, none⟩ = false ∧ wr.frozen? ⟨w.heap.size + 1, 1, none⟩ = false ∧ wr.frozen? ⟨w.heap.size + 1, 2, none⟩ = false :=
  ⟨(Lib.cell_of_heap h.2.1 0).trans rfl, (Lib.cell_of_heap h.2.1 1).trans rfl, (Lib.cell_of_heap h.2.1 2).trans rfl, Lib.frozen_of_heap h.2.1 0, Lib.frozen_of_heap h.2.1 1, Lib.frozen_of_heap h.2.1 2⟩
theorem SpS.begin (w : World) : SpS w [] [] nil ((w.alloc (.cells #[.slice none 0 0, .slice none 0 0] 118)).alloc (.cells #[.int .u8 0, .string ⟨#[]⟩, .bool false] 56)) := by
  refine ⟨⟨Nat.zero_le _, .slice none 0 0, .slice none 0 0, ?_, OwnP.nil _ _, OwnB.nil _ _⟩, ?_, ((Below.refl _ _).alloc (Nat.le_refl _) _).alloc (by simp) _, by simp⟩
  · rw [Below.heap_alloc _ _ _ (by simp)]
    exact heap_alloc_new w _
  · have := heap_alloc_new (w.alloc (.cells #[.slice none 0 0, .slice none 0 0] 118)) (pcC nil)
    rw [show (w.alloc (.cells #[.slice none 0 0, .slice none 0 0] 118)).heap.size = w.heap.size + 1 by simp] at this
    exact this
theorem js3_keep (x : Pc) (st : Js) : (js3 x st).due = st.due ∧ (js3 x st).last = st.last := by unfold js3; split <;> exact ⟨rfl, rfl⟩
theorem px_set {W : World} {Bp : Nat} (p : Nat) (h : Bp ≠ p) (u0 u1 u2 : Value) : (((W.setCell ⟨p, 0, none⟩ u0).setCell ⟨p, 1, none⟩ u1).setCell ⟨p, 2, none⟩ u2).heap[Bp]? = W.heap[Bp]? := by
  rw [Below.heap_setCell _ _ _ _ h, Below.heap_setCell _ _ _ _ h, Below.heap_setCell _ _ _ _ h]
theorem own_low {B C : Nat} {v : Value} {l : List Pc} {w : World} (h : OwnP C v l w) (hB : B ≤ C) : OwnP B v l w := ⟨h.1, h.2.imp id fun ⟨g, cap, cur, e, hg, r⟩ => ⟨g, cap, cur, e, Nat.le_trans hB hg, r⟩⟩
theorem getP_mem {l : List Pc} {k : Nat} (hk : k < l.length) : l.getD k nil ∈ l := by
  rw [List.getD_eq_getElem?_getD, List.getElem?_eq_getElem hk]; exact List.getElem_mem hk
theorem add_add (A : Addr) (m n : Nat) : (A.add m).add n = A.add (m + n) := by
  unfold Addr.add
  by_cases hm : m = 0 <;> by_cases hn : n = 0 <;> simp [hm, hn]
  omega
theorem pcs_drop {w W : World} {A : Addr} {l : List Pc} {k cap : Nat} (hl : l.length ≤ cap) (hc : cap ≤ 2 ^ 63 - 1) (hA : A.block < w.heap.size) (hcell : ∀ i j, i < l.length → j < 3 → w.cell? (A.add (i * 3 + j)) = some (pcF l i j)) (hk : k < l.length) (hb : Below w.heap.size w W) :
    PcsAt W (.slice (some (A.add (k * 3))) (l.length - k) (cap - k)) (l.drop k) := by
  refine ⟨some (A.add (k * 3)), cap - k, by rw [List.length_drop], by rw [List.length_drop]; omega, by unfold maxLen; omega, fun _ => ⟨_, rfl, by rw [add_block]; exact Nat.lt_of_lt_of_le hA hb.size, fun i j hi hj => ?_⟩⟩
  rw [List.length_drop] at hi
  rw [add_add, show k * 3 + (i * 3 + j) = (k + i) * 3 + j by omega, hb.cell (by rw [add_block]; exact hA), hcell (k + i) j (by omega) hj]
  unfold pcF
  simp only [List.getD_eq_getElem?_getD, List.getElem?_drop]
set_option maxHeartbeats 16000000 in
theorem space_any (l : List Pc) (v : Value) (w : World) (hv : PcsAt w v l) (hl5 : l.length ≤ 1000) (hbk : ∀ k, k ≤ l.length → (jTo l k).t.length ≤ 50000 ∧ (jTo l k).o.length ≤ 50000) (hsz : ∀ x ∈ l, x.s.size ≤ 100000) :
    Calls Tryz.prog 58 #[v] w fun e w' => (∃ u, e = .returned u ∧ OwnP w.heap.size u ((jTo l l.length).o ++ flush (jTo l l.length).t) w') ∧ Below w.heap.size w w' := by
  have ag := Tryz.isAgg56
  have zg := Tryz.sizeOf56
  obtain ⟨p, cap, rfl, hl, hc, hrow⟩ := hv
  unfold maxLen at hc
  have HR := Lib.hid hrow
  have HBK := Lib.hid hbk
  have HSZ := Lib.hid hsz
  have HS0 := Lib.hid (SpS.begin w)
  clear hrow hbk hsz
  go_enter Tryz.func58, Tryz.ntmps58
  go_wp2
  go_loopw [5, 12] (fun d i wr => ∃ k : Nat, k ≤ l.length ∧ i = .int .i64 k ∧ d = .bool (jTo l k).due ∧ Hid (SpS w (jTo l k).o (jTo l k).t (jTo l k).last wr)) (fun _ i _ => l.length - (RowKit.intOf i).toNat)
  case atStart => exact ⟨0, Nat.zero_le _, rfl, rfl, HS0.out⟩
  case round =>
    obtain ⟨k, hk, rfl, rfl, HS⟩ := hrel
    by_cases hlt : k < l.length
    · obtain ⟨A, rfl, hA, hcell⟩ := HR.out (by omega)
      obtain ⟨x0, x1, x2⟩ := pcs_cells hA hcell hlt HS.out.2.2.1
      have hsx : (l.getD k nil).s.size ≤ 100000 := HSZ.out _ (getP_mem hlt)
      have hbk := HBK.out k hk
      have hST : jTo l (k + 1) = js3 (l.getD k nil) (js2 (l.getD k nil) (js1 l k (l.getD k nil) (jTo l k))) := rfl
      have cF := fun W (h : Hid (SpS w (jTo l k).o (jTo l k).t (jTo l k).last W)) => firstBare_any (l.drop k) (.slice (some (A.add (k * 3))) (l.length - k) (cap - k)) W (pcs_drop hl hc hA hcell hlt h.out.2.2.1)
      clear hcell
      generalize l.getD k nil = x at x0 x1 x2 hsx hST
      generalize jTo l k = st at HS hbk hST cF
      obtain ⟨xk, xs, xc⟩ := x
      obtain ⟨o, t, ⟨lk, ls, lc⟩, due⟩ := st
      dsimp only at x0 x1 x2 hsx hbk HS cF
      have hq1 : t.length + xs.size ≤ 100000000 := by omega
      have hq2 : o.length ≤ 1000000 := by omega
      have hge := HS.out.2.2.2
      have HS1 := Lib.hid (HS.out.step (below_box (.cells #[.int .u8 xk, .string xs, .bool xc] 56)))
      have HX1 := Lib.hid (show (wr.alloc (.cells #[.int .u8 xk, .string xs, .bool xc] 56)).heap[wr.heap.size]? = some (pcC ⟨xk, xs, xc⟩) from heap_alloc_new wr _)
      have cT := fun W => isTag_any ⟨xk, xs, xc⟩ W
      unfold pcV at cT
      dsimp only at cT
      cases due
      · have hJ1 : js1 l k ⟨xk, xs, xc⟩ ⟨o, t, ⟨lk, ls, lc⟩, false⟩ = ⟨o, t, ⟨lk, ls, lc⟩, false⟩ := by unfold js1; rw [if_neg (by simp)]
        clear cF
        cases htg : isTagB ⟨xk, xs, xc⟩
        · rw [htg] at cT
          have HSU := Lib.hid (show jTo l (k + 1) = js3 ⟨xk, xs, xc⟩ ⟨o, t, ⟨xk, xs, xc⟩, true⟩ by rw [hST]; unfold js2; rw [hJ1, htg]; rfl)
          have cP := fun W (h : Hid (SpS w o (t) ⟨xk, xs, xc⟩ W)) => putPc_any (w.heap.size + 2) w.heap.size ⟨o, t, ⟨xk, xs, xc⟩, true⟩ ⟨xk, xs, xc⟩ W h.out.1 hq1 hq2 h.out.2.2.2
          unfold pcV at cP
          clear hST hJ1 htg
          go_wp2_with (first
            | (go_at_call 61; (with_reducible refine (cT _).mono ?_); rintro e w5 ⟨rfl, hb5⟩; have HS5 := Lib.hid (HS1.out.step hb5); have HX5 := Lib.hid ((hb5.block _ (lt_of_block HX1.out)).trans HX1.out); obtain ⟨y0, y1, y2⟩ := box_cells HX5.out; obtain ⟨z0, z1, z2, g0, g1, g2⟩ := HS5.out.cells; dsimp only at y0 y1 y2 z0 z1 z2; have HS5s := Lib.hid (HS5.out.set ⟨xk, xs, xc⟩); have HX5s := Lib.hid ((px_set (w.heap.size + 1) (by omega) (.int .u8 xk) (.string xs) (.bool xc)).trans HX5.out); obtain ⟨v0, v1, v2⟩ := box_cells HX5s.out; dsimp only at v0 v1 v2; clear hb5)
            | (go_at_call 76; (with_reducible refine (cP _ HS5s).mono ?_); rintro e w6 ⟨rfl, hj6, hk6⟩; have HS6 := Lib.hid (HS5s.out.joined hj6 hk6); clear hj6 hk6))
          go_roundw
          case rel => exact ⟨k + 1, by omega, by go_num, by rw [HSU.out, (js3_keep _ _).1], by show SpS _ _ _ _ _; rw [HSU.out, (js3_keep _ _).2]; exact HS6.out⟩
          case measure => simp [RowKit.intOf]; omega
        · rw [htg] at cT
          have HSU := Lib.hid (show jTo l (k + 1) = js3 ⟨xk, xs, xc⟩ ⟨o, t, ⟨lk, ls, lc⟩, false⟩ by rw [hST]; unfold js2; rw [hJ1, htg]; rfl)
          have cP := fun W (h : Hid (SpS w o (t) ⟨lk, ls, lc⟩ W)) => putPc_any (w.heap.size + 2) w.heap.size ⟨o, t, ⟨lk, ls, lc⟩, false⟩ ⟨xk, xs, xc⟩ W h.out.1 hq1 hq2 h.out.2.2.2
          unfold pcV at cP
          clear hST hJ1 htg
          go_wp2_with (first
            | (go_at_call 61; (with_reducible refine (cT _).mono ?_); rintro e w5 ⟨rfl, hb5⟩; have HS5 := Lib.hid (HS1.out.step hb5); have HX5 := Lib.hid ((hb5.block _ (lt_of_block HX1.out)).trans HX1.out); obtain ⟨y0, y1, y2⟩ := box_cells HX5.out; obtain ⟨z0, z1, z2, g0, g1, g2⟩ := HS5.out.cells; dsimp only at y0 y1 y2 z0 z1 z2; clear hb5)
            | (go_at_call 76; (with_reducible refine (cP _ HS5).mono ?_); rintro e w6 ⟨rfl, hj6, hk6⟩; have HS6 := Lib.hid (HS5.out.joined hj6 hk6); clear hj6 hk6))
          go_roundw
          case rel => exact ⟨k + 1, by omega, by go_num, by rw [HSU.out, (js3_keep _ _).1], by show SpS _ _ _ _ _; rw [HSU.out, (js3_keep _ _).2]; exact HS6.out⟩
          case measure => simp [RowKit.intOf]; omega
      · by_cases h3 : xk = 3
        · subst h3
          have hJ1 : js1 l k ⟨3, xs, xc⟩ ⟨o, t, ⟨lk, ls, lc⟩, true⟩ = ⟨o, t, ⟨lk, ls, lc⟩, true⟩ := by unfold js1; rw [if_neg (by simp)]
          clear cF
          have htg : isTagB ⟨3, xs, xc⟩ = true := rfl
          rw [htg] at cT
          have HSU := Lib.hid (show jTo l (k + 1) = js3 ⟨3, xs, xc⟩ ⟨o, t, ⟨lk, ls, lc⟩, true⟩ by rw [hST]; unfold js2; rw [hJ1, htg]; rfl)
          have cP := fun W (h : Hid (SpS w o (t) ⟨lk, ls, lc⟩ W)) => putPc_any (w.heap.size + 2) w.heap.size ⟨o, t, ⟨lk, ls, lc⟩, true⟩ ⟨3, xs, xc⟩ W h.out.1 hq1 hq2 h.out.2.2.2
          unfold pcV at cP
          clear hST hJ1 htg
          go_wp2_with (first
            | (go_at_call 61; (with_reducible refine (cT _).mono ?_); rintro e w5 ⟨rfl, hb5⟩; have HS5 := Lib.hid (HS1.out.step hb5); have HX5 := Lib.hid ((hb5.block _ (lt_of_block HX1.out)).trans HX1.out); obtain ⟨y0, y1, y2⟩ := box_cells HX5.out; obtain ⟨z0, z1, z2, g0, g1, g2⟩ := HS5.out.cells; dsimp only at y0 y1 y2 z0 z1 z2; clear hb5)
            | (go_at_call 76; (with_reducible refine (cP _ HS5).mono ?_); rintro e w6 ⟨rfl, hj6, hk6⟩; have HS6 := Lib.hid (HS5.out.joined hj6 hk6); clear hj6 hk6))
          go_roundw
          case rel => exact ⟨k + 1, by omega, by go_num, by rw [HSU.out, (js3_keep _ _).1], by show SpS _ _ _ _ _; rw [HSU.out, (js3_keep _ _).2]; exact HS6.out⟩
          case measure => simp [RowKit.intOf]; omega
        · have h3b : (xk != 3) = true := by simpa using h3
          have h3c : (xk == 3) = false := by simpa using h3
          cases hf : firstB (l.drop k) with
          | none =>
            have HFE := Lib.hid (fun e (h : FirstEnd (l.drop k) e) => show ∃ n : Pc, e = .returned (.tuple #[.agg #[.int .u8 n.k, .string n.s, .bool n.c], .bool false]) from by unfold FirstEnd at h; rw [hf] at h; exact h)
            have hJ1 : js1 l k ⟨xk, xs, xc⟩ ⟨o, t, ⟨lk, ls, lc⟩, true⟩ = ⟨o, t, ⟨lk, ls, lc⟩, false⟩ := by unfold js1 sepB; rw [if_pos ⟨rfl, h3⟩, hf]; rfl
            clear hf h3
            cases htg : isTagB ⟨xk, xs, xc⟩
            · rw [htg] at cT
              have HSU := Lib.hid (show jTo l (k + 1) = js3 ⟨xk, xs, xc⟩ ⟨o, t, ⟨xk, xs, xc⟩, true⟩ by rw [hST]; unfold js2; rw [hJ1, htg]; rfl)
              have cP := fun W (h : Hid (SpS w o (t) ⟨xk, xs, xc⟩ W)) => putPc_any (w.heap.size + 2) w.heap.size ⟨o, t, ⟨xk, xs, xc⟩, true⟩ ⟨xk, xs, xc⟩ W h.out.1 hq1 hq2 h.out.2.2.2
              unfold pcV at cP
              clear hST hJ1 htg
              go_wp2_with (first
                | (go_at_call 104; (with_reducible refine (cF _ HS1).mono ?_); rintro e w2 ⟨he2, hb2⟩; obtain ⟨⟨nk, ns, nc⟩, rfl⟩ := HFE.out _ he2; dsimp only; have HS2 := Lib.hid (HS1.out.step (hb2.trans ((below_box (.cells #[.int .u8 nk, .string ns, .bool nc] 56)).mono hb2.size))); have HX2 := Lib.hid (((hb2.trans ((below_box (.cells #[.int .u8 nk, .string ns, .bool nc] 56)).mono hb2.size)).block _ (lt_of_block HX1.out)).trans HX1.out); obtain ⟨c0, c1, c2, f0, f1, f2⟩ := HS2.out.cells; obtain ⟨p0, p1, p2⟩ := box_cells HX2.out; dsimp only at c0 c1 c2 p0 p1 p2; clear hb2 he2)
                | (go_at_call 61; (with_reducible refine (cT _).mono ?_); rintro e w5 ⟨rfl, hb5⟩; have HS5 := Lib.hid (HS2.out.step hb5); have HX5 := Lib.hid ((hb5.block _ (lt_of_block HX2.out)).trans HX2.out); obtain ⟨y0, y1, y2⟩ := box_cells HX5.out; obtain ⟨z0, z1, z2, g0, g1, g2⟩ := HS5.out.cells; dsimp only at y0 y1 y2 z0 z1 z2; have HS5s := Lib.hid (HS5.out.set ⟨xk, xs, xc⟩); have HX5s := Lib.hid ((px_set (w.heap.size + 1) (by omega) (.int .u8 xk) (.string xs) (.bool xc)).trans HX5.out); obtain ⟨v0, v1, v2⟩ := box_cells HX5s.out; dsimp only at v0 v1 v2; clear hb5)
                | (go_at_call 76; (with_reducible refine (cP _ HS5s).mono ?_); rintro e w6 ⟨rfl, hj6, hk6⟩; have HS6 := Lib.hid (HS5s.out.joined hj6 hk6); clear hj6 hk6))
              go_roundw
              case rel => exact ⟨k + 1, by omega, by go_num, by rw [HSU.out, (js3_keep _ _).1], by show SpS _ _ _ _ _; rw [HSU.out, (js3_keep _ _).2]; exact HS6.out⟩
              case measure => simp [RowKit.intOf]; omega
            · rw [htg] at cT
              have HSU := Lib.hid (show jTo l (k + 1) = js3 ⟨xk, xs, xc⟩ ⟨o, t, ⟨lk, ls, lc⟩, false⟩ by rw [hST]; unfold js2; rw [hJ1, htg]; rfl)
              have cP := fun W (h : Hid (SpS w o (t) ⟨lk, ls, lc⟩ W)) => putPc_any (w.heap.size + 2) w.heap.size ⟨o, t, ⟨lk, ls, lc⟩, false⟩ ⟨xk, xs, xc⟩ W h.out.1 hq1 hq2 h.out.2.2.2
              unfold pcV at cP
              clear hST hJ1 htg
              go_wp2_with (first
                | (go_at_call 104; (with_reducible refine (cF _ HS1).mono ?_); rintro e w2 ⟨he2, hb2⟩; obtain ⟨⟨nk, ns, nc⟩, rfl⟩ := HFE.out _ he2; dsimp only; have HS2 := Lib.hid (HS1.out.step (hb2.trans ((below_box (.cells #[.int .u8 nk, .string ns, .bool nc] 56)).mono hb2.size))); have HX2 := Lib.hid (((hb2.trans ((below_box (.cells #[.int .u8 nk, .string ns, .bool nc] 56)).mono hb2.size)).block _ (lt_of_block HX1.out)).trans HX1.out); obtain ⟨c0, c1, c2, f0, f1, f2⟩ := HS2.out.cells; obtain ⟨p0, p1, p2⟩ := box_cells HX2.out; dsimp only at c0 c1 c2 p0 p1 p2; clear hb2 he2)
                | (go_at_call 61; (with_reducible refine (cT _).mono ?_); rintro e w5 ⟨rfl, hb5⟩; have HS5 := Lib.hid (HS2.out.step hb5); have HX5 := Lib.hid ((hb5.block _ (lt_of_block HX2.out)).trans HX2.out); obtain ⟨y0, y1, y2⟩ := box_cells HX5.out; obtain ⟨z0, z1, z2, g0, g1, g2⟩ := HS5.out.cells; dsimp only at y0 y1 y2 z0 z1 z2; clear hb5)
                | (go_at_call 76; (with_reducible refine (cP _ HS5).mono ?_); rintro e w6 ⟨rfl, hj6, hk6⟩; have HS6 := Lib.hid (HS5.out.joined hj6 hk6); clear hj6 hk6))
              go_roundw
              case rel => exact ⟨k + 1, by omega, by go_num, by rw [HSU.out, (js3_keep _ _).1], by show SpS _ _ _ _ _; rw [HSU.out, (js3_keep _ _).2]; exact HS6.out⟩
              case measure => simp [RowKit.intOf]; omega
          | some n =>
            obtain ⟨nk, ns, nc⟩ := n
            have HFE := Lib.hid (fun e (h : FirstEnd (l.drop k) e) => show e = .returned (.tuple #[.agg #[.int .u8 nk, .string ns, .bool nc], .bool true]) from by unfold FirstEnd at h; rw [hf] at h; exact h)
            have cA := fun W => apart_any ⟨lk, ls, lc⟩ ⟨nk, ns, nc⟩ W
            unfold pcV at cA
            dsimp only at cA
            cases hap : apartB ls ns
            · have hJ1 : js1 l k ⟨xk, xs, xc⟩ ⟨o, t, ⟨lk, ls, lc⟩, true⟩ = ⟨o, t, ⟨lk, ls, lc⟩, false⟩ := by unfold js1 sepB; rw [if_pos ⟨rfl, h3⟩, hf]; simp [hap]
              rw [hap] at cA
              clear hf h3 hap
              cases htg : isTagB ⟨xk, xs, xc⟩
              · rw [htg] at cT
                have HSU := Lib.hid (show jTo l (k + 1) = js3 ⟨xk, xs, xc⟩ ⟨o, t, ⟨xk, xs, xc⟩, true⟩ by rw [hST]; unfold js2; rw [hJ1, htg]; rfl)
                have cP := fun W (h : Hid (SpS w o (t) ⟨xk, xs, xc⟩ W)) => putPc_any (w.heap.size + 2) w.heap.size ⟨o, t, ⟨xk, xs, xc⟩, true⟩ ⟨xk, xs, xc⟩ W h.out.1 hq1 hq2 h.out.2.2.2
                unfold pcV at cP
                clear hST hJ1 htg
                go_wp2_with (first
                  | (go_at_call 104; (with_reducible refine (cF _ HS1).mono ?_); rintro e w2 ⟨he2, hb2⟩; obtain rfl := HFE.out _ he2; have HS2 := Lib.hid (HS1.out.step (hb2.trans ((below_box (.cells #[.int .u8 nk, .string ns, .bool nc] 56)).mono hb2.size))); have HX2 := Lib.hid (((hb2.trans ((below_box (.cells #[.int .u8 nk, .string ns, .bool nc] 56)).mono hb2.size)).block _ (lt_of_block HX1.out)).trans HX1.out); obtain ⟨c0, c1, c2, f0, f1, f2⟩ := HS2.out.cells; obtain ⟨p0, p1, p2⟩ := box_cells HX2.out; dsimp only at c0 c1 c2 p0 p1 p2; clear hb2 he2)
                  | (go_at_call 105; (with_reducible refine (cA _).mono ?_); rintro e w3 ⟨rfl, hb3⟩; have HS3 := Lib.hid (HS2.out.step hb3); have HX3 := Lib.hid ((hb3.block _ (lt_of_block HX2.out)).trans HX2.out); obtain ⟨q0, q1, q2⟩ := box_cells HX3.out; dsimp only at q0 q1 q2; clear hb3)
                  | (go_at_call 61; (with_reducible refine (cT _).mono ?_); rintro e w5 ⟨rfl, hb5⟩; have HS5 := Lib.hid (HS3.out.step hb5); have HX5 := Lib.hid ((hb5.block _ (lt_of_block HX3.out)).trans HX3.out); obtain ⟨y0, y1, y2⟩ := box_cells HX5.out; obtain ⟨z0, z1, z2, g0, g1, g2⟩ := HS5.out.cells; dsimp only at y0 y1 y2 z0 z1 z2; have HS5s := Lib.hid (HS5.out.set ⟨xk, xs, xc⟩); have HX5s := Lib.hid ((px_set (w.heap.size + 1) (by omega) (.int .u8 xk) (.string xs) (.bool xc)).trans HX5.out); obtain ⟨v0, v1, v2⟩ := box_cells HX5s.out; dsimp only at v0 v1 v2; clear hb5)
                  | (go_at_call 76; (with_reducible refine (cP _ HS5s).mono ?_); rintro e w6 ⟨rfl, hj6, hk6⟩; have HS6 := Lib.hid (HS5s.out.joined hj6 hk6); clear hj6 hk6))
                go_roundw
                case rel => exact ⟨k + 1, by omega, by go_num, by rw [HSU.out, (js3_keep _ _).1], by show SpS _ _ _ _ _; rw [HSU.out, (js3_keep _ _).2]; exact HS6.out⟩
                case measure => simp [RowKit.intOf]; omega
              · rw [htg] at cT
                have HSU := Lib.hid (show jTo l (k + 1) = js3 ⟨xk, xs, xc⟩ ⟨o, t, ⟨lk, ls, lc⟩, false⟩ by rw [hST]; unfold js2; rw [hJ1, htg]; rfl)
                have cP := fun W (h : Hid (SpS w o (t) ⟨lk, ls, lc⟩ W)) => putPc_any (w.heap.size + 2) w.heap.size ⟨o, t, ⟨lk, ls, lc⟩, false⟩ ⟨xk, xs, xc⟩ W h.out.1 hq1 hq2 h.out.2.2.2
                unfold pcV at cP
                clear hST hJ1 htg
                go_wp2_with (first
                  | (go_at_call 104; (with_reducible refine (cF _ HS1).mono ?_); rintro e w2 ⟨he2, hb2⟩; obtain rfl := HFE.out _ he2; have HS2 := Lib.hid (HS1.out.step (hb2.trans ((below_box (.cells #[.int .u8 nk, .string ns, .bool nc] 56)).mono hb2.size))); have HX2 := Lib.hid (((hb2.trans ((below_box (.cells #[.int .u8 nk, .string ns, .bool nc] 56)).mono hb2.size)).block _ (lt_of_block HX1.out)).trans HX1.out); obtain ⟨c0, c1, c2, f0, f1, f2⟩ := HS2.out.cells; obtain ⟨p0, p1, p2⟩ := box_cells HX2.out; dsimp only at c0 c1 c2 p0 p1 p2; clear hb2 he2)
                  | (go_at_call 105; (with_reducible refine (cA _).mono ?_); rintro e w3 ⟨rfl, hb3⟩; have HS3 := Lib.hid (HS2.out.step hb3); have HX3 := Lib.hid ((hb3.block _ (lt_of_block HX2.out)).trans HX2.out); obtain ⟨q0, q1, q2⟩ := box_cells HX3.out; dsimp only at q0 q1 q2; clear hb3)
                  | (go_at_call 61; (with_reducible refine (cT _).mono ?_); rintro e w5 ⟨rfl, hb5⟩; have HS5 := Lib.hid (HS3.out.step hb5); have HX5 := Lib.hid ((hb5.block _ (lt_of_block HX3.out)).trans HX3.out); obtain ⟨y0, y1, y2⟩ := box_cells HX5.out; obtain ⟨z0, z1, z2, g0, g1, g2⟩ := HS5.out.cells; dsimp only at y0 y1 y2 z0 z1 z2; clear hb5)
                  | (go_at_call 76; (with_reducible refine (cP _ HS5).mono ?_); rintro e w6 ⟨rfl, hj6, hk6⟩; have HS6 := Lib.hid (HS5.out.joined hj6 hk6); clear hj6 hk6))
                go_roundw
                case rel => exact ⟨k + 1, by omega, by go_num, by rw [HSU.out, (js3_keep _ _).1], by show SpS _ _ _ _ _; rw [HSU.out, (js3_keep _ _).2]; exact HS6.out⟩
                case measure => simp [RowKit.intOf]; omega
            · have hJ1 : js1 l k ⟨xk, xs, xc⟩ ⟨o, t, ⟨lk, ls, lc⟩, true⟩ = ⟨o, t ++ [32], ⟨lk, ls, lc⟩, false⟩ := by unfold js1 sepB; rw [if_pos ⟨rfl, h3⟩, hf]; simp [hap]
              rw [hap] at cA
              have cS := fun W (h : Hid (SpS w o t ⟨lk, ls, lc⟩ W)) => putText2_any (w.heap.size + 2) w.heap.size o t ⟨#[32]⟩ W h.out.1 (show t.length + 1 ≤ _ by omega) h.out.2.2.2
              replace hq1 : (t ++ [32]).length + xs.size ≤ 100000000 := by simp; omega
              clear hf h3 hap
              cases htg : isTagB ⟨xk, xs, xc⟩
              · rw [htg] at cT
                have HSU := Lib.hid (show jTo l (k + 1) = js3 ⟨xk, xs, xc⟩ ⟨o, t ++ [32], ⟨xk, xs, xc⟩, true⟩ by rw [hST]; unfold js2; rw [hJ1, htg]; rfl)
                have cP := fun W (h : Hid (SpS w o (t ++ [32]) ⟨xk, xs, xc⟩ W)) => putPc_any (w.heap.size + 2) w.heap.size ⟨o, t ++ [32], ⟨xk, xs, xc⟩, true⟩ ⟨xk, xs, xc⟩ W h.out.1 hq1 hq2 h.out.2.2.2
                unfold pcV at cP
                clear hST hJ1 htg
                go_wp2_with (first
                  | (go_at_call 104; (with_reducible refine (cF _ HS1).mono ?_); rintro e w2 ⟨he2, hb2⟩; obtain rfl := HFE.out _ he2; have HS2 := Lib.hid (HS1.out.step (hb2.trans ((below_box (.cells #[.int .u8 nk, .string ns, .bool nc] 56)).mono hb2.size))); have HX2 := Lib.hid (((hb2.trans ((below_box (.cells #[.int .u8 nk, .string ns, .bool nc] 56)).mono hb2.size)).block _ (lt_of_block HX1.out)).trans HX1.out); obtain ⟨c0, c1, c2, f0, f1, f2⟩ := HS2.out.cells; obtain ⟨p0, p1, p2⟩ := box_cells HX2.out; dsimp only at c0 c1 c2 p0 p1 p2; clear hb2 he2)
                  | (go_at_call 105; (with_reducible refine (cA _).mono ?_); rintro e w3 ⟨rfl, hb3⟩; have HS3 := Lib.hid (HS2.out.step hb3); have HX3 := Lib.hid ((hb3.block _ (lt_of_block HX2.out)).trans HX2.out); obtain ⟨q0, q1, q2⟩ := box_cells HX3.out; dsimp only at q0 q1 q2; clear hb3)
                  | (go_at_call 106; (with_reducible refine (cS _ HS3).mono ?_); rintro e w4 ⟨rfl, hj4, hk4, hck4⟩; have HS4 := Lib.hid (show SpS w o (t ++ [32]) ⟨lk, ls, lc⟩ w4 from HS3.out.joined hj4 hk4); have HX4 := Lib.hid (show w4.heap[wr.heap.size]? = some (pcC ⟨xk, xs, xc⟩) from hck4 _ _ _ (by omega) (by decide) HX3.out); obtain ⟨r0, r1, r2⟩ := box_cells HX4.out; dsimp only at r0 r1 r2; clear hj4 hk4 hck4)
                  | (go_at_call 61; (with_reducible refine (cT _).mono ?_); rintro e w5 ⟨rfl, hb5⟩; have HS5 := Lib.hid (HS4.out.step hb5); have HX5 := Lib.hid ((hb5.block _ (lt_of_block HX4.out)).trans HX4.out); obtain ⟨y0, y1, y2⟩ := box_cells HX5.out; obtain ⟨z0, z1, z2, g0, g1, g2⟩ := HS5.out.cells; dsimp only at y0 y1 y2 z0 z1 z2; have HS5s := Lib.hid (HS5.out.set ⟨xk, xs, xc⟩); have HX5s := Lib.hid ((px_set (w.heap.size + 1) (by omega) (.int .u8 xk) (.string xs) (.bool xc)).trans HX5.out); obtain ⟨v0, v1, v2⟩ := box_cells HX5s.out; dsimp only at v0 v1 v2; clear hb5)
                  | (go_at_call 76; (with_reducible refine (cP _ HS5s).mono ?_); rintro e w6 ⟨rfl, hj6, hk6⟩; have HS6 := Lib.hid (HS5s.out.joined hj6 hk6); clear hj6 hk6))
                go_roundw
                case rel => exact ⟨k + 1, by omega, by go_num, by rw [HSU.out, (js3_keep _ _).1], by show SpS _ _ _ _ _; rw [HSU.out, (js3_keep _ _).2]; exact HS6.out⟩
                case measure => simp [RowKit.intOf]; omega
              · rw [htg] at cT
                have HSU := Lib.hid (show jTo l (k + 1) = js3 ⟨xk, xs, xc⟩ ⟨o, t ++ [32], ⟨lk, ls, lc⟩, false⟩ by rw [hST]; unfold js2; rw [hJ1, htg]; rfl)
                have cP := fun W (h : Hid (SpS w o (t ++ [32]) ⟨lk, ls, lc⟩ W)) => putPc_any (w.heap.size + 2) w.heap.size ⟨o, t ++ [32], ⟨lk, ls, lc⟩, false⟩ ⟨xk, xs, xc⟩ W h.out.1 hq1 hq2 h.out.2.2.2
                unfold pcV at cP
                clear hST hJ1 htg
                go_wp2_with (first
                  | (go_at_call 104; (with_reducible refine (cF _ HS1).mono ?_); rintro e w2 ⟨he2, hb2⟩; obtain rfl := HFE.out _ he2; have HS2 := Lib.hid (HS1.out.step (hb2.trans ((below_box (.cells #[.int .u8 nk, .string ns, .bool nc] 56)).mono hb2.size))); have HX2 := Lib.hid (((hb2.trans ((below_box (.cells #[.int .u8 nk, .string ns, .bool nc] 56)).mono hb2.size)).block _ (lt_of_block HX1.out)).trans HX1.out); obtain ⟨c0, c1, c2, f0, f1, f2⟩ := HS2.out.cells; obtain ⟨p0, p1, p2⟩ := box_cells HX2.out; dsimp only at c0 c1 c2 p0 p1 p2; clear hb2 he2)
                  | (go_at_call 105; (with_reducible refine (cA _).mono ?_); rintro e w3 ⟨rfl, hb3⟩; have HS3 := Lib.hid (HS2.out.step hb3); have HX3 := Lib.hid ((hb3.block _ (lt_of_block HX2.out)).trans HX2.out); obtain ⟨q0, q1, q2⟩ := box_cells HX3.out; dsimp only at q0 q1 q2; clear hb3)
                  | (go_at_call 106; (with_reducible refine (cS _ HS3).mono ?_); rintro e w4 ⟨rfl, hj4, hk4, hck4⟩; have HS4 := Lib.hid (show SpS w o (t ++ [32]) ⟨lk, ls, lc⟩ w4 from HS3.out.joined hj4 hk4); have HX4 := Lib.hid (show w4.heap[wr.heap.size]? = some (pcC ⟨xk, xs, xc⟩) from hck4 _ _ _ (by omega) (by decide) HX3.out); obtain ⟨r0, r1, r2⟩ := box_cells HX4.out; dsimp only at r0 r1 r2; clear hj4 hk4 hck4)
                  | (go_at_call 61; (with_reducible refine (cT _).mono ?_); rintro e w5 ⟨rfl, hb5⟩; have HS5 := Lib.hid (HS4.out.step hb5); have HX5 := Lib.hid ((hb5.block _ (lt_of_block HX4.out)).trans HX4.out); obtain ⟨y0, y1, y2⟩ := box_cells HX5.out; obtain ⟨z0, z1, z2, g0, g1, g2⟩ := HS5.out.cells; dsimp only at y0 y1 y2 z0 z1 z2; clear hb5)
                  | (go_at_call 76; (with_reducible refine (cP _ HS5).mono ?_); rintro e w6 ⟨rfl, hj6, hk6⟩; have HS6 := Lib.hid (HS5.out.joined hj6 hk6); clear hj6 hk6))
                go_roundw
                case rel => exact ⟨k + 1, by omega, by go_num, by rw [HSU.out, (js3_keep _ _).1], by show SpS _ _ _ _ _; rw [HSU.out, (js3_keep _ _).2]; exact HS6.out⟩
                case measure => simp [RowKit.intOf]; omega
    · have hkl : k = l.length := by omega
      subst hkl
      have cD := done_any (w.heap.size + 2) w.heap.size (jTo l l.length).o (jTo l l.length).t wr HS.out.1 (by have := HBK.out l.length (Nat.le_refl _); omega) (by have := HBK.out l.length (Nat.le_refl _); omega) HS.out.2.2.2
      go_wp2_with (go_at_call 77; (with_reducible refine cD.mono ?_); rintro e w2 ⟨u, rfl, ho2, hk2⟩; have HO := Lib.hid ho2; have HK := Lib.hid (HS.out.2.2.1.trans (hk2.below (by omega) (Nat.le_refl _))); clear ho2 hk2)
      go_ret
      exact ⟨⟨_, rfl, own_low HO.out (by omega)⟩, HK.out⟩
end Go.Proofs.YtnbeomclmggbiaaGreatDoor
namespace Go.Proofs.YtnbeomclmggbiaaGreatDoor
open Go Go.RowKit Go.Lib
set_option maxRecDepth 100000
theorem addP_bulk (l : List Pc) (x : Pc) : bulk (addP l x) ≤ bulk l + x.s.size + 1 := by
  rcases List.eq_nil_or_concat l with rfl | ⟨o, z, rfl⟩
  · rw [addP_nil, bulk_cons]; omega
  · rw [List.concat_eq_append]
    by_cases hh : x.k = 1 ∧ z.k = 1
    · rw [addP_join hh.1 hh.2, bulk_app, bulk_app, bulk_cons, bulk_cons]
      simp only [ByteArray.size_append]
      omega
    · rw [addP_more hh, bulk_app, bulk_cons]
      have : bulk [] = 0 := rfl
      omega
theorem spTo_bulk (ws : List ByteArray) : ∀ k, k ≤ ws.length → bulk (spTo ws k).1 ≤ bytesK ws k + 4 * k
  | 0, _ => by show bulk [] ≤ _; have : bulk [] = 0 := rfl; omega
  | k + 1, hk => by
    have ih := spTo_bulk ws k (by omega)
    rw [bytesK_succ ws k (by omega)]
    have hp := pieceW_size (ws.getD k ByteArray.empty)
    have hX : spX.s.size = 1 := rfl
    have h1 := addP_bulk (spTo ws k).1 spX
    have h2 := addP_bulk (addP (spTo ws k).1 spX) (pieceW (ws.getD k ByteArray.empty)).1
    have h3 := addP_bulk (spTo ws k).1 (pieceW (ws.getD k ByteArray.empty)).1
    show bulk (spStep ws k (ws.getD k ByteArray.empty) (pieceW (ws.getD k ByteArray.empty)).1 (spTo ws k).1 (spTo ws k).2.1 (spTo ws k).2.2).1 ≤ _
    generalize (pieceW (ws.getD k ByteArray.empty)).1 = x at *
    generalize ws.getD k ByteArray.empty = s at *
    generalize spTo ws k = sp at *
    unfold spStep
    split
    · split
      · dsimp only
        split <;> omega
      · dsimp only; omega
    · dsimp only
      split <;> omega
theorem holesL_bulk : ∀ ws : List ByteArray, bulk (holesL ws) ≤ (ws.map ByteArray.size).sum + 2 * ws.length
  | [] => by show bulk [] ≤ _; have : bulk [] = 0 := rfl; omega
  | s :: ws => by
    have ih := holesL_bulk ws
    have hp := pieceW_size s
    show bulk (holeW (pieceW s).1 :: holesL ws) ≤ _
    rw [bulk_cons, List.map_cons, List.sum_cons, List.length_cons]
    have : (holeW (pieceW s).1).s.size ≤ s.size + 1 := by
      unfold holeW
      split
      · show 1 ≤ _; omega
      · omega
    omega
theorem bytesK_le (ws : List ByteArray) : ∀ d k, k + d = ws.length → bytesK ws k ≤ bytesK ws ws.length
  | 0, k, h => by obtain rfl : k = ws.length := h; exact Nat.le_refl _
  | d + 1, k, h => by
    have ih := bytesK_le ws d (k + 1) (by omega)
    rw [bytesK_succ ws k (by omega)] at ih
    omega
/-- what few words are -/
theorem few_bounds {ws : List ByteArray} (h : Few ws) (hl : ¬ 512 < ws.length) : (∀ s ∈ ws, s.size ≤ 100000) ∧ bulk (holesL ws) ≤ 100000 ∧ ∀ k, k ≤ ws.length → bulk (spTo ws k).1 ≤ 50000 := by
  have ha := h.all (by omega)
  refine ⟨fun s hs => by have := bytesK_all hs; omega, ?_, fun k hk => ?_⟩
  · have := holesL_bulk ws
    have e : bytesK ws ws.length = (ws.map ByteArray.size).sum := by unfold bytesK; rw [List.take_length]
    omega
  · have h1 := spTo_bulk ws k hk
    have h2 := bytesK_le ws (ws.length - k) k (by omega)
    omega
theorem okW_of {ws : List ByteArray} (h : wordsE ws = 0) : okW ws = true := by
  have hs := wordsE_short h
  unfold wordsE at h
  rw [if_neg hs] at h
  split at h
  · assumption
  · cases h
theorem flush_bulk (t : List UInt8) : t.length ≤ bulk (flush t) := by
  unfold flush
  split
  · rename_i e; subst e; simp
  · rw [bulk_cons]
    have : (bytes t).size = t.length := bsize t
    show _ ≤ bulk [] + (bytes t).size + 1
    omega
set_option maxHeartbeats 8000000 in
theorem from_any (ws : List ByteArray) (v : Value) (w : World) (hv : StrsAt w v ws) (hsz : ∀ s ∈ ws, s.size ≤ 140737488355328) (hn : ws.length ≤ 100000) (hs5 : ¬ 512 < ws.length → ∀ s ∈ ws, s.size ≤ 100000) (hbh : ¬ 512 < ws.length → bulk (holesL ws) ≤ 100000) (hbk : ¬ 512 < ws.length → ∀ k, k ≤ ws.length → bulk (spTo ws k).1 ≤ 50000) (hT : Tabs w) (hC : Cls2 w) (hN : Nts w) :
    Calls Tryz.prog 26 #[v] w fun e w' => FromEnd w.heap.size ws e w' ∧ Below w.heap.size w w' := by
  have cC := checkWords_any ws v w hv hsz hbh hT hC hN
  have HV := Lib.hid hv
  obtain ⟨ao, ca, rfl⟩ := hv.form
  clear hv
  by_cases h0 : wordsE ws = 0
  · have hs := wordsE_short h0
    have hok := okW_of h0
    have cR := fun w2 (h : Below w.heap.size w w2) => readWords_any ws _ w2 (HV.out.step h) hsz hn (hT.step h) (hC.below h (by have := hN.1; omega)) (hN.step h)
    have hpl := pcsL_len ws
    have HJ := Lib.hid (show spacedL ws = (jTo (pcsL ws) (pcsL ws).length).o ++ flush (jTo (pcsL ws) (pcsL ws).length).t by rw [hpl]; exact (jTo_eq hok ws.length (Nat.le_refl _)).1)
    have HB5 := Lib.hid (show ∀ k, k ≤ (pcsL ws).length → (jTo (pcsL ws) k).t.length ≤ 50000 ∧ (jTo (pcsL ws) k).o.length ≤ 50000 by
      intro k hk
      rw [hpl] at hk
      have h1 := hbk hs k hk
      rw [(jTo_eq hok k hk).1, bulk_app] at h1
      have h2 := flush_bulk (jTo (pcsL ws) k).t
      have h3 := bulk_len (jTo (pcsL ws) k).o
      omega)
    have HZ5 := Lib.hid (show ∀ x ∈ pcsL ws, x.s.size ≤ 100000 by
      intro x hx
      unfold pcsL at hx
      obtain ⟨s, hs1, rfl⟩ := List.mem_map.1 hx
      have h1 := pieceW_size s
      have h2 := hs5 hs s hs1
      omega)
    have HP := Lib.hid (fun B e w' (h : RwsEnd B ws e w') => h.yes hok)
    have hl5 : (pcsL ws).length ≤ 1000 := by omega
    rw [h0] at cC
    clear hsz hbh hbk hs5 hpl hok hT hC hN
    generalize pcsL ws = l at *
    by_cases hl : 512 < (spacedL ws).length
    · have HX := Lib.hid (fromE_long h0 hl)
      have HL := Lib.hid hl
      clear hl h0
      go_enter Tryz.func26, Tryz.ntmps26
      go_wp2_with (first
        | (go_at_call 22; (with_reducible refine cC.mono ?_); rintro e w2 ⟨rfl, hb2⟩; have HB2 := Lib.hid hb2; clear hb2)
        | (go_at_call 54; (with_reducible refine (cR _ HB2.out).mono ?_); rintro e w3 ⟨he3, hb3⟩; obtain ⟨v3, rfl, hO3⟩ := HP.out _ _ _ he3; have HB3 := Lib.hid (below_next HB2.out hb3); have cS := space_any l v3 w3 hO3.at hl5 HB5.out HZ5.out; clear he3 hb3 hO3)
        | (go_at_call 58; (with_reducible refine cS.mono ?_); rintro e w4 ⟨⟨u, rfl, hO4⟩, hb4⟩; have HB4 := Lib.hid (below_next HB3.out hb4); rw [← HJ.out] at hO4; have HO4 := Lib.hid hO4; have cL := isLong_any (spacedL ws) u w4 hO4.form; rw [show decide (512 < (spacedL ws).length) = true by simp [HL.out]] at cL; clear hb4 hO4)
        | (go_at_call 59; (with_reducible refine cL.mono ?_); rintro e w5 ⟨rfl, rfl⟩))
      go_ret2
      exact ⟨⟨.slice none 0 0, by rw [HX.out.1]; rfl, by rw [HX.out.2]; exact OwnP.nil _ _⟩, HB4.out⟩
    · have HX := Lib.hid (fromE_fine h0 hl)
      have HL := Lib.hid hl
      clear hl h0
      go_enter Tryz.func26, Tryz.ntmps26
      go_wp2_with (first
        | (go_at_call 22; (with_reducible refine cC.mono ?_); rintro e w2 ⟨rfl, hb2⟩; have HB2 := Lib.hid hb2; clear hb2)
        | (go_at_call 54; (with_reducible refine (cR _ HB2.out).mono ?_); rintro e w3 ⟨he3, hb3⟩; obtain ⟨v3, rfl, hO3⟩ := HP.out _ _ _ he3; have HB3 := Lib.hid (below_next HB2.out hb3); have cS := space_any l v3 w3 hO3.at hl5 HB5.out HZ5.out; clear he3 hb3 hO3)
        | (go_at_call 58; (with_reducible refine cS.mono ?_); rintro e w4 ⟨⟨u, rfl, hO4⟩, hb4⟩; have HB4 := Lib.hid (below_next HB3.out hb4); rw [← HJ.out] at hO4; have HO4 := Lib.hid (own_low hO4 HB3.out.size); have cL := isLong_any (spacedL ws) u w4 hO4.form; rw [show decide (512 < (spacedL ws).length) = false by simp; have := HL.out; omega] at cL; clear hb4 hO4)
        | (go_at_call 59; (with_reducible refine cL.mono ?_); rintro e w5 ⟨rfl, rfl⟩))
      go_ret2
      exact ⟨⟨_, by rw [HX.out.1]; rfl, by rw [HX.out.2]; exact HO4.out⟩, HB4.out⟩
  · obtain ⟨Z, hZ⟩ : ∃ Z, wordsE ws = Z := ⟨_, rfl⟩
    have HX := Lib.hid (fromE_bad h0)
    rw [hZ] at cC h0
    have HZ := Lib.hid hZ
    have hz : (Z == 0) = false := by simpa using h0
    clear hZ h0 hT hC hN
    go_enter Tryz.func26, Tryz.ntmps26
    go_wp2_with (go_at_call 22; (with_reducible refine cC.mono ?_); rintro e w2 ⟨rfl, hb2⟩; have HB2 := Lib.hid hb2; clear hb2)
    go_ret2
    exact ⟨⟨.slice none 0 0, by rw [HX.out.1, HZ.out]; rfl, by rw [HX.out.2]; exact OwnP.nil _ _⟩, HB2.out⟩
end Go.Proofs.YtnbeomclmggbiaaGreatDoor
