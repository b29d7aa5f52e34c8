/- A pattern compiled, by the program: the call. The break rules compiled, by the program. The break rules compiled, by the program: the call. Compiled rules read; whether a rule fits a place, by the program. Fits, by the program. -/
import Derived.Laws.ResultCell
import Derived.Test.YtnkpjkomokkhcaaGreatDoorBrC
namespace Go.Proofs.YtnkpjkomokkhcaaGreatDoor
open Go Go.RowKit Go.Lib
set_option maxRecDepth 100000
theorem results_ctB {fn : Func} {p u : Tmp} {ty : TypeId} (h : fn.results = #[.cell p ty, .tmp u]) {tmps : Array Value} {P : Program} {w : World} {a : Addr} {xs : List Value}
    (ha : tmps.getD p undef = .pointer (some a)) (iy : ∀ w, (isAgg ty).run P w = .ok true w) (sy : ∀ w, (sizeOf ty).run P w = .ok xs.length w)
    (cx : ∀ j v, xs[j]? = some v → w.cell? (a.add j) = some v) :
    (results fn tmps).run P w = .ok (.tuple #[.agg xs.toArray, tmps.getD u undef]) w := by
  have hx := run_loadCells_list (P := P) w a xs cx
  rw [results_cell_tmp h, ha]
  simp [Result.andThen, asAddr, loadVar, iy, sy, hx]
theorem two_cellsB {w : World} {n : Nat} {v0 v1 : Value} {t : TypeId} {fr : Nat × Nat} (h : w.heap[n]? = some (.cells #[v0, v1] t fr)) : ∀ j v, [v0, v1][j]? = some v → w.cell? ((⟨n, 0, none⟩ : Addr).add j) = some v := by
  intro j v hj
  match j, hj with
  | 0, hj => simp only [List.getElem?_cons_zero, Option.some.injEq] at hj; subst hj; exact (Lib.cell_of_heap h 0).trans rfl
  | 1, hj => simp only [List.getElem?_cons_succ, List.getElem?_cons_zero, Option.some.injEq] at hj; subst hj; exact (Lib.cell_of_heap h 1).trans rfl
theorem set_pair {w : World} {n : Nat} {a b : Value} {t : TypeId} {fr : Nat × Nat} (h : w.heap[n]? = some (.cells #[a, b] t fr)) (x y : Value) : ((w.setCell ⟨n, 0, none⟩ x).setCell ⟨n, 1, none⟩ y).heap[n]? = some (.cells #[x, y] t fr) := by
  rw [heap_set (heap_set h x)]
  rfl
/-- the tests of a pattern lie in a row of a call's own -/
def OwnT (w : World) (v : Value) (X : List Ft) : Prop := ∃ us : List Value, w.ownsRow 0 187 1 v X.length us ∧ us.length = X.length ∧ ∀ i, i < X.length → TestAt w (us.getD i nilV1) (X.getD i nilF)
theorem OwnT.tests {w : World} {v : Value} {X : List Ft} (h : OwnT w v X) : TestsAt w v X := by
  obtain ⟨us, h2, h3, h4⟩ := h
  exact PatM.tests h2 h3 h4
theorem OwnT.keeps {C : Obj → Prop} {w w' : World} {v : Value} {X : List Ft} (h : OwnT w v X) (hk : Keeps C w w') (h0 : ∀ cs, C (.cells cs 187 (0, 0))) (h1 : ∀ cs, C (.cells cs 21 (0, 0))) (h2 : ∀ cs, C (.cells cs 210 (0, 0))) : OwnT w' v X := by
  obtain ⟨us, g2, g3, g4⟩ := h
  exact ⟨us, hk.row g2 h0, g3, fun i hi => (g4 i hi).keeps hk h1 h2⟩
def CmpEnd (s : ByteArray) (w : World) (e : Ending) (w' : World) : Prop := (∃ (vt : Value) (n : Nat), e = .returned (.tuple #[.agg #[vt, .int .i64 (n : Int)], .int .u8 (patE s)]) ∧ (∃ q m c, vt = .slice q m c) ∧ (patE s = 0 → n = ftW (items s) ∧ OwnT w' vt (items s))) ∧ Below w.heap.size w w'
theorem patE_cmp {s : ByteArray} (hx : textB s = true) : patE s = (match cmp (runesOf s) false [] with
    | some (X, false) => if 32 < X.length then 3 else 0
    | _ => 4) ∧ (∀ X, cmp (runesOf s) false [] = some (X, false) → items s = X) := by
  have h := cmp_fts (runesOf s) []
  unfold patE items patOf
  rw [if_neg (by simp [hx])]
  cases hq : ftsL (runesOf s) with
  | none =>
    rw [hq] at h
    dsimp only at h
    rcases h with h | ⟨Z, h⟩
    · rw [h]; exact ⟨rfl, fun X hX => by cases hX⟩
    · rw [h]; exact ⟨rfl, fun X hX => by cases hX⟩
  | some Y =>
    rw [hq] at h
    dsimp only at h
    rw [h, List.nil_append]
    exact ⟨rfl, fun X hX => by injection hX with hX; injection hX with hX _⟩
theorem info_test : (Tryz.prog.info? 187).map (fun i => (i.zero, i.size, i.bytes)) = some (some .nilFunc, 1, 8) := by kernel_rfl
theorem info_test_of : ∃ i, Tryz.prog.info? 187 = some i ∧ i.zero = some .nilFunc ∧ i.size = 1 ∧ i.bytes = 8 := by
  have h := info_test
  cases hq : Tryz.prog.info? 187 with
  | none => rw [hq] at h; cases h
  | some i => rw [hq] at h; simp only [Option.map_some, Option.some.injEq, Prod.mk.injEq] at h; exact ⟨i, rfl, h.1, h.2.1, h.2.2⟩
theorem PatM.iter {B b k pos : Nat} {X : List Ft} {w : World} {s : ByteArray} (h : PatM B b X w) (hk : w.heap[k]? = some (.stringIter s pos)) (pos' : Nat) : PatM B b X (w.iterAt k s pos') := by
  obtain ⟨v, us, h1, h2, h3, h4⟩ := h
  have hkp : Keeps (fun q => q.isCells = true) w (w.iterAt k s pos') := ⟨by rw [Lib.iterAt_size]; exact Nat.le_refl _, fun j q hq hc => (Lib.iterAt_other w k j s pos' (by rintro rfl; rw [hk] at hq; cases hq; cases hc)).trans hq⟩
  exact ⟨v, us, hkp.same _ _ h1 rfl, hkp.row h2 fun _ => rfl, h3, fun i hi => (h4 i hi).keeps hkp (fun _ => rfl) fun _ => rfl⟩
theorem cell_one_at {w : World} {n : Nat} (hs : w.heap.size = n) (v : Value) (t : TypeId) : ∀ j u, ([v] : List Value)[j]? = some u → (w.alloc (.cells #[v] t)).cell? ((⟨n, 0, none⟩ : Addr).add j) = some u := by
  subst hs
  exact cell_one_new _ _ _
theorem set_ne {w : World} {b n : Nat} {v : Value} {t : TypeId} {fr : Nat × Nat} (h : w.heap[b]? = some (.cells #[v, .int .i64 (n : Int)] t fr)) {m : Nat} (hm : m ≠ n) : ¬ w.setCell ⟨b, 1, none⟩ (.int .i64 (m : Int)) = w := by
  intro e
  have h1 := heap_set (i := 1) h (.int .i64 (m : Int))
  rw [e, h] at h1
  simp at h1
  omega
theorem own_slice {W : World} {B sz n : Nat} {e : TypeId} {v : Value} {xs : List Value} (h : W.ownsRow B e sz v n xs) : ∃ q c, v = .slice q n c := by
  rcases h.2 with ⟨rfl, h0⟩ | ⟨g, cp, cur, hv9, _⟩
  · exact ⟨none, 0, by rw [h0]⟩
  · exact ⟨_, _, hv9⟩
theorem tests_fin {w : World} {B b : Nat} {X : List Ft} {v a0 a1 : Value} {us : List Value} {fr : Nat × Nat} (hb : w.heap[b]? = some (.cells #[a0, a1] 110 fr)) (h2 : w.ownsRow B 187 1 v X.length us) (h3 : us.length = X.length) (h4 : ∀ i, i < X.length → TestAt w (us.getD i nilV1) (X.getD i nilF)) (x y : Value) :
    OwnT ((w.setCell ⟨b, 0, none⟩ x).setCell ⟨b, 1, none⟩ y) v X := by
  have hk : Keeps (fun q => match q with | .cells _ t _ => t ≠ 110 | _ => True) w ((w.setCell ⟨b, 0, none⟩ x).setCell ⟨b, 1, none⟩ y) := ((Keeps.refl _ _).setCell hb (fun h => h rfl) 0 _).setCell (heap_set hb _) (fun h => h rfl) 1 _
  exact ⟨us, own_lower (hk.row h2 fun _ => (show 187 ≠ 110 by decide)) (Nat.zero_le _), h3, fun i hi => (h4 i hi).keeps hk (fun _ => (show 21 ≠ 110 by decide)) (fun _ => (show 210 ≠ 110 by decide))⟩
theorem eqIn_func (n : Nat) (fn : Fn) (a b : Array Value) (w : World) : (Op.equalIn (n + 1) 187 (.func fn a b) .nilFunc).run Tryz.prog w = .ok false w := by
  have hu := Tryz.underlying187
  unfold Op.equalIn
  simp [go_sem, hu, underlying, Sem.run_bind, Result.andThen]
theorem eqIn_nilf (n : Nat) (w : World) : (Op.equalIn (n + 1) 187 .nilFunc .nilFunc).run Tryz.prog w = .ok true w := by
  have hu := Tryz.underlying187
  unfold Op.equalIn
  simp [go_sem, hu, underlying, Sem.run_bind, Result.andThen]
theorem eq_func (fn : Fn) (a b : Array Value) (w : World) : (binOp BinOp.eql 187 (.func fn a b) .nilFunc).run Tryz.prog w = .ok (.bool false) w := by
  have h : (Op.equal 187 (.func fn a b) .nilFunc).run Tryz.prog w = .ok false w := eqIn_func 9999 fn a b w
  simp [binOp, go_sem, h, Result.andThen]
theorem eq_nilf (w : World) : (binOp BinOp.eql 187 .nilFunc .nilFunc).run Tryz.prog w = .ok (.bool true) w := by
  have h : (Op.equal 187 .nilFunc .nilFunc).run Tryz.prog w = .ok true w := eqIn_nilf 9999 w
  simp [binOp, go_sem, h, Result.andThen]
attribute [local go_sem] eq_func eq_nilf
set_option maxHeartbeats 32000000 in
theorem compile_any (s : ByteArray) (w : World) (hs : s.size ≤ 100000) (hT : Tabs w) : Calls Tryz.prog 88 #[.string s] w fun e w' => CmpEnd s w e w' := by
  have ap := Tryz.isAgg110
  have zp := Tryz.sizeOf110
  have hB0 := below_box (w := w) (.cells #[.slice none 0 0, .int .i64 0] 110)
  have cT := isText_any s _ (by unfold maxLen; omega) (hT.step hB0)
  have HB0 := Lib.hid hB0
  have h0 : (w.alloc (.cells #[.slice none 0 0, .int .i64 0] 110)).heap[w.heap.size]? = some (.cells #[.slice none 0 0, .int .i64 0] 110 (0, 0)) := heap_alloc_new w _
  have H0 := Lib.hid h0
  clear hB0 hT h0
  by_cases hx : textB s = true
  · rw [hx] at cT
    obtain ⟨hE, hI⟩ := patE_cmp hx
    have HPE := Lib.hid hE
    have HPI := Lib.hid hI
    clear hx hE hI
    obtain ⟨i0, hi0, hz0, hz1, hz2⟩ : ∃ i, Tryz.prog.info? 187 = some i ∧ i.zero = some .nilFunc ∧ i.size = 1 ∧ i.bytes = 8 := info_test_of
    go_enter Tryz.func88, Tryz.ntmps88
    go_wp2_with (go_at_call 93; (with_reducible refine cT.mono ?_); rintro e w1 ⟨rfl, hb1⟩; have H1 := Lib.hid ((hb1.block _ (lt_of_block H0.out)).trans H0.out); have HB1 := Lib.hid (below_next HB0.out hb1); clear hb1)
    have hs1 : w.heap.size < w1.heap.size := lt_of_block H1.out
    have h4 := heap_alloc_new w1 (.cells #[.slice none 0 0, .int .i64 0] 110)
    have hw4 : (w1.alloc (.cells #[.slice none 0 0, .int .i64 0] 110)).heap.size = w1.heap.size + 1 := by simp
    have HIT := Lib.hid (hw4 ▸ heap_alloc_new (w1.alloc (.cells #[.slice none 0 0, .int .i64 0] 110)) (.stringIter s 0))
    have HP0 := Lib.hid (show PatM w.heap.size w1.heap.size [] ((w1.alloc (.cells #[.slice none 0 0, .int .i64 0] 110)).alloc (.stringIter s 0)) from PatM.step (w := w1.alloc (.cells #[.slice none 0 0, .int .i64 0] 110)) ⟨_, [], h4, World.ownsRow_nil _ _ _ _, rfl, fun i hi => by cases hi⟩ (below_box _))
    have H2 := Lib.hid (((below_next (below_box (w := w1) (.cells #[.slice none 0 0, .int .i64 0] 110)) (below_box (w := w1.alloc (.cells #[.slice none 0 0, .int .i64 0] 110)) (.stringIter s 0))).block _ hs1).trans H1.out)
    have HB2 := Lib.hid (below_next HB1.out (below_next (below_box (w := w1) (.cells #[.slice none 0 0, .int .i64 0] 110)) (below_box (w := w1.alloc (.cells #[.slice none 0 0, .int .i64 0] 110)) (.stringIter s 0))))
    go_loopw [5] (fun v5 wr => ∃ (pos fuel : Nat) (X : List Ft) (bg : Bool), v5 = .bool bg ∧ Hid (wr.heap[w1.heap.size + 1]? = some (.stringIter s pos)) ∧ Hid (PatM w.heap.size w1.heap.size X wr) ∧ Hid (wr.heap[w.heap.size]? = some (.cells #[.slice none 0 0, .int .i64 0] 110 (0, 0))) ∧ Hid (Below w.heap.size w wr) ∧ Hid (cmp (runesOf s) false [] = cmp (runesAt s fuel pos) bg X) ∧ s.size ≤ pos + fuel ∧ X.length + fuel ≤ s.size) (fun _ wr => s.size - wr.iterPos (w1.heap.size + 1))
    case atStart => exact ⟨0, s.size, [], false, rfl, HIT.out, HP0.out, H2.out, HB2.out, by show _ = _; rw [runesAt_all], by omega, by simp⟩
    case round =>
      obtain ⟨pos, fuel, X, bg, rfl, HI, HP, HR, HW, HC, hfu, hXp⟩ := hrel
      have hpos0 := iterPos_of HI.out
      by_cases hp : pos < s.size
      · have hnx : ∀ ty, (Instr.next (.pointer (some ⟨w1.heap.size + 1, 0, none⟩)) true ty).run Tryz.prog wr = _ := fun ty => Lib.run_next_any_at wr (w1.heap.size + 1) s pos ty HI.out hp
        have hwd := width_pos s pos
        obtain ⟨fuel, rfl⟩ : ∃ f', fuel = f' + 1 := ⟨fuel - 1, by omega⟩
        have hRS := runesAt_step s fuel pos hp
        have HI1 := Lib.hid (Lib.iterAt_heap wr (w1.heap.size + 1) s pos (pos + (Utf8.decode s pos).2) HI.out)
        have HW1 := Lib.hid (Lib.below_iterAt HW.out (k := w1.heap.size + 1) (by omega) s (pos + (Utf8.decode s pos).2))
        have HP1 := Lib.hid (HP.out.iter HI.out (pos + (Utf8.decode s pos).2))
        have HR1 := Lib.hid ((Lib.iterAt_other wr (w1.heap.size + 1) w.heap.size s (pos + (Utf8.decode s pos).2) (by omega)).trans HR.out)
        obtain ⟨W1, hW1⟩ : ∃ W1, W1 = wr.iterAt (w1.heap.size + 1) s (pos + (Utf8.decode s pos).2) := ⟨_, rfl⟩
        rw [← hW1] at hnx HI1 HW1 HP1 HR1
        clear hW1 HI HW HP HR
        generalize (Utf8.decode s pos).1 = r at *
        generalize (Utf8.decode s pos).2 = d at *
        rw [hRS] at HC
        have cS := same_new r false (.inl rfl) W1
        have hq : IntKind.i64.wrap (((ftW X : Nat) : Int) + 1) = ((ftW X + 1 : Nat) : Int) := by have := ftW_le X; rw [IntKind.wrap_i64]; omega
        have hmeas : s.size - (pos + d) < s.size - pos := by omega
        cases bg
        · by_cases h37 : r = 37
          · subst h37
            have HC2 := Lib.hid (HC.out.trans (show cmp (37 :: runesAt s fuel (pos + d)) false X = cmp (runesAt s fuel (pos + d)) true X by rw [cmp]; simp))
            clear cS
            go_wp2
            go_roundw
            case rel => exact ⟨pos + d, fuel, X, true, rfl, HI1.out, HP1.out, HR1.out, HW1.out, HC2.out, by omega, by first | omega | (simp; omega)⟩
            case measure => rw [iterPos_of HI1.out, hpos0]; exact hmeas
          · have hrI : ¬ (r : Int) = 37 := by omega
            have HC2 := Lib.hid (HC.out.trans (show cmp (r :: runesAt s fuel (pos + d)) false X = cmp (runesAt s fuel (pos + d)) false (X ++ [⟨false, r⟩]) by rw [cmp]; simp [h37]))
            have WEQ := Lib.hid (show ftW X + 1 = ftW (X ++ [⟨false, r⟩]) by rw [ftW_app, if_neg (by simp [ftIs])])
            have hXlen : X.length ≤ 100010 := by omega
            go_wp2_with (first
              | (go_at_call 122; (with_reducible refine cS.mono ?_); rintro e w3 ⟨⟨t3, rfl, ht3, f3, cs3, rfl⟩, hb3⟩; have HT3 := Lib.hid ht3; have HP3 := Lib.hid (HP1.out.step hb3); have HR3 := Lib.hid ((hb3.block _ (lt_of_block HR1.out)).trans HR1.out); have HI3 := Lib.hid ((hb3.block _ (lt_of_block HI1.out)).trans HI1.out); have HW3 := Lib.hid (below_next HW1.out hb3); obtain ⟨v3, us3, p1, p2, p3, p4⟩ := HP3.out; have d0 : w3.cell? ⟨w1.heap.size, 0, none⟩ = some v3 := (Lib.cell_of_heap p1 0).trans rfl; have d1 : w3.cell? ⟨w1.heap.size, 1, none⟩ = some (.int .i64 (ftW X : Nat)) := (Lib.cell_of_heap p1 1).trans rfl; have e0 := Lib.frozen_of_heap p1 0; have e1 := Lib.frozen_of_heap p1 1; have P1 := Lib.hid p1; have P2 := Lib.hid p2; have P3 := Lib.hid p3; have P4 := Lib.hid p4; have hsz3 : w.heap.size ≤ w3.heap.size := HW3.out.size; clear p1 p2 p3 p4; clear ht3 hb3)
              | (at_builtin; refine wpList_append_own _ rfl _ _ 108 rfl w.heap.size 187 i0 _ 1 8 Tryz.underlying108 hi0 hz0 hz1 hz2 rfl (by decide) _ _ _ rfl (World.ownsRow.alloc (w := (w3.setCell ⟨w1.heap.size, 1, none⟩ (.int .i64 ((ftW X + 1 : Nat) : Int)))) ((Keeps.refl (fun q => match q with | .cells _ t _ => t ≠ 110 | _ => True) w3).setCell P1.out (fun h => h rfl) 1 _ |>.row P2.out (fun _ => (show 187 ≠ 110 by decide))) _) ⟨w3.heap.size, 0, none⟩ 1 1 [.func (.func f3) #[] cs3] rfl rfl (cell_one_at (w := (w3.setCell ⟨w1.heap.size, 1, none⟩ (.int .i64 ((ftW X + 1 : Nat) : Int)))) (by simp) _ _) (fun u hu => by simp at hu; rcases hu with rfl; rfl) (by unfold maxLen; omega) (by omega) (by simp; omega) ?_; intro v9 w9 hown9 hgrow9 hnil9; obtain ⟨q9, c9, rfl⟩ := own_form hown9; have HPUT := Lib.hid (PatM.put (x := ⟨false, r⟩) (W := ftW X + 1) (w4 := (w3.setCell ⟨w1.heap.size, 1, none⟩ (.int .i64 ((ftW X + 1 : Nat) : Int)))) (Nat.le_of_lt hs1) WEQ.out P1.out P2.out P3.out P4.out HT3.out (.inr rfl) (fun h => absurd h (set_ne P1.out (by omega))) hgrow9 hown9); have k9 := HPUT.out.2.2.2; have l0 := (Lib.cell_of_heap k9 0).trans rfl; have m0 := Lib.frozen_of_heap k9 0; clear hown9 hgrow9 hnil9 k9))
            have hPB := HPUT.out.2.1; have hPK := HPUT.out.2.2.1
            have HI9 := Lib.hid (hPK _ _ HI3.out (by omega) (fun cs h => by cases h))
            have HR9 := Lib.hid (hPK _ _ HR3.out (by omega) (fun cs h => by injection h with _ h _; exact absurd h (by decide)))
            have HW9 := Lib.hid (HW3.out.trans hPB)
            go_roundw
            case rel => exact ⟨pos + d, fuel, X ++ [(⟨false, r⟩ : Ft)], false, rfl, HI9.out, HPUT.out.1, HR9.out, HW9.out, HC2.out, by omega, by first | omega | (simp; omega)⟩
            case measure => rw [iterPos_of HI9.out, hpos0]; exact hmeas
        · by_cases hsy : symB r = true
          · have HC2 := Lib.hid (HC.out.trans (show cmp (r :: runesAt s fuel (pos + d)) true X = cmp (runesAt s fuel (pos + d)) false (X ++ [⟨true, r⟩]) by rw [cmp]; simp [hsy]))
            have cY := fun w' => symbol_new r hsy w'
            have hXlen : X.length ≤ 100010 := by omega
            by_cases h37 : r = 37
            · subst h37
              have cS : Calls Tryz.prog 122 #[.int .i32 37] W1 fun e w' => TestEnd ⟨false, 37⟩ W1 e w' := cS
              have cY : ∀ w', Calls Tryz.prog 123 #[.int .i32 37] w' fun e w2 => TestEnd ⟨true, 37⟩ w' e w2 := cY
              have WEQ := Lib.hid (show ftW X + 1 = ftW (X ++ [⟨true, 37⟩]) by rw [ftW_app, if_neg (by simp [ftIs])])
              go_wp2_with (first
                | (go_at_call 122; (with_reducible refine cS.mono ?_); rintro e w3 ⟨⟨t3, rfl, ht3, f3, cs3, rfl⟩, hb3⟩; have HT3 := Lib.hid ht3; have HP3 := Lib.hid (HP1.out.step hb3); have HR3 := Lib.hid ((hb3.block _ (lt_of_block HR1.out)).trans HR1.out); have HI3 := Lib.hid ((hb3.block _ (lt_of_block HI1.out)).trans HI1.out); have HW3 := Lib.hid (below_next HW1.out hb3); clear ht3 hb3)
                | (go_at_call 123; (with_reducible refine (cY _).mono ?_); rintro e w5 ⟨⟨t5, rfl, ht5, f5, cs5, rfl⟩, hb5⟩; have HT5 := Lib.hid ht5; have HP5 := Lib.hid (HP3.out.step hb5); have HR5 := Lib.hid ((hb5.block _ (lt_of_block HR3.out)).trans HR3.out); have HI5 := Lib.hid ((hb5.block _ (lt_of_block HI3.out)).trans HI3.out); have HW5 := Lib.hid (below_next HW3.out hb5); obtain ⟨v5, us5, p1, p2, p3, p4⟩ := HP5.out; have d0 : w5.cell? ⟨w1.heap.size, 0, none⟩ = some v5 := (Lib.cell_of_heap p1 0).trans rfl; have d1 : w5.cell? ⟨w1.heap.size, 1, none⟩ = some (.int .i64 (ftW X : Nat)) := (Lib.cell_of_heap p1 1).trans rfl; have e0 := Lib.frozen_of_heap p1 0; have e1 := Lib.frozen_of_heap p1 1; have P1 := Lib.hid p1; have P2 := Lib.hid p2; have P3 := Lib.hid p3; have P4 := Lib.hid p4; have hsz5 : w.heap.size ≤ w5.heap.size := HW5.out.size; clear p1 p2 p3 p4; clear ht5 hb5)
                | (at_builtin; refine wpList_append_own _ rfl _ _ 108 rfl w.heap.size 187 i0 _ 1 8 Tryz.underlying108 hi0 hz0 hz1 hz2 rfl (by decide) _ _ _ rfl (World.ownsRow.alloc (w := (w5.setCell ⟨w1.heap.size, 1, none⟩ (.int .i64 ((ftW X + 1 : Nat) : Int)))) ((Keeps.refl (fun q => match q with | .cells _ t _ => t ≠ 110 | _ => True) w5).setCell P1.out (fun h => h rfl) 1 _ |>.row P2.out (fun _ => (show 187 ≠ 110 by decide))) _) ⟨w5.heap.size, 0, none⟩ 1 1 [.func (.func f5) #[] cs5] rfl rfl (cell_one_at (w := (w5.setCell ⟨w1.heap.size, 1, none⟩ (.int .i64 ((ftW X + 1 : Nat) : Int)))) (by simp) _ _) (fun u hu => by simp at hu; rcases hu with rfl; rfl) (by unfold maxLen; omega) (by omega) (by simp; omega) ?_; intro v9 w9 hown9 hgrow9 hnil9; obtain ⟨q9, c9, rfl⟩ := own_form hown9; have HPUT := Lib.hid (PatM.put (x := ⟨true, 37⟩) (W := ftW X + 1) (w4 := (w5.setCell ⟨w1.heap.size, 1, none⟩ (.int .i64 ((ftW X + 1 : Nat) : Int)))) (Nat.le_of_lt hs1) WEQ.out P1.out P2.out P3.out P4.out HT5.out (.inr rfl) (fun h => absurd h (set_ne P1.out (by omega))) hgrow9 hown9); have k9 := HPUT.out.2.2.2; have l0 := (Lib.cell_of_heap k9 0).trans rfl; have m0 := Lib.frozen_of_heap k9 0; clear hown9 hgrow9 hnil9 k9))
              have hPB := HPUT.out.2.1; have hPK := HPUT.out.2.2.1
              have HI9 := Lib.hid (hPK _ _ HI5.out (by omega) (fun cs h => by cases h))
              have HR9 := Lib.hid (hPK _ _ HR5.out (by omega) (fun cs h => by injection h with _ h _; exact absurd h (by decide)))
              have HW9 := Lib.hid (HW5.out.trans hPB)
              go_roundw
              case rel => exact ⟨pos + d, fuel, X ++ [(⟨true, 37⟩ : Ft)], false, rfl, HI9.out, HPUT.out.1, HR9.out, HW9.out, HC2.out, by omega, by first | omega | (simp; omega)⟩
              case measure => rw [iterPos_of HI9.out, hpos0]; exact hmeas
            · have hrI : ¬ (r : Int) = 37 := by omega
              by_cases h98 : r = 98
              · subst h98
                have cS : Calls Tryz.prog 122 #[.int .i32 98] W1 fun e w' => TestEnd ⟨false, 98⟩ W1 e w' := cS
                have cY : ∀ w', Calls Tryz.prog 123 #[.int .i32 98] w' fun e w2 => TestEnd ⟨true, 98⟩ w' e w2 := cY
                have WEQ := Lib.hid (show ftW X = ftW (X ++ [⟨true, 98⟩]) by rw [ftW_app, if_pos (by simp [ftIs])]; rfl)
                go_wp2_with (first
                  | (go_at_call 122; (with_reducible refine cS.mono ?_); rintro e w3 ⟨⟨t3, rfl, ht3, f3, cs3, rfl⟩, hb3⟩; have HT3 := Lib.hid ht3; have HP3 := Lib.hid (HP1.out.step hb3); have HR3 := Lib.hid ((hb3.block _ (lt_of_block HR1.out)).trans HR1.out); have HI3 := Lib.hid ((hb3.block _ (lt_of_block HI1.out)).trans HI1.out); have HW3 := Lib.hid (below_next HW1.out hb3); clear ht3 hb3)
                  | (go_at_call 123; (with_reducible refine (cY _).mono ?_); rintro e w5 ⟨⟨t5, rfl, ht5, f5, cs5, rfl⟩, hb5⟩; have HT5 := Lib.hid ht5; have HP5 := Lib.hid (HP3.out.step hb5); have HR5 := Lib.hid ((hb5.block _ (lt_of_block HR3.out)).trans HR3.out); have HI5 := Lib.hid ((hb5.block _ (lt_of_block HI3.out)).trans HI3.out); have HW5 := Lib.hid (below_next HW3.out hb5); obtain ⟨v5, us5, p1, p2, p3, p4⟩ := HP5.out; have d0 : w5.cell? ⟨w1.heap.size, 0, none⟩ = some v5 := (Lib.cell_of_heap p1 0).trans rfl; have d1 : w5.cell? ⟨w1.heap.size, 1, none⟩ = some (.int .i64 (ftW X : Nat)) := (Lib.cell_of_heap p1 1).trans rfl; have e0 := Lib.frozen_of_heap p1 0; have e1 := Lib.frozen_of_heap p1 1; have P1 := Lib.hid p1; have P2 := Lib.hid p2; have P3 := Lib.hid p3; have P4 := Lib.hid p4; have hsz5 : w.heap.size ≤ w5.heap.size := HW5.out.size; clear p1 p2 p3 p4; clear ht5 hb5)
                  | (at_builtin; refine wpList_append_own _ rfl _ _ 108 rfl w.heap.size 187 i0 _ 1 8 Tryz.underlying108 hi0 hz0 hz1 hz2 rfl (by decide) _ _ _ rfl (World.ownsRow.alloc (w := w5) P2.out _) ⟨w5.heap.size, 0, none⟩ 1 1 [.func (.func f5) #[] cs5] rfl rfl (cell_one_at (w := w5) (by simp) _ _) (fun u hu => by simp at hu; rcases hu with rfl; rfl) (by unfold maxLen; omega) (by omega) (by simp; omega) ?_; intro v9 w9 hown9 hgrow9 hnil9; obtain ⟨q9, c9, rfl⟩ := own_form hown9; have HPUT := Lib.hid (PatM.put (x := ⟨true, 98⟩) (W := ftW X) (w4 := w5) (Nat.le_of_lt hs1) WEQ.out P1.out P2.out P3.out P4.out HT5.out (.inl rfl) (fun _ => rfl) hgrow9 hown9); have k9 := HPUT.out.2.2.2; have l0 := (Lib.cell_of_heap k9 0).trans rfl; have m0 := Lib.frozen_of_heap k9 0; clear hown9 hgrow9 hnil9 k9))
                have hPB := HPUT.out.2.1; have hPK := HPUT.out.2.2.1
                have HI9 := Lib.hid (hPK _ _ HI5.out (by omega) (fun cs h => by cases h))
                have HR9 := Lib.hid (hPK _ _ HR5.out (by omega) (fun cs h => by injection h with _ h _; exact absurd h (by decide)))
                have HW9 := Lib.hid (HW5.out.trans hPB)
                go_roundw
                case rel => exact ⟨pos + d, fuel, X ++ [(⟨true, 98⟩ : Ft)], false, rfl, HI9.out, HPUT.out.1, HR9.out, HW9.out, HC2.out, by omega, by first | omega | (simp; omega)⟩
                case measure => rw [iterPos_of HI9.out, hpos0]; exact hmeas
              · have h98I : ¬ (r : Int) = 98 := by omega
                have WEQ := Lib.hid (show ftW X + 1 = ftW (X ++ [⟨true, r⟩]) by rw [ftW_app, if_neg (by simp [ftIs, h98])])
                go_wp2_with (first
                  | (go_at_call 122; (with_reducible refine cS.mono ?_); rintro e w3 ⟨⟨t3, rfl, ht3, f3, cs3, rfl⟩, hb3⟩; have HT3 := Lib.hid ht3; have HP3 := Lib.hid (HP1.out.step hb3); have HR3 := Lib.hid ((hb3.block _ (lt_of_block HR1.out)).trans HR1.out); have HI3 := Lib.hid ((hb3.block _ (lt_of_block HI1.out)).trans HI1.out); have HW3 := Lib.hid (below_next HW1.out hb3); clear ht3 hb3)
                  | (go_at_call 123; (with_reducible refine (cY _).mono ?_); rintro e w5 ⟨⟨t5, rfl, ht5, f5, cs5, rfl⟩, hb5⟩; have HT5 := Lib.hid ht5; have HP5 := Lib.hid (HP3.out.step hb5); have HR5 := Lib.hid ((hb5.block _ (lt_of_block HR3.out)).trans HR3.out); have HI5 := Lib.hid ((hb5.block _ (lt_of_block HI3.out)).trans HI3.out); have HW5 := Lib.hid (below_next HW3.out hb5); obtain ⟨v5, us5, p1, p2, p3, p4⟩ := HP5.out; have d0 : w5.cell? ⟨w1.heap.size, 0, none⟩ = some v5 := (Lib.cell_of_heap p1 0).trans rfl; have d1 : w5.cell? ⟨w1.heap.size, 1, none⟩ = some (.int .i64 (ftW X : Nat)) := (Lib.cell_of_heap p1 1).trans rfl; have e0 := Lib.frozen_of_heap p1 0; have e1 := Lib.frozen_of_heap p1 1; have P1 := Lib.hid p1; have P2 := Lib.hid p2; have P3 := Lib.hid p3; have P4 := Lib.hid p4; have hsz5 : w.heap.size ≤ w5.heap.size := HW5.out.size; clear p1 p2 p3 p4; clear ht5 hb5)
                  | (at_builtin; refine wpList_append_own _ rfl _ _ 108 rfl w.heap.size 187 i0 _ 1 8 Tryz.underlying108 hi0 hz0 hz1 hz2 rfl (by decide) _ _ _ rfl (World.ownsRow.alloc (w := (w5.setCell ⟨w1.heap.size, 1, none⟩ (.int .i64 ((ftW X + 1 : Nat) : Int)))) ((Keeps.refl (fun q => match q with | .cells _ t _ => t ≠ 110 | _ => True) w5).setCell P1.out (fun h => h rfl) 1 _ |>.row P2.out (fun _ => (show 187 ≠ 110 by decide))) _) ⟨w5.heap.size, 0, none⟩ 1 1 [.func (.func f5) #[] cs5] rfl rfl (cell_one_at (w := (w5.setCell ⟨w1.heap.size, 1, none⟩ (.int .i64 ((ftW X + 1 : Nat) : Int)))) (by simp) _ _) (fun u hu => by simp at hu; rcases hu with rfl; rfl) (by unfold maxLen; omega) (by omega) (by simp; omega) ?_; intro v9 w9 hown9 hgrow9 hnil9; obtain ⟨q9, c9, rfl⟩ := own_form hown9; have HPUT := Lib.hid (PatM.put (x := ⟨true, r⟩) (W := ftW X + 1) (w4 := (w5.setCell ⟨w1.heap.size, 1, none⟩ (.int .i64 ((ftW X + 1 : Nat) : Int)))) (Nat.le_of_lt hs1) WEQ.out P1.out P2.out P3.out P4.out HT5.out (.inr rfl) (fun h => absurd h (set_ne P1.out (by omega))) hgrow9 hown9); have k9 := HPUT.out.2.2.2; have l0 := (Lib.cell_of_heap k9 0).trans rfl; have m0 := Lib.frozen_of_heap k9 0; clear hown9 hgrow9 hnil9 k9))
                have hPB := HPUT.out.2.1; have hPK := HPUT.out.2.2.1
                have HI9 := Lib.hid (hPK _ _ HI5.out (by omega) (fun cs h => by cases h))
                have HR9 := Lib.hid (hPK _ _ HR5.out (by omega) (fun cs h => by injection h with _ h _; exact absurd h (by decide)))
                have HW9 := Lib.hid (HW5.out.trans hPB)
                go_roundw
                case rel => exact ⟨pos + d, fuel, X ++ [(⟨true, r⟩ : Ft)], false, rfl, HI9.out, HPUT.out.1, HR9.out, HW9.out, HC2.out, by omega, by first | omega | (simp; omega)⟩
                case measure => rw [iterPos_of HI9.out, hpos0]; exact hmeas
          · have hsy' : symB r = false := by simpa using hsy
            have cN := fun w' => symbol_no r hsy' w'
            have HE := Lib.hid (show patE s = 4 by rw [HPE.out, HC.out]; rw [show cmp (r :: runesAt s fuel (pos + d)) true X = none by rw [cmp]; simp [hsy']])
            have h37 : r ≠ 37 := by rintro rfl; simp [symB] at hsy'
            have hrI : ¬ (r : Int) = 37 := by omega
            go_wp2_with (first
              | (go_at_call 122; (with_reducible refine cS.mono ?_); rintro e w3 ⟨⟨t3, rfl, ht3, f3, cs3, rfl⟩, hb3⟩; have HT3 := Lib.hid ht3; have HP3 := Lib.hid (HP1.out.step hb3); have HR3 := Lib.hid ((hb3.block _ (lt_of_block HR1.out)).trans HR1.out); have HI3 := Lib.hid ((hb3.block _ (lt_of_block HI1.out)).trans HI1.out); have HW3 := Lib.hid (below_next HW1.out hb3); have c0 : w3.cell? ⟨w.heap.size, 0, none⟩ = some (.slice none 0 0) := (Lib.cell_of_heap HR3.out 0).trans rfl; have c1 : w3.cell? ⟨w.heap.size, 1, none⟩ = some (.int .i64 0) := (Lib.cell_of_heap HR3.out 1).trans rfl; have f0 := Lib.frozen_of_heap HR3.out 0; have f1 := Lib.frozen_of_heap HR3.out 1; clear ht3 hb3)
              | (go_at_call 123; (with_reducible refine (cN _).mono ?_); rintro e w5 ⟨rfl, rfl⟩))
            have hfin := set_pair HR3.out (.slice none 0 0) (.int .i64 0)
            refine bodyPost_ret (results_ctB (xs := [.slice none 0 0, .int .i64 0]) rfl rfl ap zp (two_cellsB hfin)) rfl ?_
            exact ⟨⟨_, 0, by rw [HE.out]; rfl, ⟨_, _, _, rfl⟩, fun h => by rw [HE.out] at h; cases h⟩, ((HW3.out.setCell (p := ⟨w.heap.size, 0, none⟩) (Nat.le_refl _) _).setCell (p := ⟨w.heap.size, 1, none⟩) (Nat.le_refl _) _)⟩
      · have hnx : ∀ ty, (Instr.next (.pointer (some ⟨w1.heap.size + 1, 0, none⟩)) true ty).run Tryz.prog wr = _ := fun ty => Lib.run_next_end_at wr (w1.heap.size + 1) s pos ty HI.out hp
        rw [runesAt_end s fuel pos hp] at HC
        cases bg
        · have hHC := HC.out
          rw [cmp] at hHC
          have hit := HPI.out X hHC
          by_cases h32 : 32 < X.length
          · have h32I : (32 : Int) < (X.length : Int) := by omega
            have HE := Lib.hid (show patE s = 3 by rw [HPE.out, hHC]; exact if_pos h32)
            obtain ⟨vr, usr, p1, p2, p3, p4⟩ := HP.out; have d0 : wr.cell? ⟨w1.heap.size, 0, none⟩ = some vr := (Lib.cell_of_heap p1 0).trans rfl; have d1 : wr.cell? ⟨w1.heap.size, 1, none⟩ = some (.int .i64 (ftW X : Nat)) := (Lib.cell_of_heap p1 1).trans rfl; have e0 := Lib.frozen_of_heap p1 0; have e1 := Lib.frozen_of_heap p1 1; have P1 := Lib.hid p1; have P2 := Lib.hid p2; have P3 := Lib.hid p3; have P4 := Lib.hid p4; have hszr : w.heap.size ≤ wr.heap.size := HW.out.size; clear p1 p2 p3 p4; have c0 : wr.cell? ⟨w.heap.size, 0, none⟩ = some (.slice none 0 0) := (Lib.cell_of_heap HR.out 0).trans rfl; have c1 : wr.cell? ⟨w.heap.size, 1, none⟩ = some (.int .i64 0) := (Lib.cell_of_heap HR.out 1).trans rfl; have f0 := Lib.frozen_of_heap HR.out 0; have f1 := Lib.frozen_of_heap HR.out 1
            obtain ⟨q4, c4, rfl⟩ := own_slice P2.out
            go_wp2
            have hfin := set_pair HR.out (.slice none 0 0) (.int .i64 0)
            refine bodyPost_ret (results_ctB (xs := [.slice none 0 0, .int .i64 0]) rfl rfl ap zp (two_cellsB hfin)) rfl ?_
            exact ⟨⟨_, 0, by rw [HE.out]; rfl, ⟨_, _, _, rfl⟩, fun h => by rw [HE.out] at h; cases h⟩, ((HW.out.setCell (p := ⟨w.heap.size, 0, none⟩) (Nat.le_refl _) _).setCell (p := ⟨w.heap.size, 1, none⟩) (Nat.le_refl _) _)⟩
          · have h32I : ¬ (32 : Int) < (X.length : Int) := by omega
            have HE := Lib.hid (show patE s = 0 by rw [HPE.out, hHC]; exact if_neg h32)
            obtain ⟨vr, usr, p1, p2, p3, p4⟩ := HP.out; have d0 : wr.cell? ⟨w1.heap.size, 0, none⟩ = some vr := (Lib.cell_of_heap p1 0).trans rfl; have d1 : wr.cell? ⟨w1.heap.size, 1, none⟩ = some (.int .i64 (ftW X : Nat)) := (Lib.cell_of_heap p1 1).trans rfl; have e0 := Lib.frozen_of_heap p1 0; have e1 := Lib.frozen_of_heap p1 1; have P1 := Lib.hid p1; have P2 := Lib.hid p2; have P3 := Lib.hid p3; have P4 := Lib.hid p4; have hszr : w.heap.size ≤ wr.heap.size := HW.out.size; clear p1 p2 p3 p4; have c0 : wr.cell? ⟨w.heap.size, 0, none⟩ = some (.slice none 0 0) := (Lib.cell_of_heap HR.out 0).trans rfl; have c1 : wr.cell? ⟨w.heap.size, 1, none⟩ = some (.int .i64 0) := (Lib.cell_of_heap HR.out 1).trans rfl; have f0 := Lib.frozen_of_heap HR.out 0; have f1 := Lib.frozen_of_heap HR.out 1
            obtain ⟨q4, c4, rfl⟩ := own_slice P2.out
            go_wp2
            have hfin := set_pair HR.out (.slice q4 X.length c4) (.int .i64 (ftW X : Nat))
            refine bodyPost_ret (results_ctB (xs := [.slice q4 X.length c4, .int .i64 (ftW X : Nat)]) rfl rfl ap zp (two_cellsB hfin)) rfl ?_
            exact ⟨⟨_, ftW X, by rw [HE.out]; rfl, ⟨_, _, _, rfl⟩, fun _ => by rw [hit]; exact ⟨rfl, tests_fin HR.out P2.out P3.out P4.out _ _⟩⟩, ((HW.out.setCell (p := ⟨w.heap.size, 0, none⟩) (Nat.le_refl _) _).setCell (p := ⟨w.heap.size, 1, none⟩) (Nat.le_refl _) _)⟩
        · have hHC := HC.out
          rw [cmp] at hHC
          have HE := Lib.hid (show patE s = 4 by rw [HPE.out, hHC])
          have c0 : wr.cell? ⟨w.heap.size, 0, none⟩ = some (.slice none 0 0) := (Lib.cell_of_heap HR.out 0).trans rfl; have c1 : wr.cell? ⟨w.heap.size, 1, none⟩ = some (.int .i64 0) := (Lib.cell_of_heap HR.out 1).trans rfl; have f0 := Lib.frozen_of_heap HR.out 0; have f1 := Lib.frozen_of_heap HR.out 1
          go_wp2
          have hfin := set_pair HR.out (.slice none 0 0) (.int .i64 0)
          refine bodyPost_ret (results_ctB (xs := [.slice none 0 0, .int .i64 0]) rfl rfl ap zp (two_cellsB hfin)) rfl ?_
          exact ⟨⟨_, 0, by rw [HE.out]; rfl, ⟨_, _, _, rfl⟩, fun h => by rw [HE.out] at h; cases h⟩, ((HW.out.setCell (p := ⟨w.heap.size, 0, none⟩) (Nat.le_refl _) _).setCell (p := ⟨w.heap.size, 1, none⟩) (Nat.le_refl _) _)⟩
  · have hx' : textB s = false := by simpa using hx
    rw [hx'] at cT
    have HE := Lib.hid (show patE s = 4 by unfold patE; rw [if_pos hx'])
    clear hx hx'
    go_enter Tryz.func88, Tryz.ntmps88
    go_wp2_with (go_at_call 93; (with_reducible refine cT.mono ?_); rintro e w1 ⟨rfl, hb1⟩; have H1 := Lib.hid ((hb1.block _ (lt_of_block H0.out)).trans H0.out); have c0 : w1.cell? ⟨w.heap.size, 0, none⟩ = some (.slice none 0 0) := (Lib.cell_of_heap H1.out 0).trans rfl; have c1 : w1.cell? ⟨w.heap.size, 1, none⟩ = some (.int .i64 0) := (Lib.cell_of_heap H1.out 1).trans rfl; have f0 := Lib.frozen_of_heap H1.out 0; have f1 := Lib.frozen_of_heap H1.out 1; have HB1 := Lib.hid (below_next HB0.out hb1); clear hb1)
    have hfin := set_pair H1.out (.slice none 0 0) (.int .i64 0)
    refine bodyPost_ret (results_ctB (xs := [.slice none 0 0, .int .i64 0]) rfl rfl ap zp (two_cellsB hfin)) rfl ?_
    exact ⟨⟨_, 0, by rw [HE.out]; rfl, ⟨_, _, _, rfl⟩, fun h => by rw [HE.out] at h; cases h⟩, ((HB1.out.setCell (p := ⟨w.heap.size, 0, none⟩) (Nat.le_refl _) _).setCell (p := ⟨w.heap.size, 1, none⟩) (Nat.le_refl _) _)⟩
end Go.Proofs.YtnkpjkomokkhcaaGreatDoor
namespace Go.Proofs.YtnkpjkomokkhcaaGreatDoor
open Go Go.RowKit Go.Lib
set_option maxRecDepth 100000
def nilR : Rl := ⟨⟨#[]⟩, ⟨#[]⟩, false⟩
def rF (R : List Rl) (i j : Nat) : Value := if j = 0 then .string (R.getD i nilR).b else if j = 1 then .string (R.getD i nilR).a else .bool (R.getD i nilR).k
/-- the strings of rules that are asked at all are of no great size -/
def SzR (R : List Rl) : Prop := R.length ≤ 64 → ∀ x ∈ R, x.b.size ≤ 100000 ∧ x.a.size ≤ 100000
/-- break rules lie in memory -/
def RulesAt (w : World) (v : Value) (R : List Rl) : Prop := SliceAt w.heap.size w v R.length 3 (rF R)
theorem RulesAt.step {w w' : World} {v : Value} {R : List Rl} (hb : Below w.heap.size w w') (h : RulesAt w v R) : RulesAt w' v R := (SliceAt.below hb h).mono hb.size
theorem RulesAt.get {w : World} {p : Option Addr} {n cap : Nat} {R : List Rl} (h : RulesAt w (.slice p n cap) R) {i : Nat} (hi : i < R.length) : ∃ A, p = some A ∧ w.cell? (A.add (i * 3)) = some (.string (R.getD i nilR).b) ∧ w.cell? { block := (A.add (i * 3)).block, off := (A.add (i * 3)).off + 1 } = some (.string (R.getD i nilR).a) ∧ w.cell? { block := (A.add (i * 3)).block, off := (A.add (i * 3)).off + 2 } = some (.bool (R.getD i nilR).k) := by
  obtain ⟨p', cap', e, _, _, h3⟩ := h
  injection e with e1 e2 e3
  subst e1
  obtain ⟨A, rfl, hA, hc⟩ := h3 (by omega)
  exact ⟨A, rfl, hc i 0 hi (by omega), cell_off (by omega) (hc i 1 hi (by omega)), cell_off (by omega) (hc i 2 hi (by omega))⟩
theorem rls_stuck {R : List Rl} {k : Nat} (h : rlsTo R k ≠ 0) : ∀ d, rlsTo R (k + d) = rlsTo R k
  | 0 => rfl
  | d + 1 => by
    have ih := rls_stuck h d
    show rlsTo R (k + d + 1) = _
    rw [rlsTo, ih, if_pos h]
theorem rls_next {R : List Rl} {k : Nat} (h : rlsTo R k = 0) : rlsTo R (k + 1) = rlE (R.getD k nilR) := by
  rw [rlsTo, if_neg (by simp [h])]
  rfl
theorem rls_err {R : List Rl} {k : Nat} (hl : R.length ≤ 64) (hk : k < R.length) (h : rlsTo R k = 0) (hE : rlE (R.getD k nilR) ≠ 0) : rlsE R = rlE (R.getD k nilR) := by
  have h1 := rls_next h
  have h2 := rls_stuck (R := R) (k := k + 1) (by rw [h1]; exact hE) (R.length - (k + 1))
  unfold rlsE
  rw [if_neg (by omega), show R.length = k + 1 + (R.length - (k + 1)) by omega, h2, h1]
/-- compiled rules -/
structure Bk where
  vb : Value
  va : Value
  x : Rl
def nilB : Bk := ⟨nilV1, nilV1, nilR⟩
def cellsB (us : List Bk) : List Value := us.flatMap fun u => [u.vb, .int .i64 (ftW (items u.x.b) : Nat), u.va, .int .i64 (ftW (items u.x.a) : Nat), .bool u.x.k]
def OwnK (B : Nat) (v : Value) (us : List Bk) (w : World) : Prop := w.ownsRow B 112 5 v us.length (cellsB us) ∧ ∀ u ∈ us, OwnT w u.vb (items u.x.b) ∧ OwnT w u.va (items u.x.a)
theorem OwnK.step {B : Nat} {v : Value} {us : List Bk} {w w' : World} (h : OwnK B v us w) (hb : Below w.heap.size w w') : OwnK B v us w' := by
  have hk := Keeps.below (C := fun _ => True) hb
  exact ⟨hk.row h.1 fun _ => trivial, fun u hu => ⟨(h.2 u hu).1.keeps hk (fun _ => trivial) (fun _ => trivial) (fun _ => trivial), (h.2 u hu).2.keeps hk (fun _ => trivial) (fun _ => trivial) (fun _ => trivial)⟩⟩
theorem OwnK.put {B : Nat} {v v' : Value} {us : List Bk} {u : Bk} {w w2 : World} (h : OwnK B v us w) (hu : OwnT w u.vb (items u.x.b) ∧ OwnT w u.va (items u.x.a)) (hg : w.grownBy w2 v.ownBlock)
    (hr : w2.ownsRow B 112 5 v' (us.length + 1) (cellsB us ++ [u.vb, .int .i64 (ftW (items u.x.b) : Nat), u.va, .int .i64 (ftW (items u.x.a) : Nat), .bool u.x.k])) : OwnK B v' (us ++ [u]) w2 := by
  have hk : Keeps (fun q => match q with | .cells _ t _ => t ≠ 112 | _ => True) w w2 := Keeps.grown h.1 hg (fun _ hh => hh rfl)
  have d1 : ∀ {X : List Ft} {vt : Value}, OwnT w vt X → OwnT w2 vt X := fun ht => ht.keeps hk (fun _ => (show 187 ≠ 112 by decide)) (fun _ => (show 21 ≠ 112 by decide)) (fun _ => (show 210 ≠ 112 by decide))
  refine ⟨?_, fun y hy => ?_⟩
  · rw [List.length_append, List.length_singleton]
    have e : cellsB (us ++ [u]) = cellsB us ++ [u.vb, .int .i64 (ftW (items u.x.b) : Nat), u.va, .int .i64 (ftW (items u.x.a) : Nat), .bool u.x.k] := by unfold cellsB; rw [List.flatMap_append]; rfl
    rw [e]
    exact hr
  · rcases List.mem_append.1 hy with hy | hy
    · exact ⟨d1 (h.2 y hy).1, d1 (h.2 y hy).2⟩
    · rw [List.mem_singleton.1 hy]
      exact ⟨d1 hu.1, d1 hu.2⟩
theorem info_bk : (Tryz.prog.info? 112).map (fun i => (i.zero, i.size, i.bytes)) = some (some (.agg #[.slice none 0 0, .int .i64 0, .slice none 0 0, .int .i64 0, .bool false]), 5, 72) := by kernel_rfl
theorem info_bk_of : ∃ i, Tryz.prog.info? 112 = some i ∧ i.zero = some (.agg #[.slice none 0 0, .int .i64 0, .slice none 0 0, .int .i64 0, .bool false]) ∧ i.size = 5 ∧ i.bytes = 72 := by
  have h := info_bk
  cases hq : Tryz.prog.info? 112 with
  | none => rw [hq] at h; cases h
  | some i => rw [hq] at h; simp only [Option.map_some, Option.some.injEq, Prod.mk.injEq] at h; exact ⟨i, rfl, h.1, h.2.1, h.2.2⟩
theorem cell_new5 (w : World) (a b c d e : Value) (t : TypeId) : ∀ j u, [a, b, c, d, e][j]? = some u → (w.alloc (.cells #[a, b, c, d, e] t)).cell? ((⟨w.heap.size, 0, none⟩ : Addr).add j) = some u := by
  intro j u hj
  have h := heap_alloc_new w (.cells #[a, b, c, d, e] t)
  match j, hj with
  | 0, hj => simp only [List.getElem?_cons_zero, Option.some.injEq] at hj; subst hj; exact (Lib.cell_of_heap h 0).trans rfl
  | 1, hj => simp only [List.getElem?_cons_succ, List.getElem?_cons_zero, Option.some.injEq] at hj; subst hj; exact (Lib.cell_of_heap h 1).trans rfl
  | 2, hj => simp only [List.getElem?_cons_succ, List.getElem?_cons_zero, Option.some.injEq] at hj; subst hj; exact (Lib.cell_of_heap h 2).trans rfl
  | 3, hj => simp only [List.getElem?_cons_succ, List.getElem?_cons_zero, Option.some.injEq] at hj; subst hj; exact (Lib.cell_of_heap h 3).trans rfl
  | 4, hj => simp only [List.getElem?_cons_succ, List.getElem?_cons_zero, Option.some.injEq] at hj; subst hj; exact (Lib.cell_of_heap h 4).trans rfl
def RlsEnd (R : List Rl) (w : World) (e : Ending) (w' : World) : Prop := (∃ vr, e = .returned (.tuple #[vr, .int .u8 (rlsE R)]) ∧ (∃ q m c, vr = .slice q m c) ∧ (rlsE R = 0 → ∃ us, us.map Bk.x = R ∧ OwnK w.heap.size vr us w')) ∧ Below w.heap.size w w'
end Go.Proofs.YtnkpjkomokkhcaaGreatDoor
namespace Go.Proofs.YtnkpjkomokkhcaaGreatDoor
open Go Go.RowKit Go.Lib
set_option maxRecDepth 100000
theorem cell_new5' {w : World} {n : Nat} (hs : w.heap.size = n) (a b c d e : Value) (t : TypeId) : ∀ j u, [a, b, c, d, e][j]? = some u → (w.alloc (.cells #[a, b, c, d, e] t)).cell? ((⟨n, 0, none⟩ : Addr).add j) = some u := by
  subst hs
  exact cell_new5 _ _ _ _ _ _ _
theorem own_box2 {w : World} {v : Value} {X : List Ft} {o o2 : Obj} (h : OwnT w v X) : OwnT ((w.alloc o).alloc o2) v X :=
  h.keeps (Keeps.below (C := fun _ => True) (below_next (below_box (w := w) o) (below_box o2))) (fun _ => trivial) (fun _ => trivial) (fun _ => trivial)
set_option maxHeartbeats 32000000 in
theorem compileRules_any (R : List Rl) (v : Value) (w : World) (hv : RulesAt w v R) (hz : SzR R) (hT : Tabs w) : Calls Tryz.prog 53 #[v] w fun e w' => RlsEnd R w e w' := by
  have ap := Tryz.isAgg110
  have zp := Tryz.sizeOf110
  have ab := Tryz.isAgg112
  have zb := Tryz.sizeOf112
  have ar := Tryz.isAgg47
  have zr := Tryz.sizeOf47
  have HV := Lib.hid hv
  have HZ := Lib.hid hz
  have HT := Lib.hid hT
  obtain ⟨p, cap, rfl, hl, hc, hrow⟩ := hv
  clear hrow hz hT
  unfold maxLen at hc
  by_cases hE : 64 < R.length
  · have hEI : (64 : Int) < (R.length : Int) := by omega
    have HE := Lib.hid (show rlsE R = 3 by unfold rlsE; rw [if_pos hE])
    go_enter Tryz.func53, Tryz.ntmps53
    go_wp2
    go_ret2
    exact ⟨⟨_, by rw [HE.out]; rfl, ⟨_, _, _, rfl⟩, fun h => by rw [HE.out] at h; cases h⟩, Below.refl _ _⟩
  · have hEI : ¬ (64 : Int) < (R.length : Int) := by omega
    have hE64 : R.length ≤ 64 := by omega
    obtain ⟨i0, hi0, hz0, hz1, hz2⟩ := info_bk_of
    go_enter Tryz.func53, Tryz.ntmps53
    go_wp2
    go_loopw [4, 15] (fun v4 v15 wr => ∃ (k : Nat) (us : List Bk), v15 = .int .i64 k ∧ k ≤ R.length ∧ us.length = k ∧ Hid (rlsTo R k = 0) ∧ Hid (us.map Bk.x = R.take k) ∧ Hid (OwnK w.heap.size v4 us wr) ∧ Hid (Below w.heap.size w wr)) (fun _ v15 _ => R.length - (RowKit.intOf v15).toNat)
    case atStart => exact ⟨0, [], rfl, Nat.zero_le _, rfl, rfl, rfl, ⟨World.ownsRow_nil _ _ _ _, fun u hu => by cases hu⟩, Below.refl _ _⟩
    case round =>
      obtain ⟨k, us, rfl, hk, hus, HS, HM, HO, HB⟩ := hrel
      by_cases hlt : k < R.length
      · have hki : (k : Int) < (R.length : Int) := by omega
        have hk0 : (0 : Int) ≤ (k : Int) := by omega
        obtain ⟨A, rfl, x0, x1, x2⟩ := (HV.out.step HB.out).get hlt
        have hsz := HZ.out hE64 (R.getD k nilR) (by rw [List.getD_eq_getElem?_getD, List.getElem?_eq_getElem hlt]; exact List.getElem_mem hlt)
        have HRN := Lib.hid (rls_next HS.out)
        have HRE := Lib.hid (rls_err hE64 hlt HS.out)
        have HMN := Lib.hid (show ∀ b a, (us ++ [(⟨b, a, R.getD k nilR⟩ : Bk)]).map Bk.x = R.take (k + 1) by
          intro b a
          rw [List.map_append, HM.out, List.take_add_one, List.getD_eq_getElem?_getD, List.getElem?_eq_getElem hlt]
          rfl)
        generalize R.getD k nilR = x at *
        obtain ⟨xb, xa, xk⟩ := x
        dsimp only at x0 x1 x2 hsz
        have hbx := below_box (w := wr) (.cells #[.string xb, .string xa, .bool xk] 47)
        have HX1 := Lib.hid (heap_alloc_new wr (.cells #[.string xb, .string xa, .bool xk] 47))
        have HO1 := Lib.hid (HO.out.step hbx)
        have HB1 := Lib.hid (below_next HB.out hbx)
        have cC1 := compile_any xb _ hsz.1 (HT.out.step HB1.out)
        have cC2 := fun w' ht => compile_any xa w' hsz.2 ht
        unfold CmpEnd at cC1 cC2
        have hszr := HB.out.size
        clear hbx HS
        by_cases he1 : patE xb = 0
        · by_cases he2 : patE xa = 0
          · rw [he1] at cC1
            rw [he2] at cC2
            have HSN := Lib.hid (HRN.out.trans (show rlE ⟨xb, xa, xk⟩ = 0 by unfold rlE; dsimp only; rw [if_neg (by simp [he1])]; exact he2))
            go_wp2_with (first
              | (go_at_call 88; (with_reducible refine cC1.mono ?_); rintro e w3 ⟨⟨vt, n, rfl, ⟨q3, m3, c3, rfl⟩, h3⟩, hb3⟩; obtain ⟨rfl, ho3⟩ := h3 (by first | trivial | rfl); have HT3 := Lib.hid ho3; have HB3 := Lib.hid (below_next HB1.out hb3); have HX3 := Lib.hid ((hb3.block _ (lt_of_block HX1.out)).trans HX1.out); have HO3 := Lib.hid (HO1.out.step hb3); have y1 : w3.cell? ⟨wr.heap.size, 1, none⟩ = some (.string xa) := (Lib.cell_of_heap HX3.out 1).trans rfl; have y2 : w3.cell? ⟨wr.heap.size, 2, none⟩ = some (.bool xk) := (Lib.cell_of_heap HX3.out 2).trans rfl; have hw3 := lt_of_block HX3.out; have HB4 := Lib.hid (below_next HB3.out (below_box (w := w3) (.cells #[.slice q3 m3 c3, .int .i64 (ftW (items xb) : Nat)] 110))); clear h3 hb3 ho3)
              | (go_at_call 88; (with_reducible refine (cC2 _ (HT.out.step HB4.out)).mono ?_); rintro e w5 ⟨⟨vt5, n5, rfl, ⟨q5, m5, c5, rfl⟩, h5⟩, hb5⟩; obtain ⟨rfl, ho5⟩ := h5 (by first | trivial | rfl); have hbb := below_next (below_box (w := w3) (.cells #[.slice q3 m3 c3, .int .i64 (ftW (items xb) : Nat)] 110)) hb5; have HT5 := Lib.hid ho5; have HT35 := Lib.hid (HT3.out.keeps (Keeps.below (C := fun _ => True) hbb) (fun _ => trivial) (fun _ => trivial) (fun _ => trivial)); have HX5 := Lib.hid ((hbb.block _ (lt_of_block HX3.out)).trans HX3.out); have HX7 := Lib.hid ((hb5.block _ (lt_of_block (heap_alloc_new w3 _))).trans (heap_alloc_new w3 _)); have HO5 := Lib.hid (HO3.out.step hbb); have z2 : w5.cell? ⟨wr.heap.size, 2, none⟩ = some (.bool xk) := (Lib.cell_of_heap HX5.out 2).trans rfl; have z0 : w5.cell? ⟨w3.heap.size, 0, none⟩ = some (.slice q3 m3 c3) := (Lib.cell_of_heap HX7.out 0).trans rfl; have z1 : w5.cell? ⟨w3.heap.size, 1, none⟩ = some (.int .i64 (ftW (items xb) : Nat)) := (Lib.cell_of_heap HX7.out 1).trans rfl; have hw5 := lt_of_block HX5.out; have hw7 := lt_of_block HX7.out; have hv5 : w.heap.size ≤ w5.heap.size := Nat.le_trans hszr (Nat.le_of_lt hw5); clear ho5 hbb; have HB5 := Lib.hid (below_next HB4.out hb5); clear h5 hb5)
              | (at_builtin; refine wpList_append_own _ rfl _ _ 98 rfl w.heap.size 112 i0 _ 5 72 Tryz.underlying98 hi0 hz0 hz1 hz2 rfl (by decide) _ _ _ rfl ((HO5.out.1.alloc (.cells #[.slice q5 m5 c5, .int .i64 (ftW (items xa) : Nat)] 110)).alloc _) ⟨w5.heap.size + 1, 0, none⟩ 1 1 [.slice q3 m3 c3, .int .i64 (ftW (items xb) : Nat), .slice q5 m5 c5, .int .i64 (ftW (items xa) : Nat), .bool xk] rfl rfl (cell_new5' (by simp) _ _ _ _ _ _) (fun u hu => by simp at hu; rcases hu with rfl | rfl | rfl | rfl | rfl <;> rfl) (by unfold maxLen; omega) (by omega) (by simp; omega) ?_; intro v9 w9 hown9 hgrow9 hnil9; have HK := Lib.hid (OwnK.put (u := ⟨.slice q3 m3 c3, .slice q5 m5 c5, ⟨xb, xa, xk⟩⟩) ((HO5.out.step (below_box (.cells #[.slice q5 m5 c5, .int .i64 (ftW (items xa) : Nat)] 110))).step (below_box _)) ⟨own_box2 HT35.out, own_box2 HT5.out⟩ hgrow9 hown9); have HB9 := Lib.hid (((below_next (below_next HB5.out (below_box (.cells #[.slice q5 m5 c5, .int .i64 (ftW (items xa) : Nat)] 110))) (below_box _)).grown hgrow9 (by simp; omega) (fun k e => (HO5.out.1.lt k e).1))); clear hown9 hgrow9 hnil9))
            go_roundw
            case rel => exact ⟨k + 1, us ++ [(⟨.slice q3 m3 c3, .slice q5 m5 c5, ⟨xb, xa, xk⟩⟩ : Bk)], by go_num, by omega, by simp [hus], HSN.out, HMN.out _ _, HK.out, HB9.out⟩
            case measure => simp [RowKit.intOf]; omega
          · have HE := Lib.hid (show rlsE R = patE xa by
              have h0 : rlE ⟨xb, xa, xk⟩ = patE xa := by unfold rlE; dsimp only; rw [if_neg (by simp [he1])]
              rw [HRE.out (by rw [h0]; exact he2), h0])
            have he2' : (patE xa != 0) = true := by simpa using he2
            rw [he1] at cC1
            clear HRN HRE
            generalize patE xa = Z at *
            go_wp2_with (first
              | (go_at_call 88; (with_reducible refine cC1.mono ?_); rintro e w3 ⟨⟨vt, n, rfl, ⟨q3, m3, c3, rfl⟩, h3⟩, hb3⟩; obtain ⟨rfl, ho3⟩ := h3 (by first | trivial | rfl); have HT3 := Lib.hid ho3; have HB3 := Lib.hid (below_next HB1.out hb3); have HX3 := Lib.hid ((hb3.block _ (lt_of_block HX1.out)).trans HX1.out); have HO3 := Lib.hid (HO1.out.step hb3); have y1 : w3.cell? ⟨wr.heap.size, 1, none⟩ = some (.string xa) := (Lib.cell_of_heap HX3.out 1).trans rfl; have y2 : w3.cell? ⟨wr.heap.size, 2, none⟩ = some (.bool xk) := (Lib.cell_of_heap HX3.out 2).trans rfl; have hw3 := lt_of_block HX3.out; have HB4 := Lib.hid (below_next HB3.out (below_box (w := w3) (.cells #[.slice q3 m3 c3, .int .i64 (ftW (items xb) : Nat)] 110))); clear h3 hb3 ho3)
              | (go_at_call 88; (with_reducible refine (cC2 _ (HT.out.step HB4.out)).mono ?_); rintro e w5 ⟨⟨vt5, n5, rfl, ⟨q5, m5, c5, rfl⟩, h5⟩, hb5⟩; have HB5 := Lib.hid (below_next HB4.out hb5); clear h5 hb5))
            go_ret2
            exact ⟨⟨_, by rw [HE.out]; rfl, ⟨_, _, _, rfl⟩, fun h => by rw [HE.out] at h; exact absurd h he2⟩, below_next HB5.out (below_box _)⟩
        · have HE := Lib.hid (show rlsE R = patE xb by
            rw [HRE.out (by unfold rlE; dsimp only; rw [if_pos he1]; exact he1)]
            unfold rlE; dsimp only; rw [if_pos he1])
          clear HRN HRE
          have he1' : (patE xb != 0) = true := by simpa using he1
          generalize patE xb = Z at *
          go_wp2_with (go_at_call 88; (with_reducible refine cC1.mono ?_); rintro e w3 ⟨⟨vt, n, rfl, ⟨q3, m3, c3, rfl⟩, h3⟩, hb3⟩; have HB3 := Lib.hid (below_next HB1.out hb3); clear h3 hb3)
          go_ret2
          exact ⟨⟨_, by rw [HE.out]; rfl, ⟨_, _, _, rfl⟩, fun h => by rw [HE.out] at h; exact absurd h he1⟩, below_next HB3.out (below_box _)⟩
      · have hki : ¬ (k : Int) < (R.length : Int) := by omega
        obtain rfl : k = R.length := by omega
        have HE := Lib.hid (show rlsE R = 0 by unfold rlsE; rw [if_neg hE]; exact HS.out)
        obtain ⟨q4, c4, rfl⟩ := own_slice HO.out.1
        have HO2 := Lib.hid (show OwnK w.heap.size (.slice q4 R.length c4) us wr by have := HO.out; rwa [show Value.slice q4 us.length c4 = .slice q4 R.length c4 by rw [hus]] at this)
        clear HO
        go_wp2
        go_ret2
        exact ⟨⟨.slice q4 R.length c4, by rw [HE.out]; rfl, ⟨_, _, _, rfl⟩, fun _ => ⟨us, by rw [HM.out, List.take_length], HO2.out⟩⟩, HB.out⟩
end Go.Proofs.YtnkpjkomokkhcaaGreatDoor
namespace Go.Proofs.YtnkpjkomokkhcaaGreatDoor
open Go Go.RowKit Go.Lib
set_option maxRecDepth 100000
theorem fts_nz : ∀ (rs : List Nat), (∀ r ∈ rs, r ≠ 0) → ∀ X, ftsL rs = some X → ∀ x ∈ X, x.r ≠ 0
  | [], _, X, h, x, hx => by simp [ftsL] at h; subst h; cases hx
  | [r], hr, X, h, x, hx => by
    unfold ftsL at h
    split at h
    · cases h
    · injection h with h; subst h
      rw [List.mem_singleton.1 hx]
      exact hr r (List.mem_cons_self ..)
  | r :: s :: l, hr, X, h, x, hx => by
    unfold ftsL at h
    split at h
    · split at h
      · cases hq : ftsL l with
        | none => rw [hq] at h; cases h
        | some Y =>
          rw [hq] at h
          injection h with h; subst h
          rcases List.mem_cons.1 hx with rfl | hx
          · exact hr s (by simp)
          · exact fts_nz l (fun q hq' => hr q (by simp [hq'])) Y hq x hx
      · cases h
    · cases hq : ftsL (s :: l) with
      | none => rw [hq] at h; cases h
      | some Y =>
        rw [hq] at h
        injection h with h; subst h
        rcases List.mem_cons.1 hx with rfl | hx
        · exact hr r (List.mem_cons_self ..)
        · exact fts_nz (s :: l) (fun q hq' => hr q (List.mem_cons_of_mem _ hq')) Y hq x hx
theorem items_ok {s : ByteArray} (h : patE s = 0) : (items s).length ≤ 32 ∧ ∀ x ∈ items s, x.r ≠ 0 := by
  unfold patE at h
  split at h
  · cases h
  · rename_i ht
    have ht : textB s = true := by simpa using ht
    cases hq : patOf s with
    | none => rw [hq] at h; cases h
    | some X =>
      rw [hq] at h
      dsimp only at h
      split at h
      · cases h
      · rename_i hl
        unfold items
        rw [hq]
        refine ⟨by simpa using hl, ?_⟩
        refine fts_nz (runesOf s) (fun r hr => ?_) X hq
        have := (dec_all _ s (Nat.le_refl _) ht r hr).2
        rintro rfl
        revert this
        decide
theorem rl_ok {x : Rl} (h : rlE x = 0) : patE x.b = 0 ∧ patE x.a = 0 := by
  unfold rlE at h
  split at h
  · rename_i h1; exact absurd h h1
  · rename_i h1; exact ⟨by simpa using h1, h⟩
theorem rls_ok {R : List Rl} (h : rlsE R = 0) : ∀ i, i < R.length → rlE (R.getD i nilR) = 0 := by
  unfold rlsE at h
  split at h
  · cases h
  · have key : ∀ k, rlsTo R k = 0 → ∀ i, i < k → rlE (R.getD i nilR) = 0 := by
      intro k
      induction k with
      | zero => intro _ i hi; cases hi
      | succ k ih =>
        intro hk i hi
        have h0 : rlsTo R k = 0 := by
          by_cases e : rlsTo R k = 0
          · exact e
          · have := rls_stuck e 1
            rw [hk] at this
            exact absurd this.symm e
        rcases Nat.lt_succ_iff_lt_or_eq.1 hi with h1 | rfl
        · exact ih h0 i h1
        · rw [← rls_next h0]; exact hk
    exact key _ h
theorem cellsB_get : ∀ (us : List Bk) (i : Nat), i < us.length → (cellsB us)[i * 5]? = some (us.getD i nilB).vb ∧ (cellsB us)[i * 5 + 1]? = some (.int .i64 (ftW (items (us.getD i nilB).x.b) : Nat)) ∧ (cellsB us)[i * 5 + 2]? = some (us.getD i nilB).va ∧ (cellsB us)[i * 5 + 3]? = some (.int .i64 (ftW (items (us.getD i nilB).x.a) : Nat)) ∧ (cellsB us)[i * 5 + 4]? = some (.bool (us.getD i nilB).x.k)
  | [], i, hi => by cases hi
  | u :: us, 0, _ => ⟨rfl, rfl, rfl, rfl, rfl⟩
  | u :: us, i + 1, hi => by
    have h := cellsB_get us i (by rw [List.length_cons] at hi; omega)
    have e : ∀ j, (cellsB (u :: us))[(i + 1) * 5 + j]? = (cellsB us)[i * 5 + j]? := fun j => by
      have e1 : cellsB (u :: us) = [u.vb, .int .i64 (ftW (items u.x.b) : Nat), u.va, .int .i64 (ftW (items u.x.a) : Nat), .bool u.x.k] ++ cellsB us := rfl
      rw [e1, List.getElem?_append_right (by show 5 ≤ _; omega)]
      show (cellsB us)[(i + 1) * 5 + j - 5]? = _
      rw [show (i + 1) * 5 + j - 5 = i * 5 + j by omega]
    have e0 := e 0
    rw [Nat.add_zero, Nat.add_zero] at e0
    rw [e0, e 1, e 2, e 3, e 4]
    exact h
theorem OwnK.get {B i : Nat} {v : Value} {us : List Bk} {w : World} (h : OwnK B v us w) (hi : i < us.length) : ∃ A cap, v = .slice (some A) us.length cap ∧ A.block < w.heap.size ∧ w.cell? (A.add (i * 5)) = some (us.getD i nilB).vb ∧ w.cell? { block := (A.add (i * 5)).block, off := (A.add (i * 5)).off + 1 } = some (.int .i64 (ftW (items (us.getD i nilB).x.b) : Nat)) ∧
    w.cell? { block := (A.add (i * 5)).block, off := (A.add (i * 5)).off + 2 } = some (us.getD i nilB).va ∧ w.cell? { block := (A.add (i * 5)).block, off := (A.add (i * 5)).off + 3 } = some (.int .i64 (ftW (items (us.getD i nilB).x.a) : Nat)) ∧ w.cell? { block := (A.add (i * 5)).block, off := (A.add (i * 5)).off + 4 } = some (.bool (us.getD i nilB).x.k) := by
  have hc := h.1
  rcases h.1.2 with ⟨_, h0⟩ | ⟨g, cap, cur, rfl, hg, hh, hn, hm, _⟩
  · omega
  · obtain ⟨c0, c1, c2, c3, c4⟩ := cellsB_get us i hi
    have hx := World.ownsRow.cells hc (g := g) rfl
    exact ⟨_, _, rfl, lt_of_block hh, hx _ _ c0, cell_off (by omega) (hx _ _ c1), cell_off (by omega) (hx _ _ c2), cell_off (by omega) (hx _ _ c3), cell_off (by omega) (hx _ _ c4)⟩
end Go.Proofs.YtnkpjkomokkhcaaGreatDoor
namespace Go.Proofs.YtnkpjkomokkhcaaGreatDoor
open Go Go.RowKit Go.Lib
set_option maxRecDepth 100000
def ftE (x : Rl) (l : List Pc) (p : Int) : Int := if rlsE [x] ≠ 0 then rlsE [x] else if checkE l ≠ 0 then checkE l else if p < 0 ∨ ((unsL l).length : Int) < p then 1 else 0
def ftR (x : Rl) (l : List Pc) (p : Int) : Bool := decide (ftE x l p = 0) && rlFits x (unsL l) p.toNat
end Go.Proofs.YtnkpjkomokkhcaaGreatDoor
