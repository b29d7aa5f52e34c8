/- The stack of open tags: push, top, pop, follow, as the program does them on a stack that a call has made itself. -/
import Derived.Test.YtcgghmpafphcpaaGreatDoorDp3
import Derived.Lib.Builder
namespace Go.Proofs.YtcgghmpafphcpaaGreatDoor
open Go Go.RowKit
set_option maxRecDepth 100000
theorem ownsRow_step {w w' : World} {B : Nat} {e : TypeId} {z n : Nat} {v : Value} {xs : List Value} (hb : Below w.heap.size w w') (h : w.ownsRow B e z v n xs) : w'.ownsRow B e z v n xs :=
  h.kept (row := none) ⟨hb.os, hb.tape, hb.output, hb.size, fun k hk _ => hb.block k hk⟩ (by cases v.ownBlock <;> simp)
theorem bytes_ext {x y : ByteArray} (h : x.toList = y.toList) : x = y := by
  rw [ByteArray.toList_eq, ByteArray.toList_eq] at h
  obtain ⟨⟨x⟩⟩ := x
  obtain ⟨⟨y⟩⟩ := y
  simp at h
  rw [h]
theorem ownsRow_drew {w : World} {B : Nat} {e : TypeId} {z n : Nat} {v : Value} {xs : List Value} (k : Nat) (h : w.ownsRow B e z v n xs) : (w.drewN k).ownsRow B e z v n xs := h
/-- a stack of names stands in a block of its own -/
def StackAt (B b : Nat) (op : List ByteArray) (w : World) : Prop := B ≤ b ∧ ∃ v, w.heap[b]? = some (.cells #[v] 59 (0, 0)) ∧ w.ownsRow B 9 1 v op.length (op.map Value.string) ∧ v.ownBlock ≠ some b
theorem StackAt.step {B b : Nat} {op : List ByteArray} {w w' : World} (hb : Below w.heap.size w w') (h : StackAt B b op w) : StackAt B b op w' := by
  obtain ⟨h0, v, h1, h2, h3⟩ := h
  exact ⟨h0, v, by rw [hb.block b (lt_of_block h1)]; exact h1, ownsRow_step hb h2, h3⟩
theorem StackAt.new (w : World) : StackAt w.heap.size w.heap.size [] (w.alloc (.cells #[.slice none 0 0] 59)) :=
  ⟨Nat.le_refl _, .slice none 0 0, (by show (w.heap.push _)[_]? = _; simp), World.ownsRow_nil _ _ _ _, by simp [Value.ownBlock]⟩
theorem StackAt.put {B b : Nat} {v v' : Value} {op : List ByteArray} {w : World} (hB : B ≤ b) (hb : w.heap[b]? = some (.cells #[v] 59 (0, 0))) (hown : w.ownsRow B 9 1 v' op.length (op.map Value.string)) (hne : v'.ownBlock ≠ some b) :
    StackAt B b op (w.setCell ⟨b, 0, none⟩ v') := by
  refine ⟨hB, v', ?_, ?_, hne⟩
  · simp [World.setCell, Array.getElem?_modify, hb]
  · exact hown.kept (row := some b) ⟨rfl, rfl, rfl, by simp [World.setCell], fun k _ hk => Below.heap_setCell _ _ _ _ (fun e => hk (by simp [e]))⟩ (Or.inr hne)
theorem add_at (g k : Nat) : (⟨g, 0, none⟩ : Addr).add k = ⟨g, k, none⟩ := by
  unfold Addr.add
  by_cases h : k = 0
  · subst h; simp
  · simp [h]
theorem StackAt.lt {B b : Nat} {op : List ByteArray} {w : World} (h : StackAt B b op w) : b < w.heap.size := by obtain ⟨_, v, hb, _⟩ := h; exact lt_of_block hb
theorem StackAt.cell {B b : Nat} {op : List ByteArray} {w : World} (h : StackAt B b op w) : ∃ ao cap, w.cell? ⟨b, 0, none⟩ = some (.slice ao op.length cap) := by
  obtain ⟨_, v, hb, hown, _⟩ := h
  rcases hown.2 with ⟨rfl, h0⟩ | ⟨g, cap, cur, rfl, _⟩
  · exact ⟨none, 0, by rw [Lib.cell_of_heap hb, h0]; rfl⟩
  · exact ⟨_, _, by rw [Lib.cell_of_heap hb]; rfl⟩
theorem info_str : (Tryz.prog.info? 9).map (fun i => (i.zero, i.size, i.bytes)) = some (some (.string ⟨#[]⟩), 1, 16) := by kernel_rfl
theorem ownBlock_other {w : World} {B : Nat} {v u : Value} {n b : Nat} {xs : List Value} (hown : w.ownsRow B 9 1 v n xs) (hb : w.heap[b]? = some (.cells #[u] 59 (0, 0))) : v.ownBlock ≠ some b := by
  rcases hown.2 with ⟨rfl, _⟩ | ⟨g, cap, cur, rfl, _, hg, _⟩
  · simp [Value.ownBlock]
  · intro e
    simp only [Value.ownBlock, Option.some.injEq] at e
    subst e
    rw [hg] at hb
    cases hb
set_option maxHeartbeats 2000000 in
theorem push_any (B b : Nat) (op : List ByteArray) (s : ByteArray) (w : World) (h : StackAt B b op w) (hlen : op.length ≤ 1000) (hBw : B ≤ w.heap.size) :
    Calls Tryz.prog 63 #[.pointer (some ⟨b, 0, none⟩), .string s] w fun e w' => e = .returned (.tuple #[]) ∧ StackAt B b (op ++ [s]) w' ∧ Below B w w' ∧ w.heap.size ≤ w'.heap.size := by
  obtain ⟨i0, hi, hz0, hz1, hz2⟩ := info_parts info_str
  obtain ⟨hB, v, hbk, hown, hne⟩ := h
  have c0 : w.cell? ⟨b, 0, none⟩ = some v := by rw [Lib.cell_of_heap hbk]; rfl
  have hlt := lt_of_block hbk
  go_enter Tryz.func63, Tryz.ntmps63
  go_wp2_with (at_builtin; refine wpList_append_own _ rfl _ _ 59 rfl B 9 i0 (.string ⟨#[]⟩) 1 16 Tryz.underlying59 hi hz0 hz1 hz2 rfl (by decide) _ _ _ rfl (hown.alloc _) ⟨w.heap.size, 0, none⟩ 1 1 [.string s] rfl rfl ?c1 ?c2 ?c3 ?c4 ?c5 ?_)
  case c1 =>
    intro j u hj
    match j, hj with
    | 0, hj => simp at hj; subst hj; simp [Addr.add]
  case c2 => intro u hu; simp at hu; subst hu; rfl
  case c3 => unfold maxLen; omega
  case c4 => omega
  case c5 => simp; omega
  intro v' w2 hown' hgrow _
  have hb2 : w2.heap[b]? = some (.cells #[v] 59 (0, 0)) := by
    rw [hgrow.block b (by simp; omega) (fun e => hne e.symm), Below.heap_alloc _ _ _ hlt]
    exact hbk
  have hsz : w.heap.size ≤ w2.heap.size := by have := hgrow.size; simp at this; omega
  have d0 : w2.cell? ⟨b, 0, none⟩ = some v := by rw [Lib.cell_of_heap hb2]; rfl
  have f1 : w2.frozen? ⟨b, 0, none⟩ = false := Lib.frozen_of_heap hb2 0
  have hne' := ownBlock_other hown' hb2
  have HW := Lib.hid (StackAt.put (op := op ++ [s]) hB hb2 (by simpa using hown') hne')
  have HB := Lib.hid ((((Below.refl B w).alloc hBw (.cells #[.string s] 9)).grown hgrow (by simp; omega) (fun k hk => (hown.lt k hk).1)).setCell (p := ⟨b, 0, none⟩) hB v')
  obtain ⟨ao, n', cap, rfl⟩ : ∃ ao n' cap, v' = .slice ao n' cap := by
    rcases hown'.2 with ⟨hv, _⟩ | ⟨g, cap, cur, hv, _⟩
    · exact ⟨_, _, _, hv⟩
    · exact ⟨_, _, _, hv⟩
  clear hown' hgrow
  go_wp2
  go_end0
  exact ⟨rfl, HW.out, HB.out, by simpa [World.setCell] using hsz⟩
set_option maxHeartbeats 2000000 in
theorem top_any (B b : Nat) (op : List ByteArray) (w : World) (h : StackAt B b op w) :
    Calls Tryz.prog 104 #[.pointer (some ⟨b, 0, none⟩)] w fun e w' => e = .returned (.tuple #[.string (op.getLast?.getD ⟨#[]⟩), .bool (decide (0 < op.length))]) ∧ ∃ n, w' = w.drewN n := by
  obtain ⟨hB, v, hbk, hown, hne⟩ := h
  have c0 : w.cell? ⟨b, 0, none⟩ = some v := by rw [Lib.cell_of_heap hbk]; rfl
  rcases List.eq_nil_or_concat op with rfl | ⟨l, x, rfl⟩
  · obtain ⟨ao, cap, rfl⟩ : ∃ ao cap, v = .slice ao 0 cap := by
      rcases hown.2 with ⟨hv, h0⟩ | ⟨g, cap, cur, hv, _⟩
      · exact ⟨none, 0, hv⟩
      · exact ⟨_, _, hv⟩
    go_enter Tryz.func104, Tryz.ntmps104
    go_wp2
    go_ret2
    exact ⟨rfl, 0, rfl⟩
  · rcases hown.2 with ⟨_, hn0⟩ | ⟨g, cap, cur, rfl, _, _, hncap, hcapm, _, _⟩
    · simp at hn0
    have ct0 : w.cell? ⟨g, l.length, none⟩ = some (.string x) := by rw [← add_at]; exact hown.cells (g := g) rfl l.length (.string x) (by simp)
    simp only [List.concat_eq_append, List.length_append, List.length_cons, List.length_nil, Nat.zero_add] at *
    unfold maxLen at hcapm
    have hg0 : (((l.length : Int) + 1) == 0) = false := by simp; omega
    have hwr : IntKind.i64.wrap (l.length : Int) = (l.length : Int) := by rw [IntKind.wrap_i64]; omega
    have c9 : Tryz.prog.cellsOf 9 = 1 := by kernel_rfl
    have hix1 : (l.length : Int) < (l.length : Int) + 1 := by omega
    have hix2 : (l.length : Int) < ((l.length + 1 : Nat) : Int) := by omega
    have hix3 : l.length < l.length + 1 := by omega
    have hix0 : (0 : Int) ≤ (l.length : Int) := by omega
    clear hown
    go_enter Tryz.func104, Tryz.ntmps104
    go_wp2
    go_quiet (fail)
    go_wp2
    go_ret2
    exact ⟨by simp, _, rfl⟩
theorem pop_row {w : World} {B g cap : Nat} {l : List ByteArray} {x : ByteArray} (h : w.ownsRow B 9 1 (.slice (some ⟨g, 0, none⟩) (l.length + 1) cap) (l.length + 1) ((l ++ [x]).map Value.string)) :
    w.ownsRow B 9 1 (.slice (some ⟨g, 0, none⟩) l.length cap) l.length (l.map Value.string) :=
  ownsRow_pop (xs := l.map Value.string) (last := [.string x]) (by simp) (by simpa using h)
set_option maxHeartbeats 2000000 in
theorem pop_any (B b : Nat) (op : List ByteArray) (w : World) (h : StackAt B b op w) :
    Calls Tryz.prog 64 #[.pointer (some ⟨b, 0, none⟩)] w fun e w' => e = .returned (.tuple #[.string (op.getLast?.getD ⟨#[]⟩), .bool (decide (0 < op.length))]) ∧ StackAt B b op.dropLast w' ∧ Below B w w' ∧ w.heap.size ≤ w'.heap.size ∧ ∀ k, k ≠ b → w'.heap[k]? = w.heap[k]? := by
  have cT := top_any B b op w h
  have h0 := h
  obtain ⟨hB, v, hbk, hown, hne⟩ := h
  rcases List.eq_nil_or_concat op with rfl | ⟨l, x, rfl⟩
  · have H0 := Lib.hid h0
    clear hown
    simp only [List.getLast?_nil, Option.getD_none, List.length_nil, Nat.lt_irrefl, decide_false] at cT
    go_enter Tryz.func64, Tryz.ntmps64
    go_wp2_with (go_at_call 104; (with_reducible refine cT.mono ?_); rintro e w2 ⟨rfl, n, rfl⟩)
    go_ret2
    exact ⟨by simp, H0.out, ⟨rfl, rfl, rfl, Nat.le_refl _, fun _ _ => rfl⟩, Nat.le_refl _, fun _ _ => rfl⟩
  · rcases hown.2 with ⟨_, hn0⟩ | ⟨g, cap, cur, rfl, _, _, hncap, hcapm, _, _⟩
    · simp at hn0
    simp only [List.concat_eq_append, List.length_append, List.length_cons, List.length_nil, Nat.zero_add] at *
    have hp := pop_row hown
    have HP := Lib.hid (fun n => StackAt.put (w := w.drewN n) (v := .slice (some ⟨g, 0, none⟩) (l.length + 1) cap) hB hbk (ownsRow_drew n hp) hne)
    have HB := Lib.hid (fun n => Below.setCell (B := B) (a := w) (w := w.drewN n) ⟨rfl, rfl, rfl, Nat.le_refl _, fun _ _ => rfl⟩ (p := ⟨b, 0, none⟩) hB (.slice (some ⟨g, 0, none⟩) l.length cap))
    clear hown hp
    simp only [List.getLast?_append, List.getLast?_singleton, Option.some_or, Option.getD_some, Nat.zero_lt_succ, decide_true] at cT
    have c0 : w.cell? ⟨b, 0, none⟩ = some (.slice (some ⟨g, 0, none⟩) (l.length + 1) cap) := by rw [Lib.cell_of_heap hbk]; rfl
    have f0 : w.frozen? ⟨b, 0, none⟩ = false := Lib.frozen_of_heap hbk 0
    unfold maxLen at hcapm
    have hwr : IntKind.i64.wrap (l.length : Int) = (l.length : Int) := by rw [IntKind.wrap_i64]; omega
    have hix2 : (l.length : Int) < ((l.length + 1 : Nat) : Int) := by omega
    have hix0 : (0 : Int) ≤ (l.length : Int) := by omega
    have hix4 : (l.length : Int) ≤ (cap : Int) := by omega
    go_enter Tryz.func64, Tryz.ntmps64
    go_wp2_with (go_at_call 104; (with_reducible refine cT.mono ?_); rintro e w2 ⟨rfl, n, rfl⟩)
    go_region
    go_wp2
    go_ret2
    exact ⟨by simp, by simpa using HP.out _, HB.out _, by simp [World.setCell], fun k hk => Below.heap_setCell _ _ _ _ hk⟩
/-- what follow does -/
def followed (B b : Nat) (op : List ByteArray) (x : Pc) (e : Ending) (w' : World) : Prop :=
  ∃ z : Int, e = .returned (.int .u8 z) ∧ ((folE op x = .error z ∧ z ≠ 0) ∨ (z = 0 ∧ ∃ op', folE op x = .ok op' ∧ StackAt B b op' w'))
set_option maxHeartbeats 4000000 in
theorem follow_any (B b : Nat) (op : List ByteArray) (x : Pc) (w : World) (h : StackAt B b op w) (hlen : op.length ≤ 1000) (hBw : B ≤ w.heap.size) :
    Calls Tryz.prog 29 #[.pointer (some ⟨b, 0, none⟩), pcV x] w fun e w' => followed B b op x e w' ∧ Below B w w' ∧ w.heap.size ≤ w'.heap.size := by
  have ag := Tryz.isAgg39
  have zg := Tryz.sizeOf39
  have HF := Lib.hid (show folE op x = if x.k = 2 then (if op.length + 1 > 16 then .error 3 else .ok (op ++ [x.s]))
    else if x.k = 3 then (if op.getLast? = some x.s then .ok op.dropLast else .error 9) else .ok op from rfl)
  obtain ⟨k, s, c⟩ := x
  have hbx := below_box (w := w) (pcC ⟨k, s, c⟩)
  have h1 := h.step hbx
  have hB1 : B ≤ (w.alloc (pcC ⟨k, s, c⟩)).heap.size := Nat.le_trans hBw hbx.size
  have hbb := hbx.mono hBw
  have hX := Boxed.new w ⟨k, s, c⟩
  unfold pcV
  have cU := push_any B b op s _ h1 hlen hB1
  have cO := pop_any B b op _ h1
  unfold pcC at cU cO hX hbb hbx
  unfold followed
  simp only at cU cO hX hbx hbb HF ⊢
  have HB := Lib.hid hbb
  have HX := Lib.hid hbx.size
  have hbl : b < w.heap.size := by obtain ⟨_, v, hb, _⟩ := h; exact lt_of_block hb
  by_cases h2 : k = 2
  · subst h2
    clear cO
    by_cases h16 : op.length + 1 > 16
    · have hI : (16 : Int) < (op.length : Int) + 1 := by omega
      go_enter Tryz.func29, Tryz.ntmps29
      go_wp2_with (go_at_call 63; (with_reducible refine cU.mono ?_); rintro e w2 ⟨rfl, hs2, hb2, hz2⟩; obtain ⟨ao, cap, c0⟩ := hs2.cell; simp only [List.length_append, List.length_cons, List.length_nil, Nat.zero_add] at c0; have HS2 := Lib.hid hs2)
      go_ret
      exact ⟨⟨3, rfl, .inl ⟨by rw [HF.out]; simp <;> omega, by decide⟩⟩, HB.out.trans hb2, Nat.le_trans HX.out hz2⟩
    · have hI : ¬ (16 : Int) < (op.length : Int) + 1 := by omega
      go_enter Tryz.func29, Tryz.ntmps29
      go_wp2_with (go_at_call 63; (with_reducible refine cU.mono ?_); rintro e w2 ⟨rfl, hs2, hb2, hz2⟩; obtain ⟨ao, cap, c0⟩ := hs2.cell; simp only [List.length_append, List.length_cons, List.length_nil, Nat.zero_add] at c0; have HS2 := Lib.hid hs2)
      go_ret
      exact ⟨⟨0, rfl, .inr ⟨rfl, _, by rw [HF.out]; simp <;> omega, HS2.out⟩⟩, HB.out.trans hb2, Nat.le_trans HX.out hz2⟩
  · by_cases h3 : k = 3
    · subst h3
      clear cU
      obtain ⟨x0, x1, x2, x3⟩ := hX
      have hne : w.heap.size ≠ b := by omega
      rcases List.eq_nil_or_concat op with rfl | ⟨l, y, rfl⟩
      · simp only [List.getLast?_nil, Option.getD_none, List.length_nil, Nat.lt_irrefl, decide_false] at cO
        go_enter Tryz.func29, Tryz.ntmps29
        go_wp2_with (go_at_call 64; (with_reducible refine cO.mono ?_); rintro e w2 ⟨rfl, hs2, hb2, hz2, hk2⟩; have HS2 := Lib.hid hs2)
        go_ret
        exact ⟨⟨9, rfl, .inl ⟨by rw [HF.out]; simp, by decide⟩⟩, HB.out.trans hb2, Nat.le_trans HX.out hz2⟩
      · simp only [List.concat_eq_append, List.length_append, List.length_cons, List.length_nil, Nat.zero_add, List.getLast?_append, List.getLast?_singleton, Option.some_or, Option.getD_some, Nat.zero_lt_succ, decide_true, List.dropLast_concat] at *
        by_cases hq : y.toList = s.toList
        · have hy := Lib.hid (bytes_ext hq)
          go_enter Tryz.func29, Tryz.ntmps29
          go_wp2_with (go_at_call 64; (with_reducible refine cO.mono ?_); rintro e w2 ⟨rfl, hs2, hb2, hz2, hk2⟩; have HS2 := Lib.hid hs2; have y1 := (World.cell?_of_block (a := ⟨w.heap.size, 1, none⟩) (hk2 w.heap.size hne)).trans x1; have HB2 := Lib.hid hb2; have HZ2 := Lib.hid hz2; clear hk2)
          go_ret
          exact ⟨⟨0, rfl, .inr ⟨rfl, _, by rw [HF.out, hy.out]; simp, HS2.out⟩⟩, HB.out.trans HB2.out, Nat.le_trans HX.out HZ2.out⟩
        · have hy := Lib.hid (fun h : y = s => hq (by rw [h]))
          have hqb : (y.toList == s.toList) = false := by simp [hq]
          go_enter Tryz.func29, Tryz.ntmps29
          go_wp2_with (go_at_call 64; (with_reducible refine cO.mono ?_); rintro e w2 ⟨rfl, hs2, hb2, hz2, hk2⟩; have HS2 := Lib.hid hs2; have y1 := (World.cell?_of_block (a := ⟨w.heap.size, 1, none⟩) (hk2 w.heap.size hne)).trans x1; have HB2 := Lib.hid hb2; have HZ2 := Lib.hid hz2; clear hk2)
          go_ret
          exact ⟨⟨9, rfl, .inl ⟨by rw [HF.out]; simp; exact hy.out, by decide⟩⟩, HB.out.trans HB2.out, Nat.le_trans HX.out HZ2.out⟩
    · clear cU cO
      have H1 := Lib.hid h1
      go_enter Tryz.func29, Tryz.ntmps29
      go_wp2
      go_ret
      exact ⟨⟨0, rfl, .inr ⟨rfl, _, by rw [HF.out]; simp [h2, h3], H1.out⟩⟩, HB.out, HX.out⟩
end Go.Proofs.YtcgghmpafphcpaaGreatDoor
