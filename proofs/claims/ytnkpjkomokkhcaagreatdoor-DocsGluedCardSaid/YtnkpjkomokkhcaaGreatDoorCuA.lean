/- What a call keeps, told by the kind of block; an append that leaves full rows alone. Laws; no run of the program here. The joiner's contracts, with what they keep told by the kind of block. The stack's contracts, with what they keep told by the kind of block; follow, whatever it answers. -/
import Derived.Maps.AppendAt
import Derived.Test.YtnkpjkomokkhcaaGreatDoorHtA
import Derived.Test.YtnkpjkomokkhcaaGreatDoorGlD
namespace Go.Proofs.YtnkpjkomokkhcaaGreatDoor
open Go Go.RowKit Go.Lib
set_option maxRecDepth 100000
/-- blocks of a kind are as they were -/
structure Keeps (C : Obj → Prop) (w w' : World) : Prop where
  size : w.heap.size ≤ w'.heap.size
  same : ∀ (k : Nat) (o : Obj), w.heap[k]? = some o → C o → w'.heap[k]? = some o
theorem Keeps.refl (C : Obj → Prop) (w : World) : Keeps C w w := ⟨Nat.le_refl _, fun _ _ h _ => h⟩
theorem Keeps.trans {C : Obj → Prop} {x y z : World} (h : Keeps C x y) (k : Keeps C y z) : Keeps C x z := ⟨Nat.le_trans h.size k.size, fun i o h1 h2 => k.same i o (h.same i o h1 h2) h2⟩
theorem Keeps.mono {C D : Obj → Prop} {w w' : World} (h : Keeps C w w') (hd : ∀ q, D q → C q) : Keeps D w w' := ⟨h.size, fun _ _ h1 h2 => h.same _ _ h1 (hd _ h2)⟩
theorem Keeps.below {C : Obj → Prop} {w w' : World} (hb : Below w.heap.size w w') : Keeps C w w' := ⟨hb.size, fun k _ hk _ => (hb.block k (lt_of_block hk)).trans hk⟩
theorem Keeps.alloc {C : Obj → Prop} {a w : World} (h : Keeps C a w) (o : Obj) : Keeps C a (w.alloc o) := h.trans (Keeps.below (below_box o))
theorem Keeps.setCell {C : Obj → Prop} {a w : World} {b : Nat} {cs : Array Value} {t : TypeId} {fr : Nat × Nat} (h : Keeps C a w) (hb : w.heap[b]? = some (.cells cs t fr)) (hC : ¬ C (.cells cs t fr)) (j : Nat) (u : Value) : Keeps C a (w.setCell ⟨b, j, none⟩ u) :=
  h.trans ⟨by simp [World.setCell], fun k o hk hc => (Below.heap_setCell _ _ _ _ (by rintro rfl; rw [hk] at hb; cases hb; exact hC hc)).trans hk⟩
/-- where the row that may have been changed is of another kind -/
theorem Keeps.grown {C : Obj → Prop} {w w' : World} {B sz n : Nat} {e : TypeId} {v : Value} {xs : List Value} (hown : w.ownsRow B e sz v n xs) (hg : w.grownBy w' v.ownBlock) (hC : ∀ cs, ¬ C (.cells cs e (0, 0))) : Keeps C w w' := by
  refine ⟨hg.size, fun k o hk hc => (hg.block k (lt_of_block hk) ?_).trans hk⟩
  intro e'
  rcases hown.2 with ⟨rfl, _⟩ | ⟨g, cap, cur, rfl, _, hgg, _⟩
  · simp [Value.ownBlock] at e'
  · simp only [Value.ownBlock, Option.some.injEq] at e'
    subst e'
    rw [hk] at hgg
    cases hgg
    exact hC _ hc
theorem Keeps.row {C : Obj → Prop} {w w' : World} {B sz n : Nat} {e : TypeId} {v : Value} {xs : List Value} (h : w.ownsRow B e sz v n xs) (hk : Keeps C w w') (hC : ∀ cs, C (.cells cs e (0, 0))) : w'.ownsRow B e sz v n xs := by
  refine ⟨h.1, ?_⟩
  rcases h.2 with hn | ⟨g, cap, cur, hv, hbg, hg, rest⟩
  · exact .inl hn
  · exact .inr ⟨g, cap, cur, hv, hbg, hk.same g _ hg (hC _), rest⟩
/-- the append of a row of the call's own leaves each block that is no row with room as it was -/
def Full (e : TypeId) (k size : Nat) (w w' : World) : Prop := ∀ (g : Nat) (o : Obj), w.heap[g]? = some o → (∀ cs t fr, o = .cells cs t fr → t = e → cs.size < k * size) → w'.heap[g]? = some o
section
variable {P : Program} (w : World)
theorem run_append_full (t ty : TypeId) (base : Nat) (e : TypeId) (i : TypeInfo) (z : Value) (size bytes : Nat) (ht : P.underlying t = some (.slice e)) (hi : P.info? e = some i) (hz : i.zero = some z)
    (hsize : i.size = size) (hby : i.bytes = bytes) (hzs : z.cells.size = size) (hsz : 0 < size)
    (v : Value) (n : Nat) (xs : List Value) (hown : w.ownsRow base e size v n xs)
    (ad : Addr) (m c : Nat) (news : List Value) (hl : news.length = m * size) (hnews : ∀ j u, news[j]? = some u → w.cell? (ad.add j) = some u) (h1 : ∀ u ∈ news, u.oneCell' = true)
    (hm : 0 < m) (h63 : n + m ≤ maxLen) (hbytes : (n + m) * bytes ≤ 140737488355328) (hbase : base ≤ w.heap.size) (H : Nat) (hH : w.heap.size = H) :
    ∃ g cap w', (Builtin.append_ #[t, t] ty #[v, .slice (some ad) m c]).run P w = .ok (.slice (some ⟨g, 0, none⟩) (n + m) cap) w' ∧
      w'.ownsRow base e size (.slice (some ⟨g, 0, none⟩) (n + m) cap) (n + m) (xs ++ news) ∧ w.grownBy w' v.ownBlock ∧ (v.ownBlock = some g ∨ g = H) ∧ g < w'.heap.size ∧ Full e (n + m) size w w' := by
  obtain ⟨g, cap, w', hr, h2, h3, h4, h5⟩ := run_append_lies (P := P) (w := w) t ty base e i z size bytes ht hi hz hsize hby hzs hsz v n xs hown ad m c news hl hnews h1 hm h63 hbytes hbase H hH
  refine ⟨g, cap, w', hr, h2, h3, h4, h5, fun k o hk hc => ?_⟩
  by_cases hv : v.ownBlock = some k
  · rcases hown.2 with ⟨rfl, _⟩ | ⟨g0, cap0, cur, rfl, hbg, hg, hnc, hcm, hcs, htake⟩
    · simp [Value.ownBlock] at hv
    · simp only [Value.ownBlock, Option.some.injEq] at hv
      subst hv
      rw [hg] at hk
      cases hk
      have hlt := hc cur e (0, 0) rfl rfl
      have hroom : cap0 < n + m := by rw [hcs] at hlt; exact Nat.lt_of_mul_lt_mul_right hlt
      have hr2 := run_append_grow (P := P) w t ty e i z ht hi hz ⟨g0, 0, none⟩ n cap0 xs (by rw [hsize]; exact hown.1) (hown.cells (g := g0) rfl) ad m c news (by rw [hsize]; exact hl) hnews hroom (by simp only [maxLen] at h63; omega) (growslice_fits (by omega) (by rw [hby]; exact hbytes))
      rw [hr2] at hr
      injection hr with _ hr
      rw [← hr]
      exact (Below.heap_alloc w.drew _ g0 (lt_of_block (w := w) hg)).trans hg
  · exact (h3.block k (lt_of_block hk) (fun e => hv e.symm)).trans hk
theorem wp_append_full {o : Oper} {a : Act} {K : Act → World → Prop} {Q : Exit → Act → World → Prop} (s x : Operand) (t : TypeId)
    (ho : o.op = .call { callee := .builtin .append, args := #[s, x], argTypes := #[t, t] })
    (base : Nat) (e : TypeId) (i : TypeInfo) (z : Value) (size bytes : Nat) (ht : P.underlying t = some (.slice e)) (hi : P.info? e = some i) (hz : i.zero = some z)
    (hsize : i.size = size) (hby : i.bytes = bytes) (hzs : z.cells.size = size) (hsz : 0 < size)
    (v : Value) (n : Nat) (xs : List Value) (hs : a.eval s = v) (hown : w.ownsRow base e size v n xs)
    (ad : Addr) (m c : Nat) (news : List Value) (hx : a.eval x = .slice (some ad) m c) (hl : news.length = m * size) (hnews : ∀ j u, news[j]? = some u → w.cell? (ad.add j) = some u) (h1 : ∀ u ∈ news, u.oneCell' = true)
    (hm : 0 < m) (h63 : n + m ≤ maxLen) (hbytes : (n + m) * bytes ≤ 140737488355328) (hbase : base ≤ w.heap.size) (H : Nat) (hH : w.heap.size = H)
    (h : ∀ g cap w', w'.ownsRow base e size (.slice (some ⟨g, 0, none⟩) (n + m) cap) (n + m) (xs ++ news) → w.grownBy w' v.ownBlock → (v.ownBlock = some g ∨ g = H) → g < w'.heap.size → Full e (n + m) size w w' → K (a.put o.dst (.slice (some ⟨g, 0, none⟩) (n + m) cap)) w') : o.wp P a w K Q := by
  obtain ⟨g, cap, w', hr, h2, h3, h4, h5, h6⟩ := run_append_full (P := P) (w := w) t o.type base e i z size bytes ht hi hz hsize hby hzs hsz v n xs hown ad m c news hl hnews h1 hm h63 hbytes hbase H hH
  unfold Oper.wp execOp
  simp only [ho, resolve, invoke, builtin, Sem.run_bind, Sem.run_pure, Result.andThen_ok, List.map_toArray, List.map_cons, List.map_nil, hs, hx, hr]
  exact h g cap w' h2 h3 h4 h5 h6
theorem step_append_full {ops : Array Oper} {o : Oper} {a : Act} {K : Act → World → Prop} {Q : Exit → Act → World → Prop} {E : Prop} (hgd : o.guard = none) (s x : Operand) (t : TypeId)
    (ho : o.op = .call { callee := .builtin .append, args := #[s, x], argTypes := #[t, t] })
    (base : Nat) (e : TypeId) (i : TypeInfo) (z : Value) (size bytes : Nat) (ht : P.underlying t = some (.slice e)) (hi : P.info? e = some i) (hz : i.zero = some z)
    (hsize : i.size = size) (hby : i.bytes = bytes) (hzs : z.cells.size = size) (hsz : 0 < size)
    (v : Value) (n : Nat) (xs : List Value) (hs : a.eval s = v) (hown : w.ownsRow base e size v n xs)
    (ad : Addr) (m c : Nat) (news : List Value) (hx : a.eval x = .slice (some ad) m c) (hl : news.length = m * size) (hnews : ∀ j u, news[j]? = some u → w.cell? (ad.add j) = some u) (h1 : ∀ u ∈ news, u.oneCell' = true)
    (hm : 0 < m) (h63 : n + m ≤ maxLen) (hbytes : (n + m) * bytes ≤ 140737488355328) (hbase : base ≤ w.heap.size) (H : Nat) (hH : w.heap.size = H)
    (h : ∀ g cap w', w'.ownsRow base e size (.slice (some ⟨g, 0, none⟩) (n + m) cap) (n + m) (xs ++ news) → w.grownBy w' v.ownBlock → (v.ownBlock = some g ∨ g = H) → g < w'.heap.size → Full e (n + m) size w w' → K (a.put o.dst (.slice (some ⟨g, 0, none⟩) (n + m) cap)) w') :
    if Region.wanted o (yielded ops a.tmps) = true then Oper.wp P o a w K Q else E := by
  have hw : Region.wanted o (yielded ops a.tmps) = true := by simp [Region.wanted, hgd]
  rw [if_pos hw]
  exact wp_append_full w s x t ho base e i z size bytes ht hi hz hsize hby hzs hsz v n xs hs hown ad m c news hx hl hnews h1 hm h63 hbytes hbase H hH h
end
/-- what the joiner's own rows are not: neither bytes, nor a joiner, nor a row of several pieces -/
def calmJ : Obj → Prop
  | .cells cs t _ => t ≠ 66 ∧ t ≠ 5 ∧ (t = 52 → cs.size ≤ 3)
  | _ => True
/-- what a stack of names is not -/
def calmS : Obj → Prop
  | .cells _ t _ => t ≠ 67 ∧ t ≠ 9
  | _ => True
theorem keepsJ_full {w w' : World} {n : Nat} (h : Full 52 (n + 1) 3 w w') (hn : 0 < n) (hs : w.heap.size ≤ w'.heap.size) : Keeps calmJ w w' :=
  ⟨hs, fun k o hk hc => h k o hk fun cs t fr e e' => by subst e; have := hc.2.2 e'; omega⟩
theorem keepsJ_nil {w w' : World} {v : Value} (hg : w.grownBy w' v.ownBlock) (hv : v = .slice none 0 0) : Keeps calmJ w w' := by
  subst hv
  exact ⟨hg.size, fun k o hk _ => (hg.block k (lt_of_block hk) (by simp [Value.ownBlock])).trans hk⟩
end Go.Proofs.YtnkpjkomokkhcaaGreatDoor
namespace Go.Proofs.YtnkpjkomokkhcaaGreatDoor
open Go Go.RowKit Go.Lib
set_option maxRecDepth 100000
/-- a joiner in a block of its own, whose list is nil where it is empty -/
def JoinC (B b : Nat) (o : List Pc) (t : List UInt8) (w : World) : Prop := 0 ≤ b ∧ ∃ vo vt, w.heap[b]? = some (.cells #[vo, vt] 66 (0, 0)) ∧ OwnP B vo o w ∧ OwnB B vt t w ∧ (o = [] → vo = .slice none 0 0)
theorem JoinC.at {B b : Nat} {o : List Pc} {t : List UInt8} {w : World} (h : JoinC B b o t w) : JoinAt B b o t w := by
  obtain ⟨h0, vo, vt, h1, h2, h3, _⟩ := h
  exact ⟨h0, vo, vt, h1, h2, h3⟩
theorem JoinC.step {B b : Nat} {o : List Pc} {t : List UInt8} {w w' : World} (hb : Below w.heap.size w w') (h : JoinC B b o t w) : JoinC B b o t w' := by
  obtain ⟨h0, vo, vt, h1, h2, h3, h4⟩ := h
  exact ⟨h0, vo, vt, by rw [hb.block b (lt_of_block h1)]; exact h1, h2.step hb, h3.step hb, h4⟩
theorem JoinC.lt {B b : Nat} {o : List Pc} {t : List UInt8} {w : World} (h : JoinC B b o t w) : b < w.heap.size := h.at.lt
theorem JoinC.put {B b : Nat} {o : List Pc} {t : List UInt8} {w w' : World} {vo vt : Value} (hB : 0 ≤ b) (hw : w'.heap[b]? = some (.cells #[vo, vt] 66 (0, 0))) (hg : w.grownBy w' (some b)) (hb : ∃ cs, w.heap[b]? = some (.cells cs 66 (0, 0)))
    (ho : OwnP B vo o w) (ht : OwnB B vt t w) (hn : o = [] → vo = .slice none 0 0) : JoinC B b o t w' := by
  obtain ⟨cs, hb⟩ := hb
  exact ⟨hB, vo, vt, hw, ho.kept hg (.inr (own_other ho hb (by decide))), ht.kept hg (.inr (own_other ht hb (by decide))), hn⟩
theorem JoinC.putO {B b : Nat} {o : List Pc} {t : List UInt8} {w : World} {vo vo' vt : Value} (hB : 0 ≤ b) (hb : w.heap[b]? = some (.cells #[vo, vt] 66 (0, 0))) (ho : OwnP B vo' o w) (ht : OwnB B vt t w) (hn : o = [] → vo' = .slice none 0 0) : JoinC B b o t (w.setCell ⟨b, 0, none⟩ vo') :=
  JoinC.put hB (by simp [World.setCell, Array.getElem?_modify, hb]) (grown_setCell _ _ _ _) ⟨_, hb⟩ ho ht hn
theorem JoinC.putT {B b : Nat} {o : List Pc} {t : List UInt8} {w : World} {vo vt vt' : Value} (hB : 0 ≤ b) (hb : w.heap[b]? = some (.cells #[vo, vt] 66 (0, 0))) (ho : OwnP B vo o w) (ht : OwnB B vt' t w) (hn : o = [] → vo = .slice none 0 0) : JoinC B b o t (w.setCell ⟨b, 1, none⟩ vt') :=
  JoinC.put hB (by simp [World.setCell, Array.getElem?_modify, hb]) (grown_setCell _ _ _ _) ⟨_, hb⟩ ho ht hn
theorem not_calmJ_box (cs : Array Value) (fr : Nat × Nat) : ¬ calmJ (.cells cs 66 fr) := fun h => h.1 rfl
theorem not_calmJ_byte (cs : Array Value) : ¬ calmJ (.cells cs 5 (0, 0)) := fun h => h.2.1 rfl
theorem app_ne (o : List Pc) (x : Pc) {P : Prop} : o ++ [x] = [] → P := fun h => by simp at h
set_option maxHeartbeats 2000000 in
theorem putTextC_any (B b : Nat) (o : List Pc) (t : List UInt8) (s : ByteArray) (w : World) (h : JoinC B b o t w) (hlen : t.length + s.size ≤ 100000000) (hBw : B ≤ w.heap.size) :
    Calls Tryz.prog 75 #[.pointer (some ⟨b, 0, none⟩), .string s] w fun e w' => e = .returned (.tuple #[]) ∧ JoinC B b o (t ++ s.data.toList) w' ∧ KeptBut B b w w' ∧ Keeps calmJ w w' := by
  obtain ⟨i0, hi, hz0, hz1, hz2⟩ := info_parts info_byte
  obtain ⟨hB, vo, vt, hbk, ho, ht, hnil⟩ := h
  have c1 : w.cell? ⟨b, 1, none⟩ = some vt := by rw [Lib.cell_of_heap hbk]; rfl
  have hown := ht
  unfold OwnB at hown
  have HO := Lib.hid ho
  have HT := Lib.hid ht
  have HBK := Lib.hid hbk
  clear ho ht
  go_enter Tryz.func75, Tryz.ntmps75
  go_wp2_with (at_builtin; refine Lib.wpList_append_own_string _ rfl _ _ 64 9 rfl B 5 i0 Tryz.underlying64 Tryz.underlying9 hi hz0 hz1 hz2 _ _ _ rfl hown s rfl ?c3 ?c4 ?c5 ?_)
  case c3 => unfold maxLen; omega
  case c4 => omega
  case c5 => omega
  intro v' w2 hown' hgrow _
  have hb2 : w2.heap[b]? = some (.cells #[vo, vt] 66 (0, 0)) := by
    rw [hgrow.block b (lt_of_block HBK.out) (fun e => own_other HT.out HBK.out (by decide) e.symm)]
    exact HBK.out
  have d1 : w2.cell? ⟨b, 1, none⟩ = some vt := by rw [Lib.cell_of_heap hb2]; rfl
  have f1 : w2.frozen? ⟨b, 1, none⟩ = false := Lib.frozen_of_heap hb2 1
  have ho2 : OwnP B vo o w2 := HO.out.kept hgrow (own_apart HO.out HT.out (by decide))
  have hT2 := OwnB.more (m := s.data.toList) hown'
  have HW := Lib.hid (JoinC.putT hB hb2 ho2 hT2 hnil)
  obtain ⟨ao, cap, rfl⟩ := hT2.form
  have HB := Lib.hid (((KeptBut.refl B b w).grown hgrow hBw (fun k hk => (hown.lt k hk).1)).setCell 1 (.slice ao (t ++ s.data.toList).length cap))
  have HK := Lib.hid ((Keeps.grown (C := calmJ) hown hgrow not_calmJ_byte).setCell hb2 (not_calmJ_box _ _) 1 (.slice ao (t ++ s.data.toList).length cap))
  rw [show (t ++ s.data.toList).length = t.length + s.size by simp] at HW HB HK
  clear hown hown' hgrow ho2 hT2
  go_wp2
  go_end0
  exact ⟨rfl, HW.out, HB.out, HK.out⟩
set_option maxHeartbeats 4000000 in
theorem endTextC_any (B b : Nat) (o : List Pc) (t : List UInt8) (w : World) (h : JoinC B b o t w) (hlen : t.length ≤ 100000000) (holen : o.length ≤ 1000000) (hBw : B ≤ w.heap.size) :
    Calls Tryz.prog 76 #[.pointer (some ⟨b, 0, none⟩)] w fun e w' => e = .returned (.tuple #[]) ∧ JoinC B b (o ++ flush t) [] w' ∧ KeptBut B b w w' ∧ Others b w w' ∧ Keeps calmJ w w' := by
  obtain ⟨i0, hi, hz0, hz1, hz2⟩ := info_parts info_pc
  have h0 := Lib.hid h
  obtain ⟨hB, vo, vt, hbk, ho, ht, hnil⟩ := h
  have c0 : w.cell? ⟨b, 0, none⟩ = some vo := by rw [Lib.cell_of_heap hbk]; rfl
  have c1 : w.cell? ⟨b, 1, none⟩ = some vt := by rw [Lib.cell_of_heap hbk]; rfl
  have hlt := lt_of_block hbk
  by_cases hne : t = []
  · subst hne
    obtain ⟨ao, cap, rfl⟩ := ht.form
    clear ho ht hbk
    go_enter Tryz.func76, Tryz.ntmps76
    go_wp2
    go_end0
    exact ⟨rfl, by have := h0.out; simpa [flush] using this, KeptBut.refl _ _ _, Others.refl _ _, Keeps.refl _ _⟩
  · have hl := List.length_pos_iff.2 hne
    rcases ht.2 with ⟨_, hn0⟩ | ⟨g, cap, cur, rfl, _, _, hncap, hcapm, _, _⟩
    · omega
    have hcv := convert_own ht
    have hcv1 := convert_own (w := w.drew) ht
    have hI : (0 : Int) < (t.length : Int) := by omega
    have hF : flush t = [⟨1, bytes t, false⟩] := by unfold flush; rw [if_neg hne]
    have HF := Lib.hid hF
    clear hF
    have HO := Lib.hid ho
    have HT := Lib.hid ht
    have HBK := Lib.hid hbk
    have hown := ho
    unfold OwnP at hown
    clear ho ht hbk hne
    unfold maxLen at hcapm
    have q0 := Lib.hid (show 0 < 3 by decide)
    have q1 := Lib.hid (show o.length + 1 ≤ maxLen by unfold maxLen; omega)
    have q2 := Lib.hid (show (o.length + 1) * 32 ≤ 140737488355328 by omega)
    have q3 := Lib.hid (show B ≤ (w.alloc (.cells #[.int .u8 1, .string (bytes t), .bool false] 52)).heap.size by simp; omega)
    have q4 := Lib.hid (World.news_of_block (w := w.alloc (.cells #[.int .u8 1, .string (bytes t), .bool false] 52)) (B := w.heap.size) (cs := #[.int .u8 1, .string (bytes t), .bool false]) (t := 52) (fr := (0, 0)) (by show (w.heap.push _)[_]? = _; simp))
    have q5 := Lib.hid (hown.alloc (.cells #[.int .u8 1, .string (bytes t), .bool false] 52))
    have q6 := Lib.hid (show ∀ u ∈ ([.int .u8 1, .string (bytes t), .bool false] : List Value), u.oneCell' = true by intro u hu; simp at hu; rcases hu with rfl | rfl | rfl <;> rfl)
    have q7 := Lib.hid (show 0 < 1 by decide)
    clear hown
    go_enter Tryz.func76, Tryz.ntmps76
    go_wp2
    have mid : Hid (∀ g2 cap2 w2, World.ownsRow w2 B 52 3 (.slice (some ⟨g2, 0, none⟩) (o.length + 1) cap2) (o.length + 1) (cells3 o ++ [.int .u8 1, .string (bytes t), .bool false]) → World.grownBy (w.alloc (.cells #[.int .u8 1, .string (bytes t), .bool false] 52)).drew w2 vo.ownBlock → Full 52 (o.length + 1) 3 (w.alloc (.cells #[.int .u8 1, .string (bytes t), .bool false] 52)).drew w2 →
        w2.cell? ⟨b, 0, none⟩ = some vo ∧ w2.cell? ⟨b, 1, none⟩ = some (.slice (some ⟨g, 0, none⟩) t.length cap) ∧ w2.frozen? ⟨b, 0, none⟩ = false ∧ w2.frozen? ⟨b, 1, none⟩ = false ∧
        Hid (JoinC B b (o ++ [⟨1, bytes t, false⟩]) [] ((w2.setCell ⟨b, 0, none⟩ (.slice (some ⟨g2, 0, none⟩) (o.length + 1) cap2)).setCell ⟨b, 1, none⟩ (.slice (some ⟨g, 0, none⟩) 0 cap))) ∧ Hid (KeptBut B b w ((w2.setCell ⟨b, 0, none⟩ (.slice (some ⟨g2, 0, none⟩) (o.length + 1) cap2)).setCell ⟨b, 1, none⟩ (.slice (some ⟨g, 0, none⟩) 0 cap))) ∧ Hid (Others b w ((w2.setCell ⟨b, 0, none⟩ (.slice (some ⟨g2, 0, none⟩) (o.length + 1) cap2)).setCell ⟨b, 1, none⟩ (.slice (some ⟨g, 0, none⟩) 0 cap))) ∧ Hid (Keeps calmJ w ((w2.setCell ⟨b, 0, none⟩ (.slice (some ⟨g2, 0, none⟩) (o.length + 1) cap2)).setCell ⟨b, 1, none⟩ (.slice (some ⟨g, 0, none⟩) 0 cap)))) := by
      intro g2 cap2 w2 hown2 hgrow2 hfull2
      have hb2 : w2.heap[b]? = some (.cells #[vo, .slice (some ⟨g, 0, none⟩) t.length cap] 66 (0, 0)) := by
        rw [hgrow2.block b (by show b < (w.alloc _).heap.size; simp; omega) (fun e => own_other HO.out HBK.out (by decide) e.symm)]
        show (w.alloc _).heap[b]? = _
        rw [Below.heap_alloc _ _ _ hlt]
        exact HBK.out
      have d0 : w2.cell? ⟨b, 0, none⟩ = some vo := by rw [Lib.cell_of_heap hb2]; rfl
      have d1 : w2.cell? ⟨b, 1, none⟩ = some (.slice (some ⟨g, 0, none⟩) t.length cap) := by rw [Lib.cell_of_heap hb2]; rfl
      have f0 : w2.frozen? ⟨b, 0, none⟩ = false := Lib.frozen_of_heap hb2 0
      have f1 : w2.frozen? ⟨b, 1, none⟩ = false := Lib.frozen_of_heap hb2 1
      have ht2 : OwnB B (.slice (some ⟨g, 0, none⟩) t.length cap) t w2 := World.ownsRow.kept (w := w.alloc (.cells #[.int .u8 1, .string (bytes t), .bool false] 52)) (HT.out.alloc _) ⟨hgrow2.os, hgrow2.tape, hgrow2.output, hgrow2.size, hgrow2.block⟩ (own_apart HT.out HO.out (by decide))
      have HJ := Lib.hid (JoinC.putO (o := o ++ [⟨1, bytes t, false⟩]) hB hb2 (OwnP.more (x := ⟨1, bytes t, false⟩) hown2) ht2 (app_ne _ _))
      have HBEL := Lib.hid ((((KeptBut.refl B b w).alloc hBw (.cells #[.int .u8 1, .string (bytes t), .bool false] 52)).grown (w := w.alloc (.cells #[.int .u8 1, .string (bytes t), .bool false] 52)) (w' := w2) (row := vo.ownBlock) ⟨hgrow2.os, hgrow2.tape, hgrow2.output, hgrow2.size, hgrow2.block⟩ q3.out (fun k hk => (q5.out.lt k hk).1)))
      have HKJ := Lib.hid (show Keeps calmJ w ((w2.setCell ⟨b, 0, none⟩ (.slice (some ⟨g2, 0, none⟩) (o.length + 1) cap2)).setCell ⟨b, 1, none⟩ (.slice (some ⟨g, 0, none⟩) 0 cap)) from by
        have k1 : Keeps calmJ (w.alloc (.cells #[.int .u8 1, .string (bytes t), .bool false] 52)).drew w2 := by
          by_cases ho0 : o = []
          · exact keepsJ_nil (v := vo) hgrow2 (hnil ho0)
          · exact keepsJ_full hfull2 (List.length_pos_iff.2 ho0) hgrow2.size
        have k2 : Keeps calmJ w (w.alloc (.cells #[.int .u8 1, .string (bytes t), .bool false] 52)).drew := ⟨(Keeps.below (C := calmJ) (below_box (w := w) (.cells #[.int .u8 1, .string (bytes t), .bool false] 52))).size, (Keeps.below (C := calmJ) (below_box (w := w) (.cells #[.int .u8 1, .string (bytes t), .bool false] 52))).same⟩
        exact ((k2.trans k1).setCell hb2 (not_calmJ_box _ _) 0 _).setCell (cells_setCell hb2 0 _) (not_calmJ_box _ _) 1 _)
      refine ⟨d0, d1, f0, f1, ?_, (HBEL.out.setCell 0 _).setCell 1 _, ?_, HKJ.out⟩
      rotate_left
      · refine ⟨?_, fun vo' hvo' k hk hkb hkv => ?_⟩
        · have := hgrow2.size
          have h0 : (w.alloc (.cells #[.int .u8 1, .string (bytes t), .bool false] 52)).drew.heap.size = w.heap.size + 1 := by show (w.alloc _).heap.size = _; simp
          rw [h0] at this
          simp [World.setCell]; omega
        · have hv : vo' = vo := by rw [c0] at hvo'; exact (Option.some.inj hvo').symm
          subst hv
          rw [Below.heap_setCell _ _ _ _ (by exact hkb), Below.heap_setCell _ _ _ _ (by exact hkb), hgrow2.block k (by show k < (w.alloc _).heap.size; simp; omega) (fun e => hkv e.symm)]
          show (w.alloc _).heap[k]? = _
          rw [Below.heap_alloc _ _ _ hk]
      obtain ⟨_, vo', vt', k1, k2, k3, _⟩ := HJ.out
      have e1 : (w2.setCell ⟨b, 0, none⟩ (.slice (some ⟨g2, 0, none⟩) (o.length + 1) cap2)).heap[b]? = some (.cells #[.slice (some ⟨g2, 0, none⟩) (o.length + 1) cap2, .slice (some ⟨g, 0, none⟩) t.length cap] 66 (0, 0)) := by simp [World.setCell, Array.getElem?_modify, hb2]
      rw [e1] at k1
      injection k1 with k1
      injection k1 with k1 _ _
      have k4 : vo' = .slice (some ⟨g2, 0, none⟩) (o.length + 1) cap2 ∧ vt' = .slice (some ⟨g, 0, none⟩) t.length cap := by simpa using k1.symm
      obtain ⟨rfl, rfl⟩ := k4
      exact JoinC.putT hB e1 k2 (own_cut k3) (app_ne _ _)
    go_region_law (refine step_append_full _ rfl (.tmp 12) (.tmp 19) 22 rfl B 52 i0 (.agg #[.int .u8 0, .string ⟨#[]⟩, .bool false]) 3 32 Tryz.underlying22 hi hz0 hz1 hz2 rfl q0.out vo o.length (cells3 o) (by simp [Act.eval]) q5.out ⟨w.heap.size, 0, none⟩ 1 1 [.int .u8 1, .string (bytes t), .bool false] (by simp [Act.eval]) rfl q4.out q6.out q7.out q1.out q2.out q3.out _ rfl ?_; intro g2 cap2 w2 hown2 hgrow2 hat2 hlt2 hfull2; obtain ⟨d0, d1, f0, f1, HJ, HBEL, HOT, HKJ⟩ := mid.out g2 cap2 w2 hown2 hgrow2 hfull2; clear hown2 hgrow2 hat2 hlt2 hfull2)
    all_goals
      go_wp2
      go_end0
      exact ⟨rfl, by rw [HF.out]; exact HJ.out, HBEL.out, HOT.out, HKJ.out⟩
/-- one more piece put behind those of a joiner without a text -/
theorem joinC_push (B b : Nat) (o : List Pc) (x : Pc) (w : World) (h : JoinC B b o [] w) (hBw : B ≤ w.heap.size) :
    Hid (B ≤ (w.alloc (.cells #[.int .u8 x.k, .string x.s, .bool x.c] 52)).heap.size) ∧
    Hid (∀ j u, (#[.int .u8 x.k, .string x.s, .bool x.c] : Array Value).toList[j]? = some u → (w.alloc (.cells #[.int .u8 x.k, .string x.s, .bool x.c] 52)).cell? ((⟨w.heap.size, 0, none⟩ : Addr).add j) = some u) ∧
    ∃ vo, Hid ((w.alloc (.cells #[.int .u8 x.k, .string x.s, .bool x.c] 52)).ownsRow B 52 3 vo o.length (cells3 o)) ∧ w.cell? ⟨b, 0, none⟩ = some vo ∧
      Hid (∀ g2 cap2 w2, World.ownsRow w2 B 52 3 (.slice (some ⟨g2, 0, none⟩) (o.length + 1) cap2) (o.length + 1) (cells3 o ++ [.int .u8 x.k, .string x.s, .bool x.c]) → World.grownBy (w.alloc (.cells #[.int .u8 x.k, .string x.s, .bool x.c] 52)).drew w2 vo.ownBlock → Full 52 (o.length + 1) 3 (w.alloc (.cells #[.int .u8 x.k, .string x.s, .bool x.c] 52)).drew w2 →
        w2.cell? ⟨b, 0, none⟩ = some vo ∧ w2.frozen? ⟨b, 0, none⟩ = false ∧ Hid (JoinC B b (o ++ [x]) [] (w2.setCell ⟨b, 0, none⟩ (.slice (some ⟨g2, 0, none⟩) (o.length + 1) cap2))) ∧ Hid (KeptBut B b w (w2.setCell ⟨b, 0, none⟩ (.slice (some ⟨g2, 0, none⟩) (o.length + 1) cap2))) ∧ Hid (Keeps calmJ w (w2.setCell ⟨b, 0, none⟩ (.slice (some ⟨g2, 0, none⟩) (o.length + 1) cap2)))) := by
  obtain ⟨hB, vo, vt, hbk, ho, ht, hnil⟩ := h
  have hlt := lt_of_block hbk
  have q3 : B ≤ (w.alloc (.cells #[.int .u8 x.k, .string x.s, .bool x.c] 52)).heap.size := by simp; omega
  have q5 := World.ownsRow.alloc ho (.cells #[.int .u8 x.k, .string x.s, .bool x.c] 52)
  refine ⟨q3, World.news_of_block (w := w.alloc (.cells #[.int .u8 x.k, .string x.s, .bool x.c] 52)) (B := w.heap.size) (cs := #[.int .u8 x.k, .string x.s, .bool x.c]) (t := 52) (fr := (0, 0)) (by show (w.heap.push _)[_]? = _; simp), vo, q5, by rw [Lib.cell_of_heap hbk]; rfl, ?_⟩
  intro g2 cap2 w2 hown2 hgrow2 hfull2
  have hb2 : w2.heap[b]? = some (.cells #[vo, vt] 66 (0, 0)) := by
    rw [hgrow2.block b (by show b < (w.alloc _).heap.size; simp; omega) (fun e => own_other ho hbk (by decide) e.symm)]
    show (w.alloc _).heap[b]? = _
    rw [Below.heap_alloc _ _ _ hlt]
    exact hbk
  have ht2 : OwnB B vt [] w2 := World.ownsRow.kept (w := w.alloc (.cells #[.int .u8 x.k, .string x.s, .bool x.c] 52)) (World.ownsRow.alloc ht _) ⟨hgrow2.os, hgrow2.tape, hgrow2.output, hgrow2.size, hgrow2.block⟩ (own_apart ht ho (by decide))
  refine ⟨by rw [Lib.cell_of_heap hb2]; rfl, Lib.frozen_of_heap hb2 0, JoinC.putO (o := o ++ [x]) hB hb2 (OwnP.more hown2) ht2 (app_ne _ _),
    (((KeptBut.refl B b w).alloc hBw (.cells #[.int .u8 x.k, .string x.s, .bool x.c] 52)).grown (w := w.alloc (.cells #[.int .u8 x.k, .string x.s, .bool x.c] 52)) (w' := w2) (row := vo.ownBlock) ⟨hgrow2.os, hgrow2.tape, hgrow2.output, hgrow2.size, hgrow2.block⟩ q3 (fun k hk => (q5.lt k hk).1)).setCell 0 _, ?_⟩
  have k1 : Keeps calmJ (w.alloc (.cells #[.int .u8 x.k, .string x.s, .bool x.c] 52)).drew w2 := by
    by_cases ho0 : o = []
    · exact keepsJ_nil (v := vo) hgrow2 (hnil ho0)
    · exact keepsJ_full hfull2 (List.length_pos_iff.2 ho0) hgrow2.size
  have k2 : Keeps calmJ w (w.alloc (.cells #[.int .u8 x.k, .string x.s, .bool x.c] 52)).drew := ⟨(Keeps.below (C := calmJ) (below_box (w := w) (.cells #[.int .u8 x.k, .string x.s, .bool x.c] 52))).size, (Keeps.below (C := calmJ) (below_box (w := w) (.cells #[.int .u8 x.k, .string x.s, .bool x.c] 52))).same⟩
  exact (k2.trans k1).setCell hb2 (not_calmJ_box _ _) 0 _
set_option maxHeartbeats 4000000 in
theorem putC_any (B b : Nat) (o : List Pc) (t : List UInt8) (x : Pc) (w : World) (h : JoinC B b o t w) (hk : x.k ≠ 1) (hlen : t.length ≤ 100000000) (holen : o.length ≤ 1000000) (hBw : B ≤ w.heap.size) :
    Calls Tryz.prog 37 #[.pointer (some ⟨b, 0, none⟩), pcV x] w fun e w' => e = .returned (.tuple #[]) ∧ JoinC B b (o ++ flush t ++ [x]) [] w' ∧ KeptBut B b w w' ∧ Keeps calmJ w w' := by
  obtain ⟨i0, hi, hz0, hz1, hz2⟩ := info_parts info_pc
  have ag := Tryz.isAgg52
  have zg := Tryz.sizeOf52
  have hbx := below_box (w := w) (pcC x)
  have hblt := h.lt
  have hj := h.step hbx
  have hB1 : B ≤ (w.alloc (pcC x)).heap.size := Nat.le_trans hBw hbx.size
  have cE := endTextC_any B b o t _ hj hlen holen hB1
  have hX := Boxed.new w x
  have hfl : (o ++ flush t).length ≤ 1000001 := by unfold flush; split <;> simp <;> omega
  obtain ⟨hB, vo, vt, hbk, ho, ht, _⟩ := h
  have hvo := ho.lt
  have hkb : (x.k == 1) = false := beq_eq_false_iff_ne.2 hk
  have keep : Hid (∀ w2, Others b (w.alloc (pcC x)) w2 → Boxed w.heap.size x w2) := by
    intro w2 h2
    have e : w2.heap[w.heap.size]? = (w.alloc (pcC x)).heap[w.heap.size]? := h2.2 vo (by rw [Lib.cell_of_heap (show (w.alloc (pcC x)).heap[b]? = some (.cells #[vo, vt] 66 (0, 0)) by rw [Below.heap_alloc _ _ _ hblt]; exact hbk)]; rfl) _ (by simp) (by omega) (fun e => by have := (hvo _ e).2; omega)
    obtain ⟨x0, x1, x2, x3⟩ := hX
    exact ⟨(World.cell?_of_block (a := ⟨w.heap.size, 0, none⟩) e).trans x0, (World.cell?_of_block (a := ⟨w.heap.size, 1, none⟩) e).trans x1, (World.cell?_of_block (a := ⟨w.heap.size, 2, none⟩) e).trans x2, Nat.lt_of_lt_of_le (by simp) h2.1⟩
  have hBX := Lib.hid ((KeptBut.refl B b w).alloc hBw (pcC x))
  have hKX := Lib.hid ((Keeps.refl calmJ w).alloc (pcC x))
  clear ho ht hvo hX hbx
  obtain ⟨k, s, c⟩ := x
  unfold pcV
  unfold pcC at cE keep hBX hKX
  simp only at hkb
  have q0 := Lib.hid (show 0 < 3 by decide)
  have q1 := Lib.hid (show (o ++ flush t).length + 1 ≤ maxLen by unfold maxLen; omega)
  have q2 := Lib.hid (show ((o ++ flush t).length + 1) * 32 ≤ 140737488355328 by omega)
  have q6 := Lib.hid (show ∀ u ∈ ([.int .u8 k, .string s, .bool c] : List Value), u.oneCell' = true by intro u hu; simp at hu; rcases hu with rfl | rfl | rfl <;> rfl)
  have q7 := Lib.hid (show 0 < 1 by decide)
  have mid := Lib.hid (fun w2 hj2 hs2 => joinC_push B b (o ++ flush t) ⟨k, s, c⟩ w2 hj2 (Nat.le_trans hB1 hs2))
  clear hj hbk
  go_enter Tryz.func37, Tryz.ntmps37
  go_wp2_with (go_at_call 76; (with_reducible refine cE.mono ?_); rintro e w2 ⟨rfl, hj2, hb2, ho2, hk2⟩; obtain ⟨x0, x1, x2, x3⟩ := keep.out w2 ho2; have hbl2 := hj2.lt; have hm2 := mid.out w2 hj2 hb2.size; obtain ⟨q3, q4, vo2, q5, c02, M⟩ := hm2; have HB2 := Lib.hid (hBX.out.trans hb2); have HK2 := Lib.hid (hKX.out.trans hk2); clear hj2 hb2 ho2 hk2)
  go_region_law (refine step_append_full _ rfl (.tmp 17) (.tmp 19) 22 rfl B 52 i0 (.agg #[.int .u8 0, .string ⟨#[]⟩, .bool false]) 3 32 Tryz.underlying22 hi hz0 hz1 hz2 rfl q0.out vo2 (o ++ flush t).length (cells3 (o ++ flush t)) (by simp [Act.eval]) q5.out ⟨w2.heap.size, 0, none⟩ 1 1 [.int .u8 k, .string s, .bool c] (by simp [Act.eval]) rfl q4.out q6.out q7.out q1.out q2.out q3.out _ rfl ?_; intro g3 cap3 w3 hown3 hgrow3 hat3 hlt3 hfull3; obtain ⟨e0, f0, HJ, HBEL, HKEL⟩ := M.out g3 cap3 w3 hown3 hgrow3 hfull3; clear hown3 hgrow3 hat3 hlt3 hfull3)
  all_goals
    go_wp2
    go_end0
    rw [List.length_append] at HJ HBEL HKEL
    exact ⟨rfl, HJ.out, HB2.out.trans HBEL.out, HK2.out.trans HKEL.out⟩
set_option maxHeartbeats 2000000 in
theorem doneC_any (B b : Nat) (o : List Pc) (t : List UInt8) (w : World) (h : JoinC B b o t w) (hlen : t.length ≤ 100000000) (holen : o.length ≤ 1000000) (hBw : B ≤ w.heap.size) :
    Calls Tryz.prog 38 #[.pointer (some ⟨b, 0, none⟩)] w fun e w' => ∃ v, e = .returned v ∧ OwnP B v (o ++ flush t) w' ∧ JoinC B b (o ++ flush t) [] w' ∧ KeptBut B b w w' ∧ Keeps calmJ w w' := by
  have cE := endTextC_any B b o t _ h hlen holen hBw
  have open2 : Hid (∀ w2, JoinC B b (o ++ flush t) [] w2 → ∃ vo, w2.cell? ⟨b, 0, none⟩ = some vo ∧ OwnP B vo (o ++ flush t) w2) := by
    rintro w2 ⟨_, vo, vt, hbk, ho, _, _⟩
    exact ⟨vo, by rw [Lib.cell_of_heap hbk]; rfl, ho⟩
  clear h
  go_enter Tryz.func38, Tryz.ntmps38
  go_wp2_with (go_at_call 76; (with_reducible refine cE.mono ?_); rintro e w2 ⟨rfl, hj2, hb2, ho2, hk2⟩; have HJ2 := Lib.hid hj2; have HK := Lib.hid hk2; obtain ⟨vo, c0, hp⟩ := open2.out w2 hj2; have HP := Lib.hid hp; obtain ⟨ao, cap, rfl⟩ := HP.out.form; have HB := Lib.hid hb2; clear hj2 hb2 ho2 hp hk2)
  go_ret
  exact ⟨.slice ao (o.length + (flush t).length) cap, rfl, by have h := HP.out; rw [List.length_append] at h; exact h, HJ2.out, HB.out, HK.out⟩
set_option maxHeartbeats 2000000 in
theorem putTextPC_any (B b : Nat) (o : List Pc) (t : List UInt8) (x : Pc) (w : World) (h : JoinC B b o t w) (hk : x.k = 1) (hlen : t.length + x.s.size ≤ 100000000) (hBw : B ≤ w.heap.size) :
    Calls Tryz.prog 37 #[.pointer (some ⟨b, 0, none⟩), pcV x] w fun e w' => e = .returned (.tuple #[]) ∧ JoinC B b o (t ++ x.s.data.toList) w' ∧ KeptBut B b w w' ∧ Keeps calmJ w w' := by
  have ag := Tryz.isAgg52
  have zg := Tryz.sizeOf52
  have hbx := below_box (w := w) (pcC x)
  have cT := putTextC_any B b o t x.s _ (h.step hbx) hlen (Nat.le_trans hBw hbx.size)
  have HBX := Lib.hid ((KeptBut.refl B b w).alloc hBw (pcC x))
  have HKX := Lib.hid ((Keeps.refl calmJ w).alloc (pcC x))
  clear h hbx
  obtain ⟨k, s, c⟩ := x
  dsimp only at hk hlen cT
  subst hk
  unfold pcV
  unfold pcC at cT HBX HKX
  go_enter Tryz.func37, Tryz.ntmps37
  go_wp2_with (go_at_call 75; (with_reducible refine cT.mono ?_); rintro e w2 ⟨rfl, hj2, hk2, hc2⟩; have HJ := Lib.hid hj2; have HK := Lib.hid (HBX.out.trans hk2); have HC := Lib.hid (HKX.out.trans hc2); clear hj2 hk2 hc2)
  refine bodyPost_ret (results_none rfl _ _ _) rfl ?_
  exact ⟨rfl, HJ.out, HK.out, HC.out⟩
/-- both kinds of pieces -/
theorem putPcC_any (B b : Nat) (st : Js) (x : Pc) (w : World) (h : JoinC B b st.o st.t w) (hlen : st.t.length + x.s.size ≤ 100000000) (holen : st.o.length ≤ 1000000) (hBw : B ≤ w.heap.size) :
    Calls Tryz.prog 37 #[.pointer (some ⟨b, 0, none⟩), pcV x] w fun e w' => e = .returned (.tuple #[]) ∧ JoinC B b (js3 x st).o (js3 x st).t w' ∧ KeptBut B b w w' ∧ Keeps calmJ w w' := by
  unfold js3
  by_cases hk : x.k = 1
  · rw [if_pos hk]
    exact putTextPC_any B b st.o st.t x w h hk hlen hBw
  · rw [if_neg hk]
    exact putC_any B b st.o st.t x w h hk (by omega) holen hBw
end Go.Proofs.YtnkpjkomokkhcaaGreatDoor
namespace Go.Proofs.YtnkpjkomokkhcaaGreatDoor
open Go Go.RowKit Go.Lib
set_option maxRecDepth 100000
theorem not_calmS_box (cs : Array Value) (fr : Nat × Nat) : ¬ calmS (.cells cs 67 fr) := fun h => h.1 rfl
theorem not_calmS_row (cs : Array Value) : ¬ calmS (.cells cs 9 (0, 0)) := fun h => h.2 rfl
set_option maxHeartbeats 2000000 in
theorem pushS_any (B b : Nat) (op : List ByteArray) (s : ByteArray) (w : World) (h : StackAt B b op w) (hlen : op.length ≤ 1000000) (hBw : B ≤ w.heap.size) :
    Calls Tryz.prog 77 #[.pointer (some ⟨b, 0, none⟩), .string s] w fun e w' => e = .returned (.tuple #[]) ∧ StackAt B b (op ++ [s]) w' ∧ Below B w w' ∧ Keeps calmS w w' := by
  obtain ⟨i0, hi, hz0, hz1, hz2⟩ := info_parts info_str
  obtain ⟨hB, v, hbk, hown, hne⟩ := h
  have c0 : w.cell? ⟨b, 0, none⟩ = some v := by rw [Lib.cell_of_heap hbk]; rfl
  have hlt := lt_of_block hbk
  go_enter Tryz.func77, Tryz.ntmps77
  go_wp2_with (at_builtin; refine wpList_append_own _ rfl _ _ 67 rfl B 9 i0 (.string ⟨#[]⟩) 1 16 Tryz.underlying67 hi hz0 hz1 hz2 rfl (by decide) _ _ _ rfl (hown.alloc _) ⟨w.heap.size, 0, none⟩ 1 1 [.string s] rfl rfl ?c1 ?c2 ?c3 ?c4 ?c5 ?_)
  case c1 =>
    intro j u hj
    match j, hj with
    | 0, hj => simp at hj; subst hj; simp [Addr.add]
  case c2 => intro u hu; simp at hu; subst hu; rfl
  case c3 => unfold maxLen; omega
  case c4 => omega
  case c5 => simp; omega
  intro v' w2 hown' hgrow _
  have hb2 : w2.heap[b]? = some (.cells #[v] 67 (0, 0)) := by
    rw [hgrow.block b (by simp; omega) (fun e => hne e.symm), Below.heap_alloc _ _ _ hlt]
    exact hbk
  have d0 : w2.cell? ⟨b, 0, none⟩ = some v := by rw [Lib.cell_of_heap hb2]; rfl
  have f1 : w2.frozen? ⟨b, 0, none⟩ = false := Lib.frozen_of_heap hb2 0
  have hne' := ownBlock_other hown' hb2
  have HW := Lib.hid (StackAt.put (op := op ++ [s]) hB hb2 (by simpa using hown') hne')
  have HB := Lib.hid ((((Below.refl B w).alloc hBw (.cells #[.string s] 9)).grown hgrow (by simp; omega) (fun k hk => (hown.lt k hk).1)).setCell (p := ⟨b, 0, none⟩) hB v')
  have HK := Lib.hid ((((Keeps.refl calmS w).alloc (.cells #[.string s] 9)).trans (Keeps.grown (hown.alloc (.cells #[.string s] 9)) hgrow not_calmS_row)).setCell hb2 (not_calmS_box _ _) 0 v')
  obtain ⟨ao, n', cap, rfl⟩ : ∃ ao n' cap, v' = .slice ao n' cap := by
    rcases hown'.2 with ⟨hv, _⟩ | ⟨g, cap, cur, hv, _⟩
    · exact ⟨_, _, _, hv⟩
    · exact ⟨_, _, _, hv⟩
  clear hown' hgrow
  go_wp2
  go_end0
  exact ⟨rfl, HW.out, HB.out, HK.out⟩
set_option maxHeartbeats 2000000 in
theorem popS_any (B b : Nat) (op : List ByteArray) (w : World) (h : StackAt B b op w) :
    Calls Tryz.prog 78 #[.pointer (some ⟨b, 0, none⟩)] w fun e w' => e = .returned (.tuple #[.string (op.getLast?.getD ⟨#[]⟩), .bool (decide (0 < op.length))]) ∧ StackAt B b op.dropLast w' ∧ Below B w w' ∧ w.heap.size ≤ w'.heap.size ∧ (∀ k, k ≠ b → w'.heap[k]? = w.heap[k]?) ∧ Keeps calmS w w' := by
  have cT := top_any B b op w h
  have h0 := h
  obtain ⟨hB, v, hbk, hown, hne⟩ := h
  rcases List.eq_nil_or_concat op with rfl | ⟨l, x, rfl⟩
  · have H0 := Lib.hid h0
    clear hown
    simp only [List.getLast?_nil, Option.getD_none, List.length_nil, Nat.lt_irrefl, decide_false] at cT
    go_enter Tryz.func78, Tryz.ntmps78
    go_wp2_with (go_at_call 119; (with_reducible refine cT.mono ?_); rintro e w2 ⟨rfl, n, rfl⟩)
    go_ret2
    exact ⟨by simp, H0.out, ⟨rfl, rfl, rfl, Nat.le_refl _, fun _ _ => rfl⟩, Nat.le_refl _, fun _ _ => rfl, ⟨Nat.le_refl _, fun _ _ h _ => h⟩⟩
  · rcases hown.2 with ⟨_, hn0⟩ | ⟨g, cap, cur, rfl, _, _, hncap, hcapm, _, _⟩
    · simp at hn0
    simp only [List.concat_eq_append, List.length_append, List.length_cons, List.length_nil, Nat.zero_add] at *
    have hp := pop_row hown
    have HP := Lib.hid (fun n => StackAt.put (w := w.drewN n) (v := .slice (some ⟨g, 0, none⟩) (l.length + 1) cap) hB hbk (ownsRow_drew n hp) hne)
    have HB := Lib.hid (fun n => Below.setCell (B := B) (a := w) (w := w.drewN n) ⟨rfl, rfl, rfl, Nat.le_refl _, fun _ _ => rfl⟩ (p := ⟨b, 0, none⟩) hB (.slice (some ⟨g, 0, none⟩) l.length cap))
    have HK := Lib.hid (fun n => Keeps.setCell (C := calmS) (a := w) (w := w.drewN n) ⟨Nat.le_refl _, fun _ _ h _ => h⟩ hbk (not_calmS_box _ _) 0 (.slice (some ⟨g, 0, none⟩) l.length cap))
    clear hown hp
    simp only [List.getLast?_append, List.getLast?_singleton, Option.some_or, Option.getD_some, Nat.zero_lt_succ, decide_true] at cT
    have c0 : w.cell? ⟨b, 0, none⟩ = some (.slice (some ⟨g, 0, none⟩) (l.length + 1) cap) := by rw [Lib.cell_of_heap hbk]; rfl
    have f0 : w.frozen? ⟨b, 0, none⟩ = false := Lib.frozen_of_heap hbk 0
    unfold maxLen at hcapm
    have hwr : IntKind.i64.wrap (l.length : Int) = (l.length : Int) := by rw [IntKind.wrap_i64]; omega
    have hix2 : (l.length : Int) < ((l.length + 1 : Nat) : Int) := by omega
    have hix0 : (0 : Int) ≤ (l.length : Int) := by omega
    have hix4 : (l.length : Int) ≤ (cap : Int) := by omega
    go_enter Tryz.func78, Tryz.ntmps78
    go_wp2_with (go_at_call 119; (with_reducible refine cT.mono ?_); rintro e w2 ⟨rfl, n, rfl⟩)
    go_region
    go_wp2
    go_ret2
    exact ⟨by simp, by simpa using HP.out _, HB.out _, by simp [World.setCell], fun k hk => Below.heap_setCell _ _ _ _ hk, HK.out _⟩
set_option maxHeartbeats 4000000 in
theorem followS_any (B b : Nat) (op : List ByteArray) (x : Pc) (w : World) (h : StackAt B b op w) (hlen : op.length ≤ 1000000) (hBw : B ≤ w.heap.size) :
    Calls Tryz.prog 39 #[.pointer (some ⟨b, 0, none⟩), pcV x] w fun e w' => (∃ z : Int, e = .returned (.int .u8 z)) ∧ StackAt B b (cutOpn op x) w' ∧ Below B w w' ∧ Keeps calmS w w' := by
  have ag := Tryz.isAgg52
  have zg := Tryz.sizeOf52
  have HF := Lib.hid (show cutOpn op x = if x.k = 2 then op ++ [x.s] else if x.k = 3 then op.dropLast else op from rfl)
  obtain ⟨k, s, c⟩ := x
  have hbx := below_box (w := w) (pcC ⟨k, s, c⟩)
  have h1 := h.step hbx
  have hB1 : B ≤ (w.alloc (pcC ⟨k, s, c⟩)).heap.size := Nat.le_trans hBw hbx.size
  have hbb := hbx.mono hBw
  have hX := Boxed.new w ⟨k, s, c⟩
  unfold pcV
  have cU := pushS_any B b op s _ h1 hlen hB1
  have cO := popS_any B b op _ h1
  have HK := Lib.hid ((Keeps.refl calmS w).alloc (pcC ⟨k, s, c⟩))
  have H1 := Lib.hid h1
  unfold pcC at cU cO hX hbb hbx HK H1
  simp only at cU cO hX hbx hbb HF HK H1 ⊢
  have HB := Lib.hid hbb
  have hbl : b < w.heap.size := by obtain ⟨_, v, hb, _⟩ := h; exact lt_of_block hb
  clear h1
  by_cases h2 : k = 2
  · subst h2
    clear cO
    have HF2 := Lib.hid (show op ++ [s] = cutOpn op ⟨2, s, c⟩ by rw [HF.out]; simp)
    by_cases h16 : op.length + 1 > 16
    · have hI : (16 : Int) < (op.length : Int) + 1 := by omega
      go_enter Tryz.func39, Tryz.ntmps39
      go_wp2_with (go_at_call 77; (with_reducible refine cU.mono ?_); rintro e w2 ⟨rfl, hs2, hb2, hk2⟩; obtain ⟨ao, cap, c0⟩ := hs2.cell; simp only [List.length_append, List.length_cons, List.length_nil, Nat.zero_add] at c0; have HS2 := Lib.hid hs2; have HB2 := Lib.hid hb2; have HK2 := Lib.hid hk2; clear hk2)
      go_ret
      exact ⟨⟨_, rfl⟩, by rw [← HF2.out]; exact HS2.out, HB.out.trans HB2.out, HK.out.trans HK2.out⟩
    · have hI : ¬ (16 : Int) < (op.length : Int) + 1 := by omega
      go_enter Tryz.func39, Tryz.ntmps39
      go_wp2_with (go_at_call 77; (with_reducible refine cU.mono ?_); rintro e w2 ⟨rfl, hs2, hb2, hk2⟩; obtain ⟨ao, cap, c0⟩ := hs2.cell; simp only [List.length_append, List.length_cons, List.length_nil, Nat.zero_add] at c0; have HS2 := Lib.hid hs2; have HB2 := Lib.hid hb2; have HK2 := Lib.hid hk2; clear hk2)
      go_ret
      exact ⟨⟨_, rfl⟩, by rw [← HF2.out]; exact HS2.out, HB.out.trans HB2.out, HK.out.trans HK2.out⟩
  · by_cases h3 : k = 3
    · subst h3
      clear cU
      have HF3 := Lib.hid (show op.dropLast = cutOpn op ⟨3, s, c⟩ by rw [HF.out]; simp)
      obtain ⟨x0, x1, x2, x3⟩ := hX
      have hne : w.heap.size ≠ b := by omega
      rcases List.eq_nil_or_concat op with rfl | ⟨l, y, rfl⟩
      · simp only [List.getLast?_nil, Option.getD_none, List.length_nil, Nat.lt_irrefl, decide_false] at cO
        go_enter Tryz.func39, Tryz.ntmps39
        go_wp2_with (go_at_call 78; (with_reducible refine cO.mono ?_); rintro e w2 ⟨rfl, hs2, hb2, hz2, hk2, hc2⟩; have HS2 := Lib.hid hs2; have HC2 := Lib.hid hc2; clear hc2)
        go_ret
        exact ⟨⟨_, rfl⟩, by rw [← HF3.out]; exact HS2.out, HB.out.trans hb2, HK.out.trans HC2.out⟩
      · simp only [List.concat_eq_append, List.length_append, List.length_cons, List.length_nil, Nat.zero_add, List.getLast?_append, List.getLast?_singleton, Option.some_or, Option.getD_some, Nat.zero_lt_succ, decide_true, List.dropLast_concat] at *
        by_cases hq : y.toList = s.toList
        · go_enter Tryz.func39, Tryz.ntmps39
          go_wp2_with (go_at_call 78; (with_reducible refine cO.mono ?_); rintro e w2 ⟨rfl, hs2, hb2, hz2, hk2, hc2⟩; have HS2 := Lib.hid hs2; have y1 := (World.cell?_of_block (a := ⟨w.heap.size, 1, none⟩) (hk2 w.heap.size hne)).trans x1; have HB2 := Lib.hid hb2; have HC2 := Lib.hid hc2; clear hk2 hc2)
          go_ret
          exact ⟨⟨_, rfl⟩, by rw [← HF3.out]; exact HS2.out, HB.out.trans HB2.out, HK.out.trans HC2.out⟩
        · have hqb : (y.toList == s.toList) = false := by simp [hq]
          go_enter Tryz.func39, Tryz.ntmps39
          go_wp2_with (go_at_call 78; (with_reducible refine cO.mono ?_); rintro e w2 ⟨rfl, hs2, hb2, hz2, hk2, hc2⟩; have HS2 := Lib.hid hs2; have y1 := (World.cell?_of_block (a := ⟨w.heap.size, 1, none⟩) (hk2 w.heap.size hne)).trans x1; have HB2 := Lib.hid hb2; have HC2 := Lib.hid hc2; clear hk2 hc2)
          go_ret
          exact ⟨⟨_, rfl⟩, by rw [← HF3.out]; exact HS2.out, HB.out.trans HB2.out, HK.out.trans HC2.out⟩
    · clear cU cO
      have HF3 := Lib.hid (show op = cutOpn op ⟨k, s, c⟩ by rw [HF.out]; simp [h2, h3])
      obtain ⟨x0, x1, x2, x3⟩ := hX
      go_enter Tryz.func39, Tryz.ntmps39
      go_wp2
      go_ret
      exact ⟨⟨_, rfl⟩, by rw [← HF3.out]; exact H1.out, HB.out, HK.out⟩
end Go.Proofs.YtnkpjkomokkhcaaGreatDoor
