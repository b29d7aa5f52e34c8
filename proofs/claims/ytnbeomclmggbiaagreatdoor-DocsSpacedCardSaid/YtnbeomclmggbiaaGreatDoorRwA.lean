/- The joiner: texts and pieces put one behind the other, as the program does it. The first special byte of a text: strings.IndexAny at the three special bytes, for any text. A tag or a hole, read from its written form, as the program does it. The pieces of a text, token by token, as the program splits it: a loop by labels. The pieces of a text, as the program splits it. The pieces of a text, as the program reads them; equal lists are told equal. -/
import Derived.Test.YtnbeomclmggbiaaGreatDoorDpC
import Derived.Test.YtnbeomclmggbiaaGreatDoorRdA
import Derived.Laws.BytesString
import Derived.Deep.AppendLies
import Derived.Deep.RegionLaw
import Derived.Test.YtnbeomclmggbiaaGreatDoorSh
import Derived.Deep.QuietTactic
import Derived.Laws.Runes
import Derived.WalkMore
import Derived.Laws.ResultCell
import Derived.ScopeJumps
namespace Go.Proofs.YtnbeomclmggbiaaGreatDoor
open Go Go.RowKit
set_option maxRecDepth 100000
theorem info_pc : (Tryz.prog.info? 56).map (fun i => (i.zero, i.size, i.bytes)) = some (some (.agg #[.int .u8 0, .string ⟨#[]⟩, .bool false]), 3, 32) := by kernel_rfl
/-- below a bound all is as it was, but for one block -/
structure KeptBut (B b : Nat) (w w' : World) : Prop where
  os : w'.os = w.os
  tape : w'.tape = w.tape
  output : w'.output = w.output
  size : w.heap.size ≤ w'.heap.size
  block : ∀ k, k < B → k ≠ b → w'.heap[k]? = w.heap[k]?
theorem KeptBut.refl (B b : Nat) (w : World) : KeptBut B b w w := ⟨rfl, rfl, rfl, Nat.le_refl _, fun _ _ _ => rfl⟩
theorem KeptBut.trans {B b : Nat} {x y z : World} (h : KeptBut B b x y) (k : KeptBut B b y z) : KeptBut B b x z :=
  ⟨k.os.trans h.os, k.tape.trans h.tape, k.output.trans h.output, Nat.le_trans h.size k.size, fun i hi hb => (k.block i hi hb).trans (h.block i hi hb)⟩
theorem KeptBut.of {B b : Nat} {w w' : World} (h : Below B w w') : KeptBut B b w w' := ⟨h.os, h.tape, h.output, h.size, fun k hk _ => h.block k hk⟩
theorem KeptBut.below {B b C : Nat} {w w' : World} (h : KeptBut B b w w') (h1 : C ≤ B) (h2 : C ≤ b) : Below C w w' := ⟨h.os, h.tape, h.output, h.size, fun k hk => h.block k (by omega) (by omega)⟩
theorem KeptBut.alloc {B b : Nat} {a w : World} (h : KeptBut B b a w) (hB : B ≤ w.heap.size) (o : Obj) : KeptBut B b a (w.alloc o) :=
  h.trans (KeptBut.of ((Below.refl B w).alloc hB o))
theorem KeptBut.grown {B b : Nat} {a w w' : World} {row : Option Nat} (h : KeptBut B b a w) (hg : w.grownBy w' row) (hB : B ≤ w.heap.size) (hr : ∀ k, row = some k → B ≤ k) : KeptBut B b a w' :=
  h.trans (KeptBut.of ((Below.refl B w).grown hg hB hr))
theorem KeptBut.setCell {B b : Nat} {a w : World} (h : KeptBut B b a w) (j : Nat) (u : Value) : KeptBut B b a (w.setCell ⟨b, j, none⟩ u) :=
  h.trans ⟨rfl, rfl, rfl, by simp [World.setCell], fun k _ hk => Below.heap_setCell _ _ _ _ hk⟩
def cells3 (l : List Pc) : List Value := l.flatMap fun x => [.int .u8 x.k, .string x.s, .bool x.c]
/-- a slice of pieces that the call has made itself -/
def OwnP (B : Nat) (v : Value) (l : List Pc) (w : World) : Prop := w.ownsRow B 56 3 v l.length (cells3 l)
theorem OwnP.step {B : Nat} {v : Value} {l : List Pc} {w w' : World} (hb : Below w.heap.size w w') (h : OwnP B v l w) : OwnP B v l w' := ownsRow_step hb h
theorem OwnP.form {B : Nat} {v : Value} {l : List Pc} {w : World} (h : OwnP B v l w) : ∃ ao cap, v = .slice ao l.length cap := by
  rcases h.2 with ⟨hv, h0⟩ | ⟨g, cap, cur, hv, _⟩
  · exact ⟨none, 0, by rw [hv, h0]⟩
  · exact ⟨_, _, hv⟩
theorem OwnP.low {B : Nat} {v : Value} {l : List Pc} {w : World} (h : OwnP B v l w) : OwnP 0 v l w :=
  ⟨h.1, h.2.imp id fun ⟨g, cap, cur, e, _, r⟩ => ⟨g, cap, cur, e, Nat.zero_le _, r⟩⟩
theorem OwnP.nil (B : Nat) (w : World) : OwnP B (.slice none 0 0) [] w := World.ownsRow_nil _ _ _ _
theorem cells3_app (l m : List Pc) : cells3 (l ++ m) = cells3 l ++ cells3 m := by unfold cells3; simp
theorem OwnP.more {B : Nat} {v : Value} {l : List Pc} {x : Pc} {w : World} (h : w.ownsRow B 56 3 v (l.length + 1) (cells3 l ++ [.int .u8 x.k, .string x.s, .bool x.c])) : OwnP B v (l ++ [x]) w := by
  unfold OwnP
  rw [cells3_app, List.length_append]
  exact h
theorem cells3_get : ∀ (l : List Pc) (i j : Nat), i < l.length → j < 3 → (cells3 l)[i * 3 + j]? = some (pcF l i j)
  | x :: l, 0, j, _, hj => by
    unfold cells3 pcF
    match j, hj with
    | 0, _ => rfl
    | 1, _ => rfl
    | 2, _ => rfl
  | x :: l, i + 1, j, hi, hj => by
    have := cells3_get l i j (by simpa using hi) hj
    have e : (cells3 (x :: l))[(i + 1) * 3 + j]? = (cells3 l)[i * 3 + j]? := by
      rw [show (i + 1) * 3 + j = (i * 3 + j) + 1 + 1 + 1 by omega]
      rfl
    rw [e, this]
    unfold pcF
    simp
theorem OwnP.at {B : Nat} {v : Value} {l : List Pc} {w : World} (h : OwnP B v l w) : PcsAt w v l := by
  have hc := h
  rcases h.2 with ⟨rfl, h0⟩ | ⟨g, cap, cur, rfl, hg, hh, hn, hm, _⟩
  · exact ⟨none, 0, by rw [h0], by omega, by unfold maxLen; omega, fun h => by omega⟩
  · refine ⟨some ⟨g, 0, none⟩, cap, rfl, hn, hm, fun _ => ⟨_, rfl, lt_of_block hh, fun i j hi hj => ?_⟩⟩
    exact World.ownsRow.cells hc (g := g) rfl _ _ (cells3_get l i j hi hj)
theorem own_other {w : World} {B b sz : Nat} {e t : TypeId} {v : Value} {n : Nat} {xs : List Value} {cs : Array Value} (hown : w.ownsRow B e sz v n xs) (hb : w.heap[b]? = some (.cells cs t (0, 0))) (hne : e ≠ t) : v.ownBlock ≠ some b := by
  rcases hown.2 with ⟨rfl, _⟩ | ⟨g, cap, cur, rfl, _, hg, _⟩
  · simp [Value.ownBlock]
  · intro e'
    simp only [Value.ownBlock, Option.some.injEq] at e'
    subst e'
    rw [hg] at hb
    injection hb with hb
    injection hb with _ ht _
    exact hne ht
theorem own_apart {w : World} {B sz sz' : Nat} {e e' : TypeId} {v v' : Value} {n n' : Nat} {xs xs' : List Value} (h : w.ownsRow B e sz v n xs) (h' : w.ownsRow B e' sz' v' n' xs') (hne : e ≠ e') : v.ownBlock = none ∨ v.ownBlock ≠ v'.ownBlock := by
  rcases h'.2 with ⟨rfl, _⟩ | ⟨g, cap, cur, rfl, _, hg, _⟩
  · cases hv : v.ownBlock
    · exact .inl rfl
    · right; simp [Value.ownBlock]
  · right
    exact own_other h hg hne
/-- a joiner stands in a block of its own: its pieces, and the text that may go on -/
def JoinAt (B b : Nat) (o : List Pc) (t : List UInt8) (w : World) : Prop := 0 ≤ b ∧ ∃ vo vt, w.heap[b]? = some (.cells #[vo, vt] 118 (0, 0)) ∧ OwnP B vo o w ∧ OwnB B vt t w
theorem JoinAt.step {B b : Nat} {o : List Pc} {t : List UInt8} {w w' : World} (hb : Below w.heap.size w w') (h : JoinAt B b o t w) : JoinAt B b o t w' := by
  obtain ⟨h0, vo, vt, h1, h2, h3⟩ := h
  exact ⟨h0, vo, vt, by rw [hb.block b (lt_of_block h1)]; exact h1, h2.step hb, h3.step hb⟩
theorem JoinAt.lt {B b : Nat} {o : List Pc} {t : List UInt8} {w : World} (h : JoinAt B b o t w) : b < w.heap.size := by obtain ⟨_, vo, vt, hb, _⟩ := h; exact lt_of_block hb
theorem JoinAt.put {B b : Nat} {o : List Pc} {t : List UInt8} {w w' : World} {vo vt : Value} (hB : 0 ≤ b) (hw : w'.heap[b]? = some (.cells #[vo, vt] 118 (0, 0))) (hg : w.grownBy w' (some b)) (hb : ∃ cs, w.heap[b]? = some (.cells cs 118 (0, 0)))
    (ho : OwnP B vo o w) (ht : OwnB B vt t w) : JoinAt B b o t w' := by
  obtain ⟨cs, hb⟩ := hb
  exact ⟨hB, vo, vt, hw, ho.kept hg (.inr (own_other ho hb (by decide))), ht.kept hg (.inr (own_other ht hb (by decide)))⟩
theorem grown_setCell (w : World) (b k : Nat) (v : Value) : w.grownBy (w.setCell ⟨b, k, none⟩ v) (some b) :=
  ⟨rfl, rfl, rfl, by simp [World.setCell], fun k' _ hk => Below.heap_setCell _ _ _ _ (fun e => hk (by simp [e]))⟩
theorem JoinAt.putO {B b : Nat} {o : List Pc} {t : List UInt8} {w : World} {vo vo' vt : Value} (hB : 0 ≤ b) (hb : w.heap[b]? = some (.cells #[vo, vt] 118 (0, 0))) (ho : OwnP B vo' o w) (ht : OwnB B vt t w) : JoinAt B b o t (w.setCell ⟨b, 0, none⟩ vo') :=
  JoinAt.put hB (by simp [World.setCell, Array.getElem?_modify, hb]) (grown_setCell _ _ _ _) ⟨_, hb⟩ ho ht
theorem JoinAt.putT {B b : Nat} {o : List Pc} {t : List UInt8} {w : World} {vo vt vt' : Value} (hB : 0 ≤ b) (hb : w.heap[b]? = some (.cells #[vo, vt] 118 (0, 0))) (ho : OwnP B vo o w) (ht : OwnB B vt' t w) : JoinAt B b o t (w.setCell ⟨b, 1, none⟩ vt') :=
  JoinAt.put hB (by simp [World.setCell, Array.getElem?_modify, hb]) (grown_setCell _ _ _ _) ⟨_, hb⟩ ho ht
set_option maxHeartbeats 2000000 in
theorem putText_any (B b : Nat) (o : List Pc) (t : List UInt8) (s : ByteArray) (w : World) (h : JoinAt B b o t w) (hlen : t.length + s.size ≤ 100000000) (hBw : B ≤ w.heap.size) :
    Calls Tryz.prog 106 #[.pointer (some ⟨b, 0, none⟩), .string s] w fun e w' => e = .returned (.tuple #[]) ∧ JoinAt B b o (t ++ s.data.toList) w' ∧ KeptBut B b w w' := by
  obtain ⟨i0, hi, hz0, hz1, hz2⟩ := info_parts info_byte
  obtain ⟨hB, vo, vt, hbk, ho, ht⟩ := h
  have c1 : w.cell? ⟨b, 1, none⟩ = some vt := by rw [Lib.cell_of_heap hbk]; rfl
  have hown := ht
  unfold OwnB at hown
  have HO := Lib.hid ho
  have HT := Lib.hid ht
  have HBK := Lib.hid hbk
  clear ho ht
  go_enter Tryz.func106, Tryz.ntmps106
  go_wp2_with (at_builtin; refine Lib.wpList_append_own_string _ rfl _ _ 71 9 rfl B 5 i0 Tryz.underlying71 Tryz.underlying9 hi hz0 hz1 hz2 _ _ _ rfl hown s rfl ?c3 ?c4 ?c5 ?_)
  case c3 => unfold maxLen; omega
  case c4 => omega
  case c5 => omega
  intro v' w2 hown' hgrow _
  have hb2 : w2.heap[b]? = some (.cells #[vo, vt] 118 (0, 0)) := by
    rw [hgrow.block b (lt_of_block HBK.out) (fun e => own_other HT.out HBK.out (by decide) e.symm)]
    exact HBK.out
  have d1 : w2.cell? ⟨b, 1, none⟩ = some vt := by rw [Lib.cell_of_heap hb2]; rfl
  have f1 : w2.frozen? ⟨b, 1, none⟩ = false := Lib.frozen_of_heap hb2 1
  have ho2 : OwnP B vo o w2 := HO.out.kept hgrow (own_apart HO.out HT.out (by decide))
  have hT2 := OwnB.more (m := s.data.toList) hown'
  have HW := Lib.hid (JoinAt.putT hB hb2 ho2 hT2)
  obtain ⟨ao, cap, rfl⟩ := hT2.form
  have HB := Lib.hid (((KeptBut.refl B b w).grown hgrow hBw (fun k hk => (hown.lt k hk).1)).setCell 1 (.slice ao (t ++ s.data.toList).length cap))
  rw [show (t ++ s.data.toList).length = t.length + s.size by simp] at HW HB
  clear hown hown' hgrow ho2 hT2
  go_wp2
  go_end0
  exact ⟨rfl, HW.out, HB.out⟩
theorem own_cut {w : World} {B sz g n cap : Nat} {e : TypeId} {xs : List Value} (h : w.ownsRow B e sz (.slice (some ⟨g, 0, none⟩) n cap) n xs) : w.ownsRow B e sz (.slice (some ⟨g, 0, none⟩) 0 cap) 0 [] := by
  refine ⟨by simp, ?_⟩
  rcases h.2 with ⟨hv, _⟩ | ⟨g', cap', cur, hv, h1, h2, h3, h4, h5, h6⟩
  · cases hv
  · injection hv with hv1 hv2 hv3
    injection hv1 with hv1
    injection hv1 with hv1
    subst hv1 hv3
    exact .inr ⟨_, _, cur, rfl, h1, h2, by omega, h4, h5, by simp⟩
/-- but for the joiner, and for the row of its pieces, all is as it was -/
def Others (b : Nat) (w w' : World) : Prop := w.heap.size ≤ w'.heap.size ∧ ∀ vo, w.cell? ⟨b, 0, none⟩ = some vo → ∀ k, k < w.heap.size → k ≠ b → vo.ownBlock ≠ some k → w'.heap[k]? = w.heap[k]?
theorem Others.refl (b : Nat) (w : World) : Others b w w := ⟨Nat.le_refl _, fun _ _ _ _ _ _ => rfl⟩
set_option maxHeartbeats 4000000 in
theorem endText_any (B b : Nat) (o : List Pc) (t : List UInt8) (w : World) (h : JoinAt B b o t w) (hlen : t.length ≤ 100000000) (holen : o.length ≤ 1000000) (hBw : B ≤ w.heap.size) :
    Calls Tryz.prog 122 #[.pointer (some ⟨b, 0, none⟩)] w fun e w' => e = .returned (.tuple #[]) ∧ JoinAt B b (o ++ flush t) [] w' ∧ KeptBut B b w w' ∧ Others b w w' := by
  obtain ⟨i0, hi, hz0, hz1, hz2⟩ := info_parts info_pc
  have h0 := Lib.hid h
  obtain ⟨hB, vo, vt, hbk, ho, ht⟩ := h
  have c0 : w.cell? ⟨b, 0, none⟩ = some vo := by rw [Lib.cell_of_heap hbk]; rfl
  have c1 : w.cell? ⟨b, 1, none⟩ = some vt := by rw [Lib.cell_of_heap hbk]; rfl
  have hlt := lt_of_block hbk
  by_cases hne : t = []
  · subst hne
    obtain ⟨ao, cap, rfl⟩ := ht.form
    clear ho ht hbk
    go_enter Tryz.func122, Tryz.ntmps122
    go_wp2
    go_end0
    exact ⟨rfl, by have := h0.out; simpa [flush] using this, KeptBut.refl _ _ _, Others.refl _ _⟩
  · have hl := List.length_pos_iff.2 hne
    rcases ht.2 with ⟨_, hn0⟩ | ⟨g, cap, cur, rfl, _, _, hncap, hcapm, _, _⟩
    · omega
    have hcv := convert_own ht
    have hcv1 := convert_own (w := w.drew) ht
    have hI : (0 : Int) < (t.length : Int) := by omega
    have hF : flush t = [⟨1, bytes t, false⟩] := by unfold flush; rw [if_neg hne]
    have HF := Lib.hid hF
    clear hF
    have HO := Lib.hid ho
    have HT := Lib.hid ht
    have HBK := Lib.hid hbk
    have hown := ho
    unfold OwnP at hown
    clear ho ht hbk hne
    unfold maxLen at hcapm
    have q0 := Lib.hid (show 0 < 3 by decide)
    have q1 := Lib.hid (show o.length + 1 ≤ maxLen by unfold maxLen; omega)
    have q2 := Lib.hid (show (o.length + 1) * 32 ≤ 140737488355328 by omega)
    have q3 := Lib.hid (show B ≤ (w.alloc (.cells #[.int .u8 1, .string (bytes t), .bool false] 56)).heap.size by simp; omega)
    have q4 := Lib.hid (World.news_of_block (w := w.alloc (.cells #[.int .u8 1, .string (bytes t), .bool false] 56)) (B := w.heap.size) (cs := #[.int .u8 1, .string (bytes t), .bool false]) (t := 56) (fr := (0, 0)) (by show (w.heap.push _)[_]? = _; simp))
    have q5 := Lib.hid (hown.alloc (.cells #[.int .u8 1, .string (bytes t), .bool false] 56))
    have q6 := Lib.hid (show ∀ u ∈ ([.int .u8 1, .string (bytes t), .bool false] : List Value), u.oneCell' = true by intro u hu; simp at hu; rcases hu with rfl | rfl | rfl <;> rfl)
    have q7 := Lib.hid (show 0 < 1 by decide)
    clear hown
    go_enter Tryz.func122, Tryz.ntmps122
    go_wp2
    have mid : Hid (∀ g2 cap2 w2, World.ownsRow w2 B 56 3 (.slice (some ⟨g2, 0, none⟩) (o.length + 1) cap2) (o.length + 1) (cells3 o ++ [.int .u8 1, .string (bytes t), .bool false]) → World.grownBy (w.alloc (.cells #[.int .u8 1, .string (bytes t), .bool false] 56)).drew w2 vo.ownBlock →
        w2.cell? ⟨b, 0, none⟩ = some vo ∧ w2.cell? ⟨b, 1, none⟩ = some (.slice (some ⟨g, 0, none⟩) t.length cap) ∧ w2.frozen? ⟨b, 0, none⟩ = false ∧ w2.frozen? ⟨b, 1, none⟩ = false ∧
        Hid (JoinAt B b (o ++ [⟨1, bytes t, false⟩]) [] ((w2.setCell ⟨b, 0, none⟩ (.slice (some ⟨g2, 0, none⟩) (o.length + 1) cap2)).setCell ⟨b, 1, none⟩ (.slice (some ⟨g, 0, none⟩) 0 cap))) ∧ Hid (KeptBut B b w ((w2.setCell ⟨b, 0, none⟩ (.slice (some ⟨g2, 0, none⟩) (o.length + 1) cap2)).setCell ⟨b, 1, none⟩ (.slice (some ⟨g, 0, none⟩) 0 cap))) ∧ Hid (Others b w ((w2.setCell ⟨b, 0, none⟩ (.slice (some ⟨g2, 0, none⟩) (o.length + 1) cap2)).setCell ⟨b, 1, none⟩ (.slice (some ⟨g, 0, none⟩) 0 cap)))) := by
      intro g2 cap2 w2 hown2 hgrow2
      have hb2 : w2.heap[b]? = some (.cells #[vo, .slice (some ⟨g, 0, none⟩) t.length cap] 118 (0, 0)) := by
        rw [hgrow2.block b (by show b < (w.alloc _).heap.size; simp; omega) (fun e => own_other HO.out HBK.out (by decide) e.symm)]
        show (w.alloc _).heap[b]? = _
        rw [Below.heap_alloc _ _ _ hlt]
        exact HBK.out
      have d0 : w2.cell? ⟨b, 0, none⟩ = some vo := by rw [Lib.cell_of_heap hb2]; rfl
      have d1 : w2.cell? ⟨b, 1, none⟩ = some (.slice (some ⟨g, 0, none⟩) t.length cap) := by rw [Lib.cell_of_heap hb2]; rfl
      have f0 : w2.frozen? ⟨b, 0, none⟩ = false := Lib.frozen_of_heap hb2 0
      have f1 : w2.frozen? ⟨b, 1, none⟩ = false := Lib.frozen_of_heap hb2 1
      have ht2 : OwnB B (.slice (some ⟨g, 0, none⟩) t.length cap) t w2 := World.ownsRow.kept (w := w.alloc (.cells #[.int .u8 1, .string (bytes t), .bool false] 56)) (HT.out.alloc _) ⟨hgrow2.os, hgrow2.tape, hgrow2.output, hgrow2.size, hgrow2.block⟩ (own_apart HT.out HO.out (by decide))
      have HJ := Lib.hid (JoinAt.putO (o := o ++ [⟨1, bytes t, false⟩]) hB hb2 (OwnP.more (x := ⟨1, bytes t, false⟩) hown2) ht2)
      have HBEL := Lib.hid ((((KeptBut.refl B b w).alloc hBw (.cells #[.int .u8 1, .string (bytes t), .bool false] 56)).grown (w := w.alloc (.cells #[.int .u8 1, .string (bytes t), .bool false] 56)) (w' := w2) (row := vo.ownBlock) ⟨hgrow2.os, hgrow2.tape, hgrow2.output, hgrow2.size, hgrow2.block⟩ q3.out (fun k hk => (q5.out.lt k hk).1)))
      refine ⟨d0, d1, f0, f1, ?_, (HBEL.out.setCell 0 _).setCell 1 _, ?_⟩
      rotate_left
      · refine ⟨?_, fun vo' hvo' k hk hkb hkv => ?_⟩
        · have := hgrow2.size
          have h0 : (w.alloc (.cells #[.int .u8 1, .string (bytes t), .bool false] 56)).drew.heap.size = w.heap.size + 1 := by show (w.alloc _).heap.size = _; simp
          rw [h0] at this
          simp [World.setCell]; omega
        · have hv : vo' = vo := by rw [c0] at hvo'; exact (Option.some.inj hvo').symm
          subst hv
          rw [Below.heap_setCell _ _ _ _ (by exact hkb), Below.heap_setCell _ _ _ _ (by exact hkb), hgrow2.block k (by show k < (w.alloc _).heap.size; simp; omega) (fun e => hkv e.symm)]
          show (w.alloc _).heap[k]? = _
          rw [Below.heap_alloc _ _ _ hk]
      obtain ⟨_, vo', vt', k1, k2, k3⟩ := HJ.out
      have e1 : (w2.setCell ⟨b, 0, none⟩ (.slice (some ⟨g2, 0, none⟩) (o.length + 1) cap2)).heap[b]? = some (.cells #[.slice (some ⟨g2, 0, none⟩) (o.length + 1) cap2, .slice (some ⟨g, 0, none⟩) t.length cap] 118 (0, 0)) := by simp [World.setCell, Array.getElem?_modify, hb2]
      rw [e1] at k1
      injection k1 with k1
      injection k1 with k1 _ _
      have k4 : vo' = .slice (some ⟨g2, 0, none⟩) (o.length + 1) cap2 ∧ vt' = .slice (some ⟨g, 0, none⟩) t.length cap := by simpa using k1.symm
      obtain ⟨rfl, rfl⟩ := k4
      exact JoinAt.putT hB e1 k2 (own_cut k3)
    go_region_law (refine step_append_lies _ rfl (.tmp 12) (.tmp 19) 35 rfl B 56 i0 (.agg #[.int .u8 0, .string ⟨#[]⟩, .bool false]) 3 32 Tryz.underlying35 hi hz0 hz1 hz2 rfl q0.out vo o.length (cells3 o) (by simp [Act.eval]) q5.out ⟨w.heap.size, 0, none⟩ 1 1 [.int .u8 1, .string (bytes t), .bool false] (by simp [Act.eval]) rfl q4.out q6.out q7.out q1.out q2.out q3.out _ rfl ?_; intro g2 cap2 w2 hown2 hgrow2 hat2 hlt2; obtain ⟨d0, d1, f0, f1, HJ, HBEL, HOT⟩ := mid.out g2 cap2 w2 hown2 hgrow2; clear hown2 hgrow2 hat2 hlt2)
    all_goals
      go_wp2
      go_end0
      exact ⟨rfl, by rw [HF.out]; exact HJ.out, HBEL.out, HOT.out⟩
/-- one more piece put behind those of a joiner without a text -/
theorem join_push (B b : Nat) (o : List Pc) (x : Pc) (w : World) (h : JoinAt B b o [] w) (hBw : B ≤ w.heap.size) :
    Hid (B ≤ (w.alloc (.cells #[.int .u8 x.k, .string x.s, .bool x.c] 56)).heap.size) ∧
    Hid (∀ j u, (#[.int .u8 x.k, .string x.s, .bool x.c] : Array Value).toList[j]? = some u → (w.alloc (.cells #[.int .u8 x.k, .string x.s, .bool x.c] 56)).cell? ((⟨w.heap.size, 0, none⟩ : Addr).add j) = some u) ∧
    ∃ vo, Hid ((w.alloc (.cells #[.int .u8 x.k, .string x.s, .bool x.c] 56)).ownsRow B 56 3 vo o.length (cells3 o)) ∧ w.cell? ⟨b, 0, none⟩ = some vo ∧
      Hid (∀ g2 cap2 w2, World.ownsRow w2 B 56 3 (.slice (some ⟨g2, 0, none⟩) (o.length + 1) cap2) (o.length + 1) (cells3 o ++ [.int .u8 x.k, .string x.s, .bool x.c]) → World.grownBy (w.alloc (.cells #[.int .u8 x.k, .string x.s, .bool x.c] 56)).drew w2 vo.ownBlock →
        w2.cell? ⟨b, 0, none⟩ = some vo ∧ w2.frozen? ⟨b, 0, none⟩ = false ∧ Hid (JoinAt B b (o ++ [x]) [] (w2.setCell ⟨b, 0, none⟩ (.slice (some ⟨g2, 0, none⟩) (o.length + 1) cap2))) ∧ Hid (KeptBut B b w (w2.setCell ⟨b, 0, none⟩ (.slice (some ⟨g2, 0, none⟩) (o.length + 1) cap2)))) := by
  obtain ⟨hB, vo, vt, hbk, ho, ht⟩ := h
  have hlt := lt_of_block hbk
  have q3 : B ≤ (w.alloc (.cells #[.int .u8 x.k, .string x.s, .bool x.c] 56)).heap.size := by simp; omega
  have q5 := World.ownsRow.alloc ho (.cells #[.int .u8 x.k, .string x.s, .bool x.c] 56)
  refine ⟨q3, World.news_of_block (w := w.alloc (.cells #[.int .u8 x.k, .string x.s, .bool x.c] 56)) (B := w.heap.size) (cs := #[.int .u8 x.k, .string x.s, .bool x.c]) (t := 56) (fr := (0, 0)) (by show (w.heap.push _)[_]? = _; simp), vo, q5, by rw [Lib.cell_of_heap hbk]; rfl, ?_⟩
  intro g2 cap2 w2 hown2 hgrow2
  have hb2 : w2.heap[b]? = some (.cells #[vo, vt] 118 (0, 0)) := by
    rw [hgrow2.block b (by show b < (w.alloc _).heap.size; simp; omega) (fun e => own_other ho hbk (by decide) e.symm)]
    show (w.alloc _).heap[b]? = _
    rw [Below.heap_alloc _ _ _ hlt]
    exact hbk
  have ht2 : OwnB B vt [] w2 := World.ownsRow.kept (w := w.alloc (.cells #[.int .u8 x.k, .string x.s, .bool x.c] 56)) (World.ownsRow.alloc ht _) ⟨hgrow2.os, hgrow2.tape, hgrow2.output, hgrow2.size, hgrow2.block⟩ (own_apart ht ho (by decide))
  exact ⟨by rw [Lib.cell_of_heap hb2]; rfl, Lib.frozen_of_heap hb2 0, JoinAt.putO (o := o ++ [x]) hB hb2 (OwnP.more hown2) ht2,
    (((KeptBut.refl B b w).alloc hBw (.cells #[.int .u8 x.k, .string x.s, .bool x.c] 56)).grown (w := w.alloc (.cells #[.int .u8 x.k, .string x.s, .bool x.c] 56)) (w' := w2) (row := vo.ownBlock) ⟨hgrow2.os, hgrow2.tape, hgrow2.output, hgrow2.size, hgrow2.block⟩ q3 (fun k hk => (q5.lt k hk).1)).setCell 0 _⟩
set_option maxHeartbeats 4000000 in
theorem put_any (B b : Nat) (o : List Pc) (t : List UInt8) (x : Pc) (w : World) (h : JoinAt B b o t w) (hk : x.k ≠ 1) (hlen : t.length ≤ 100000000) (holen : o.length ≤ 1000000) (hBw : B ≤ w.heap.size) :
    Calls Tryz.prog 76 #[.pointer (some ⟨b, 0, none⟩), pcV x] w fun e w' => e = .returned (.tuple #[]) ∧ JoinAt B b (o ++ flush t ++ [x]) [] w' ∧ KeptBut B b w w' := by
  obtain ⟨i0, hi, hz0, hz1, hz2⟩ := info_parts info_pc
  have ag := Tryz.isAgg56
  have zg := Tryz.sizeOf56
  have hbx := below_box (w := w) (pcC x)
  have hblt := h.lt
  have hj := h.step hbx
  have hB1 : B ≤ (w.alloc (pcC x)).heap.size := Nat.le_trans hBw hbx.size
  have cE := endText_any B b o t _ hj hlen holen hB1
  have hX := Boxed.new w x
  have hfl : (o ++ flush t).length ≤ 1000001 := by unfold flush; split <;> simp <;> omega
  obtain ⟨hB, vo, vt, hbk, ho, ht⟩ := h
  have hvo := ho.lt
  have hkb : (x.k == 1) = false := beq_eq_false_iff_ne.2 hk
  have keep : Hid (∀ w2, Others b (w.alloc (pcC x)) w2 → Boxed w.heap.size x w2) := by
    intro w2 h2
    have e : w2.heap[w.heap.size]? = (w.alloc (pcC x)).heap[w.heap.size]? := h2.2 vo (by rw [Lib.cell_of_heap (show (w.alloc (pcC x)).heap[b]? = some (.cells #[vo, vt] 118 (0, 0)) by rw [Below.heap_alloc _ _ _ hblt]; exact hbk)]; rfl) _ (by simp) (by omega) (fun e => by have := (hvo _ e).2; omega)
    obtain ⟨x0, x1, x2, x3⟩ := hX
    exact ⟨(World.cell?_of_block (a := ⟨w.heap.size, 0, none⟩) e).trans x0, (World.cell?_of_block (a := ⟨w.heap.size, 1, none⟩) e).trans x1, (World.cell?_of_block (a := ⟨w.heap.size, 2, none⟩) e).trans x2, Nat.lt_of_lt_of_le (by simp) h2.1⟩
  have hBX := Lib.hid ((KeptBut.refl B b w).alloc hBw (pcC x))
  clear ho ht hvo hX hbx
  obtain ⟨k, s, c⟩ := x
  unfold pcV
  unfold pcC at cE keep hBX
  simp only at hkb
  have q0 := Lib.hid (show 0 < 3 by decide)
  have q1 := Lib.hid (show (o ++ flush t).length + 1 ≤ maxLen by unfold maxLen; omega)
  have q2 := Lib.hid (show ((o ++ flush t).length + 1) * 32 ≤ 140737488355328 by omega)
  have q6 := Lib.hid (show ∀ u ∈ ([.int .u8 k, .string s, .bool c] : List Value), u.oneCell' = true by intro u hu; simp at hu; rcases hu with rfl | rfl | rfl <;> rfl)
  have q7 := Lib.hid (show 0 < 1 by decide)
  have mid := Lib.hid (fun w2 hj2 hs2 => join_push B b (o ++ flush t) ⟨k, s, c⟩ w2 hj2 (Nat.le_trans hB1 hs2))
  clear hj hbk
  go_enter Tryz.func76, Tryz.ntmps76
  go_wp2_with (go_at_call 122; (with_reducible refine cE.mono ?_); rintro e w2 ⟨rfl, hj2, hb2, ho2⟩; obtain ⟨x0, x1, x2, x3⟩ := keep.out w2 ho2; have hbl2 := hj2.lt; have hm2 := mid.out w2 hj2 hb2.size; obtain ⟨q3, q4, vo2, q5, c02, M⟩ := hm2; have HB2 := Lib.hid (hBX.out.trans hb2); clear hj2 hb2 ho2)
  go_region_law (refine step_append_lies _ rfl (.tmp 17) (.tmp 19) 35 rfl B 56 i0 (.agg #[.int .u8 0, .string ⟨#[]⟩, .bool false]) 3 32 Tryz.underlying35 hi hz0 hz1 hz2 rfl q0.out vo2 (o ++ flush t).length (cells3 (o ++ flush t)) (by simp [Act.eval]) q5.out ⟨w2.heap.size, 0, none⟩ 1 1 [.int .u8 k, .string s, .bool c] (by simp [Act.eval]) rfl q4.out q6.out q7.out q1.out q2.out q3.out _ rfl ?_; intro g3 cap3 w3 hown3 hgrow3 hat3 hlt3; obtain ⟨e0, f0, HJ, HBEL⟩ := M.out g3 cap3 w3 hown3 hgrow3; clear hown3 hgrow3 hat3 hlt3)
  all_goals
    go_wp2
    go_end0
    rw [List.length_append] at HJ HBEL
    exact ⟨rfl, HJ.out, HB2.out.trans HBEL.out⟩
set_option maxHeartbeats 2000000 in
theorem done_any (B b : Nat) (o : List Pc) (t : List UInt8) (w : World) (h : JoinAt B b o t w) (hlen : t.length ≤ 100000000) (holen : o.length ≤ 1000000) (hBw : B ≤ w.heap.size) :
    Calls Tryz.prog 77 #[.pointer (some ⟨b, 0, none⟩)] w fun e w' => ∃ v, e = .returned v ∧ OwnP B v (o ++ flush t) w' ∧ KeptBut B b w w' := by
  have cE := endText_any B b o t _ h hlen holen hBw
  have open2 : Hid (∀ w2, JoinAt B b (o ++ flush t) [] w2 → ∃ vo, w2.cell? ⟨b, 0, none⟩ = some vo ∧ OwnP B vo (o ++ flush t) w2) := by
    rintro w2 ⟨_, vo, vt, hbk, ho, _⟩
    exact ⟨vo, by rw [Lib.cell_of_heap hbk]; rfl, ho⟩
  clear h
  go_enter Tryz.func77, Tryz.ntmps77
  go_wp2_with (go_at_call 122; (with_reducible refine cE.mono ?_); rintro e w2 ⟨rfl, hj2, hb2, ho2⟩; obtain ⟨vo, c0, hp⟩ := open2.out w2 hj2; have HP := Lib.hid hp; obtain ⟨ao, cap, rfl⟩ := HP.out.form; have HB := Lib.hid hb2; clear hj2 hb2 ho2 hp)
  go_ret
  exact ⟨.slice ao (o.length + (flush t).length) cap, rfl, by have h := HP.out; rw [List.length_append] at h; exact h, HB.out⟩
end Go.Proofs.YtnbeomclmggbiaaGreatDoor
namespace Go.Proofs.YtnbeomclmggbiaaGreatDoor
open Go Go.RowKit Go.Lib
set_option maxRecDepth 1000000
theorem conv_rune (r : Int) (w : World) : (convert 21 9 (.int .i32 r)).run Tryz.prog w = .ok (.string (Utf8.encode r)) w := by kernel_rfl
theorem enc_lit {r : Nat} {l : List UInt8} (h : (Utf8.encode (r : Int)).data.toList = l) : Utf8.encode (r : Int) = ⟨l.toArray⟩ := by
  rw [← h]
theorem far_byte {b : UInt8} (hb : 128 ≤ b.toNat) : ∀ n : Nat, n < 128 → ((n : Int) == (b.toNat : Int)) = false := fun n hn => beq_eq_false_iff_ne.2 (by omega)
set_option maxHeartbeats 4000000 in
theorem rune_none (w : World) : Calls Tryz.prog 151 #[.string ⟨#[92, 60, 123]⟩, .int .i32 65533] w fun e w' => e = .returned (.int .i64 (-1)) ∧ Below w.heap.size w w' := by
  go_enter Tryz.func151, Tryz.ntmps151
  go_wp2
  go_loopw [5, 6] (fun _ _ wr => ∃ pos : Nat, pos ≤ 3 ∧ wr.heap[w.heap.size]? = some (.stringIter ⟨#[92, 60, 123]⟩ pos) ∧ Hid (Below w.heap.size w wr)) (fun _ _ wr => 3 - wr.iterPos w.heap.size)
  case atStart => exact ⟨0, by omega, World.iter_heap w _ 0, (Below.refl _ _).alloc (Nat.le_refl _) _⟩
  case round =>
    obtain ⟨pos, hp3, hit, HB⟩ := hrel
    have hpos0 := iterPos_of hit
    by_cases hp : pos < 3
    · have hnx : ∀ ty, (Instr.next (.pointer (some ⟨w.heap.size, 0, none⟩)) true ty).run Tryz.prog wr = _ := fun ty => Lib.run_next_any_at wr w.heap.size ⟨#[92, 60, 123]⟩ pos ty hit hp
      have hdec : ∃ r, Utf8.decode ⟨#[92, 60, 123]⟩ pos = (r, 1) ∧ r < 128 := by
        have hpp : pos = 0 ∨ pos = 1 ∨ pos = 2 := by omega
        rcases hpp with rfl | rfl | rfl
        · exact ⟨92, by decide +kernel, by decide⟩
        · exact ⟨60, by decide +kernel, by decide⟩
        · exact ⟨123, by decide +kernel, by decide⟩
      obtain ⟨r, hr, hr128⟩ := hdec
      rw [hr] at hnx
      simp only at hnx
      have hit2 := Lib.iterAt_heap wr w.heap.size ⟨#[92, 60, 123]⟩ pos (pos + 1) hit
      have HB2 := Lib.hid (Lib.below_iterAt HB.out (k := w.heap.size) (Nat.le_refl _) ⟨#[92, 60, 123]⟩ (pos + 1))
      have hne : ((r : Int) == 65533) = false := beq_eq_false_iff_ne.2 (by omega)
      obtain ⟨W1, hW1⟩ : ∃ W1, W1 = wr.iterAt w.heap.size ⟨#[92, 60, 123]⟩ (pos + 1) := ⟨_, rfl⟩
      rw [← hW1] at hnx hit2 HB2
      clear hW1 hr HB
      go_wp2
      go_roundw
      case rel => exact ⟨pos + 1, by omega, hit2, HB2.out⟩
      case measure => rw [iterPos_of hit2, hpos0]; omega
    · have hnx : ∀ ty, (Instr.next (.pointer (some ⟨w.heap.size, 0, none⟩)) true ty).run Tryz.prog wr = _ := fun ty => Lib.run_next_end_at wr w.heap.size ⟨#[92, 60, 123]⟩ pos ty hit hp
      go_wp2
      go_ret
      exact ⟨rfl, HB.out⟩
theorem index_far {b : UInt8} (hb : 128 ≤ b.toNat) : ∀ {l : List UInt8}, (∀ c ∈ l, c.toNat < 128) → Lib.indexByte l b = -1
  | [], _ => rfl
  | c :: l, h => by
    have hc := h c (by simp)
    have ih := index_far hb (l := l) (fun c hc => h c (by simp [hc]))
    unfold Lib.indexByte
    rw [show (c == b) = false from beq_eq_false_iff_ne.2 (by rintro rfl; omega), ih]
    rfl
set_option maxHeartbeats 1000000 in
theorem validRune_any (r : Nat) (w : World) (hv : r < 55296 ∨ (57344 ≤ r ∧ r ≤ 1114111)) : Calls Tryz.prog 171 #[.int .i32 (r : Int)] w fun e w' => e = .returned (.bool true) ∧ w' = w := by
  by_cases h1 : (r : Int) < 55296
  · go_enter Tryz.func171, Tryz.ntmps171
    go_wp2
    go_ret
    exact ⟨rfl, rfl⟩
  · have h2 : (57343 : Int) < (r : Int) := by omega
    have h3 : (r : Int) ≤ 1114111 := by omega
    go_enter Tryz.func171, Tryz.ntmps171
    go_wp2
    go_ret
    exact ⟨rfl, rfl⟩
set_option maxHeartbeats 8000000 in
theorem rune_far (C : ByteArray) (r : Nat) (w : World) (hC : ∀ b ∈ C.data.toList, b.toNat < 128) (h : 128 ≤ r) (hv : r < 55296 ∨ (57344 ≤ r ∧ r ≤ 1114111)) (hne : r ≠ 65533) :
    Calls Tryz.prog 151 #[.string C, .int .i32 (r : Int)] w fun e w' => e = .returned (.int .i64 (-1)) ∧ ∃ n, w' = w.drewN n := by
  have hn : ((r : Int) == 65533) = false := beq_eq_false_iff_ne.2 (by omega)
  have h128 : ¬ (r : Int) < 128 := by omega
  have cV := fun w => validRune_any r w hv
  obtain ⟨e2, e4, el⟩ := encode_facts (r : Int) (by rw [validRune_eq]; unfold validRune; simp; omega) (by omega)
  generalize hE : Utf8.encode (r : Int) = E at e2 e4 el
  obtain ⟨m, hm⟩ : ∃ m, E.size = m + 1 := ⟨E.size - 1, by omega⟩
  have hmE : m < E.size := by omega
  have el' : 128 ≤ (E[m]'hmE).toNat := by
    have := el (by omega)
    simp only [hm, Nat.add_sub_cancel] at this
    exact this
  obtain ⟨b, hb⟩ : ∃ b, E[m]'hmE = b := ⟨_, rfl⟩
  rw [hb] at el'
  have hwr : IntKind.i64.wrap (m : Int) = (m : Int) := by rw [IntKind.wrap_i64]; omega
  have hwr1 : IntKind.i64.wrap ((m : Int) + 1) = (m : Int) + 1 := by rw [IntKind.wrap_i64]; omega
  have hix0 : (0 : Int) ≤ (m : Int) := by omega
  have hix1 : (m : Int) < (m : Int) + 1 := by omega
  have hix2 : (0 : Int) ≤ (m : Int) + 1 := by omega
  have htn : ((m : Int) + 1).toNat = m + 1 := by omega
  clear el hv hne h e2
  by_cases hlt : m < C.size
  · have hltI : (m : Int) < (C.size : Int) := by omega
    have hltI1 : (m : Int) + 1 ≤ (C.size : Int) := by omega
    obtain ⟨c, hc⟩ : ∃ c, C[m]'hlt = c := ⟨_, rfl⟩
    have hc128 : c.toNat < 128 := hC c (by rw [← hc]; show C.data[m] ∈ _; exact Array.mem_toList_iff.mpr (Array.getElem_mem _))
    have hneq : ((c.toNat : Int) == (b.toNat : Int)) = false := beq_eq_false_iff_ne.2 (by omega)
    have cI := fun w => strings_IndexByte (C.extract (m + 1) C.size) (b.toNat : Int) w
    rw [show ((b.toNat : Int)).toNat.toUInt8 = b by simp, index_far el' (fun d hd => hC d (mem_extract hd))] at cI
    clear hC hc128 el'
    generalize (r : Int) = z at *
    go_enter Tryz.func151, Tryz.ntmps151
    go_wp2_with (go_at_call 171; (with_reducible refine (cV _).mono ?_); rintro e w2 ⟨rfl, hw⟩; obtain rfl := hw.symm)
    go_step3
    go_wp2
    go_loopw [9, 10] (fun i f wr => i = .int .i64 m ∧ f = .int .i64 0 ∧ wr = w) (fun _ _ _ => 0)
    case atStart => exact ⟨rfl, rfl, rfl⟩
    case round =>
      obtain ⟨rfl, rfl, rfl⟩ := hrel
      go_wp2
      go_step3
      go_wp2
      go_quiet (fail)
      obtain ⟨w9, hw9⟩ : ∃ w9, w9 = wr.drewN nq := ⟨_, rfl⟩
      rw [← hw9]
      have HW := Lib.hid hw9
      clear hw9
      go_wp2
      go_quiet ((go_at_call 115; refine Calls.quiet_of_same (cI _)))
      go_wp2
      simp only [Exit.noGoto_ret, Exit.inBlock]
      change bodyPost Tryz.prog Tryz.f151 (fun e w' => e = .returned (.int .i64 (-1)) ∧ ∃ n, w' = wr.drewN n) Exit.ret _ _
      go_ret
      exact ⟨rfl, _, by rw [HW.out, World.drewN_drewN]⟩
  · have hltI : ¬ (m : Int) < (C.size : Int) := by omega
    clear hC el'
    generalize (r : Int) = z at *
    go_enter Tryz.func151, Tryz.ntmps151
    go_wp2_with (go_at_call 171; (with_reducible refine (cV _).mono ?_); rintro e w2 ⟨rfl, hw⟩; obtain rfl := hw.symm)
    go_step3
    go_wp2
    go_loopw [9, 10] (fun i f wr => i = .int .i64 m ∧ f = .int .i64 0 ∧ wr = w) (fun _ _ _ => 0)
    case atStart => exact ⟨rfl, rfl, rfl⟩
    case round =>
      obtain ⟨rfl, rfl, rfl⟩ := hrel
      go_wp2
      simp only [Exit.noGoto_ret, Exit.inBlock]
      go_ret
      exact ⟨rfl, 0, rfl⟩
theorem decodeN_facts (n b0 b1 b2 b3 : Nat) (h : 128 ≤ b0) (h0 : b0 < 256) : 128 ≤ (decodeN n b0 b1 b2 b3).1 ∧ ((decodeN n b0 b1 b2 b3).1 < 55296 ∨ (57344 ≤ (decodeN n b0 b1 b2 b3).1 ∧ (decodeN n b0 b1 b2 b3).1 ≤ 1114111)) ∧
    (decodeN n b0 b1 b2 b3).2 ≤ 4 ∧ (1 < (decodeN n b0 b1 b2 b3).2 → 128 ≤ b1) ∧ (2 < (decodeN n b0 b1 b2 b3).2 → 128 ≤ b2) ∧ (3 < (decodeN n b0 b1 b2 b3).2 → 128 ≤ b3) := by
  unfold decodeN
  rw [if_neg (by omega)]
  repeat' split
  all_goals (simp only []; omega)
/-- one of the three special bytes -/
theorem contains3 (b : UInt8) : ([92, 60, 123] : List UInt8).contains b = special b := by
  unfold special
  rw [Bool.eq_iff_iff]
  simp
  exact ⟨fun h => by rcases h with h | h | h <;> simp [h], fun h => by rcases h with (h | h) | h <;> simp [h]⟩
theorem get_list (s : ByteArray) (i : Nat) (h : i < s.size) : s.get! i = s.data.toList.getD i 0 := by
  show s.data[i]! = _
  rw [getElem!_pos s.data i h, List.getD_eq_getElem?_getD, List.getElem?_eq_getElem (by simpa using h)]
  simp
theorem decode_far {s : ByteArray} {pos : Nat} (h : 128 ≤ (s.get! pos).toNat) : 128 ≤ (Utf8.decode s pos).1 ∧ ((Utf8.decode s pos).1 < 55296 ∨ (57344 ≤ (Utf8.decode s pos).1 ∧ (Utf8.decode s pos).1 ≤ 1114111)) ∧ (NoAny s.data.toList [92, 60, 123] pos → NoAny s.data.toList [92, 60, 123] (pos + (Utf8.decode s pos).2)) := by
  rw [decode_at]
  obtain ⟨h1, h2, h3, h4, h5, h6⟩ := decodeN_facts (s.size - pos) (s.get! pos).toNat (s.get! (pos + 1)).toNat (s.get! (pos + 2)).toNat (s.get! (pos + 3)).toNat h (UInt8.toNat_lt _)
  refine ⟨h1, h2, fun hno j b hj hb => ?_⟩
  have hjs : j < s.size := (List.getElem?_eq_some_iff.1 hb).1
  have hbj : b = s.get! j := by
    rw [get_list s j hjs, List.getD_eq_getElem?_getD, hb]; rfl
  by_cases hlt : j < pos
  · exact hno j b hlt hb
  · have hb128 : 128 ≤ b.toNat := by
      rw [hbj]
      have hjj : j = pos ∨ j = pos + 1 ∨ j = pos + 2 ∨ j = pos + 3 := by omega
      rcases hjj with rfl | rfl | rfl | rfl
      · exact h
      · exact h4 (by omega)
      · exact h5 (by omega)
      · exact h6 (by omega)
    rw [contains3]
    unfold special
    have e : ∀ k : UInt8, k.toNat < 128 → (b == k) = false := fun k hk => beq_eq_false_iff_ne.2 (by rintro rfl; omega)
    rw [e 92 (by decide), e 60 (by decide), e 123 (by decide)]
    rfl
theorem decode_near {s : ByteArray} {pos : Nat} (h : (s.get! pos).toNat < 128) : Utf8.decode s pos = ((s.get! pos).toNat, 1) := by
  rw [decode_at]; unfold decodeN; rw [if_pos h]
theorem indexRune3_any (r : Nat) (w : World) (hv : r < 55296 ∨ (57344 ≤ r ∧ r ≤ 1114111)) :
    Calls Tryz.prog 151 #[.string ⟨#[92, 60, 123]⟩, .int .i32 (r : Int)] w fun e w' => (∃ z : Int, e = .returned (.int .i64 z) ∧ (0 ≤ z ↔ r < 128 ∧ special (UInt8.ofNat r) = true)) ∧ Below w.heap.size w w' := by
  by_cases h : r < 128
  · refine (strings_IndexRune_ascii ⟨#[92, 60, 123]⟩ (r : Int) w (by omega) (by omega)).mono ?_
    rintro e w' ⟨rfl, rfl⟩
    refine ⟨⟨_, rfl, ?_⟩, Below.refl _ _⟩
    have hc := contains_iff_indexByte [92, 60, 123] ((r : Int).toNat.toUInt8)
    rw [contains3] at hc
    have e1 : (r : Int).toNat.toUInt8 = UInt8.ofNat r := rfl
    rw [e1] at hc ⊢
    constructor
    · intro h0; exact ⟨h, by rw [hc]; exact decide_eq_true h0⟩
    · rintro ⟨_, h1⟩; rw [hc] at h1; exact of_decide_eq_true h1
  · have hfin : ∀ {e : Ending} {w' : World}, e = .returned (.int .i64 (-1)) → Below w.heap.size w w' → (∃ z : Int, e = .returned (.int .i64 z) ∧ (0 ≤ z ↔ r < 128 ∧ special (UInt8.ofNat r) = true)) ∧ Below w.heap.size w w' := fun he hb =>
      ⟨⟨-1, he, by constructor <;> intro h0 <;> omega⟩, hb⟩
    by_cases h2 : r = 65533
    · subst h2
      exact (rune_none w).mono fun e w' ⟨he, hb⟩ => hfin he hb
    · refine (rune_far ⟨#[92, 60, 123]⟩ r w (by decide) (by omega) hv h2).mono ?_
      rintro e w' ⟨he, n, rfl⟩
      exact hfin he ⟨rfl, rfl, rfl, Nat.le_refl _, fun _ _ => rfl⟩
theorem zero_set (w : World) : (zeroValue 197).run Tryz.prog w = .ok (.agg (Array.replicate 256 (.bool false))) w := by kernel_rfl
set_option maxHeartbeats 8000000 in
theorem indexAny_any (s : ByteArray) (w : World) (hs : s.size ≤ 100000) :
    Calls Tryz.prog 113 #[.string s, .string ⟨#[92, 60, 123]⟩] w fun e w' => e = .returned (.int .i64 (Lib.indexAny s.data.toList [92, 60, 123])) ∧ Below w.heap.size w w' := by
  by_cases h8 : 8 < s.size
  · refine (strings_IndexAny_long zero_set s ⟨#[92, 60, 123]⟩ w (by decide) h8 (by omega) (by decide) ?_).mono ?_
    · intro j b hj
      have := List.mem_of_getElem? hj
      simp only [List.mem_cons, List.not_mem_nil, or_false] at this
      rcases this with rfl | rfl | rfl <;> decide
    · rintro e w' ⟨rfl, rfl⟩
      exact ⟨rfl, ((Below.refl _ _).alloc (Nat.le_refl _) _).alloc (by simp) _⟩
  · have h8z : ¬ (8 : Int) < (s.size : Int) := by omega
    go_enter Tryz.func113, Tryz.ntmps113
    go_wp2
    go_loopw [9, 10] (fun _ _ wr => ∃ pos : Nat, wr.heap[w.heap.size]? = some (.stringIter s pos) ∧ Hid (Below w.heap.size w wr) ∧ Hid (NoAny s.data.toList [92, 60, 123] pos)) (fun _ _ wr => s.size - wr.iterPos w.heap.size)
    case atStart => exact ⟨0, World.iter_heap w _ 0, (Below.refl _ _).alloc (Nat.le_refl _) _, NoAny.zero _ _⟩
    case round =>
      obtain ⟨pos, hit, HB, HN⟩ := hrel
      have hpos0 := iterPos_of hit
      by_cases hp : pos < s.size
      · have hnx : ∀ ty, (Instr.next (.pointer (some ⟨w.heap.size, 0, none⟩)) true ty).run Tryz.prog wr = _ := fun ty => Lib.run_next_any_at wr w.heap.size s pos ty hit hp
        have hwd := width_pos s pos
        have hit2 := Lib.iterAt_heap wr w.heap.size s pos (pos + (Utf8.decode s pos).2) hit
        have HB2 := Lib.hid (Lib.below_iterAt HB.out (k := w.heap.size) (Nat.le_refl _) s (pos + (Utf8.decode s pos).2))
        obtain ⟨W1, hW1⟩ : ∃ W1, W1 = wr.iterAt w.heap.size s (pos + (Utf8.decode s pos).2) := ⟨_, rfl⟩
        rw [← hW1] at hnx hit2 HB2
        clear hW1 HB
        have hg : s.data.toList[pos]? = some (s.get! pos) := by
          rw [get_list s pos hp, List.getD_eq_getElem?_getD, List.getElem?_eq_getElem (by simpa using hp)]; simp
        by_cases hn : (s.get! pos).toNat < 128
        · have hd := decode_near (s := s) hn
          rw [hd] at hnx hit2 hwd
          simp only at hnx hit2 hwd
          have cR := fun w => indexRune3_any (s.get! pos).toNat w (by omega)
          rw [UInt8.ofNat_toNat] at cR
          cases hsp : special (s.get! pos)
          · have HN2 := Lib.hid (HN.out.succ hg (by rw [contains3]; exact hsp))
            rw [hsp] at cR
            clear hd hn hsp HN hg
            generalize (s.get! pos).toNat = r at *
            go_wp2_with (go_at_call 151; (with_reducible refine (cR _).mono ?_); rintro e w2 ⟨⟨z, rfl, hz⟩, hb2⟩; have hz' : ¬ (0 : Int) ≤ z := (fun h0 => Bool.noConfusion (hz.1 h0).2); have hit3 := (hb2.block w.heap.size (lt_of_block hit2)).trans hit2; have HB3 := Lib.hid (below_next HB2.out hb2); clear hz hb2)
            go_roundw
            case rel => exact ⟨pos + 1, hit3, HB3.out, HN2.out⟩
            case measure => rw [iterPos_of hit3, hpos0]; omega
          · have HX := Lib.hid (indexAny_hit HN.out hg (by rw [contains3]; exact hsp))
            rw [hsp] at cR
            have HH := Lib.hid hn
            clear hd hn hsp HN hg
            generalize (s.get! pos).toNat = r at *
            go_wp2_with (go_at_call 151; (with_reducible refine (cR _).mono ?_); rintro e w2 ⟨⟨z, rfl, hz⟩, hb2⟩; have hz' : (0 : Int) ≤ z := hz.2 ⟨HH.out, rfl⟩; have HB3 := Lib.hid (below_next HB2.out hb2); clear hz hb2)
            go_ret
            exact ⟨by rw [HX.out]; rfl, HB3.out⟩
        · obtain ⟨h1, h2, h3⟩ := decode_far (s := s) (pos := pos) (by omega)
          have HN2 := Lib.hid (h3 HN.out)
          have cR := fun w => indexRune3_any (Utf8.decode s pos).1 w h2
          have H1 := Lib.hid h1
          clear h1 h2 h3 hn HN hg
          generalize (Utf8.decode s pos).1 = r at *
          generalize (Utf8.decode s pos).2 = d at *
          go_wp2_with (go_at_call 151; (with_reducible refine (cR _).mono ?_); rintro e w2 ⟨⟨z, rfl, hz⟩, hb2⟩; have hz' : ¬ (0 : Int) ≤ z := (fun h0 => by have := (hz.1 h0).1; have := H1.out; omega); have hit3 := (hb2.block w.heap.size (lt_of_block hit2)).trans hit2; have HB3 := Lib.hid (below_next HB2.out hb2); clear hz hb2)
          go_roundw
          case rel => exact ⟨pos + d, hit3, HB3.out, HN2.out⟩
          case measure => rw [iterPos_of hit3, hpos0]; omega
      · have hnx : ∀ ty, (Instr.next (.pointer (some ⟨w.heap.size, 0, none⟩)) true ty).run Tryz.prog wr = _ := fun ty => Lib.run_next_end_at wr w.heap.size s pos ty hit hp
        have HX := Lib.hid (indexAny_none (s := s.data.toList) (chars := [92, 60, 123]) (fun j b hj hb => HN.out j b (by have := size_eq s; omega) hb))
        clear HN
        go_wp2
        go_ret
        exact ⟨by rw [HX.out]; rfl, HB.out⟩
end Go.Proofs.YtnbeomclmggbiaaGreatDoor
namespace Go.Proofs.YtnbeomclmggbiaaGreatDoor
open Go Go.RowKit Go.Lib
set_option maxRecDepth 1000000
theorem results_ct {fn : Func} {p u : Tmp} {ty : TypeId} (h : fn.results = #[.cell p ty, .tmp u]) {tmps : Array Value} {P : Program} {w : World} {a : Addr} {xs : List Value}
    (ha : tmps.getD p undef = .pointer (some a)) (iy : ∀ w, (isAgg ty).run P w = .ok true w) (sy : ∀ w, (sizeOf ty).run P w = .ok xs.length w)
    (cx : ∀ j v, xs[j]? = some v → w.cell? (a.add j) = some v) :
    (results fn tmps).run P w = .ok (.tuple #[.agg xs.toArray, tmps.getD u undef]) w := by
  have hx := run_loadCells_list (P := P) w a xs cx
  rw [results_cell_tmp h, ha]
  simp [Result.andThen, asAddr, loadVar, iy, sy, hx]
theorem three_cells {w : World} {n : Nat} {v0 v1 v2 : Value} (h0 : w.cell? ⟨n, 0, none⟩ = some v0) (h1 : w.cell? ⟨n, 1, none⟩ = some v1) (h2 : w.cell? ⟨n, 2, none⟩ = some v2) : ∀ j v, [v0, v1, v2][j]? = some v → w.cell? ((⟨n, 0, none⟩ : Addr).add j) = some v := by
  intro j v hj
  match j, hj with
  | 0, hj => simp only [List.getElem?_cons_zero, Option.some.injEq] at hj; subst hj; exact h0
  | 1, hj => simp only [List.getElem?_cons_succ, List.getElem?_cons_zero, Option.some.injEq] at hj; subst hj; exact h1
  | 2, hj => simp only [List.getElem?_cons_succ, List.getElem?_cons_zero, Option.some.injEq] at hj; subst hj; exact h2
/-- one of the six notations -/
def NT (m : Nat) (k : Int) (c : Bool) (b e : ByteArray) : Prop :=
  (m = 0 ∧ k = 2 ∧ c = false ∧ b = ⟨#[60]⟩ ∧ e = ⟨#[62]⟩) ∨ (m = 1 ∧ k = 2 ∧ c = true ∧ b = ⟨#[60, 43]⟩ ∧ e = ⟨#[62]⟩) ∨ (m = 2 ∧ k = 3 ∧ c = false ∧ b = ⟨#[60, 47]⟩ ∧ e = ⟨#[62]⟩) ∨
  (m = 3 ∧ k = 3 ∧ c = true ∧ b = ⟨#[60, 47, 43]⟩ ∧ e = ⟨#[62]⟩) ∨ (m = 4 ∧ k = 4 ∧ c = false ∧ b = ⟨#[60]⟩ ∧ e = ⟨#[47, 62]⟩) ∨ (m = 5 ∧ k = 5 ∧ c = false ∧ b = ⟨#[123]⟩ ∧ e = ⟨#[125]⟩)
theorem NT.mark {m : Nat} {k : Int} {c : Bool} {b e : ByteArray} (h : NT m k c b e) (n : ByteArray) : wB ⟨k, n, c⟩ = b.data.toList ++ n.data.toList ++ e.data.toList ∧ k ≠ 1 ∧ (nameB n = true → pieceE ⟨k, n, c⟩ = 0) := by
  rcases h with ⟨_, rfl, rfl, rfl, rfl⟩ | ⟨_, rfl, rfl, rfl, rfl⟩ | ⟨_, rfl, rfl, rfl, rfl⟩ | ⟨_, rfl, rfl, rfl, rfl⟩ | ⟨_, rfl, rfl, rfl, rfl⟩ | ⟨_, rfl, rfl, rfl, rfl⟩ <;>
    exact ⟨by simp [wB, markA, markZ], by decide, fun hn => by simp [pieceE, hn]⟩
theorem NT.all {x : Pc} {s : List UInt8} (h : Mk x s) : ∃ m b e, m < 6 ∧ NT m x.k x.c b e := by
  obtain ⟨_, _, hk⟩ := h.kinds
  obtain ⟨k, n, c⟩ := x
  simp only at hk ⊢
  rcases hk with ⟨rfl, _⟩ | ⟨rfl, _⟩ | ⟨rfl, rfl, _⟩ | ⟨rfl, rfl, _⟩
  · cases c
    · exact ⟨0, _, _, by decide, .inl ⟨rfl, rfl, rfl, rfl, rfl⟩⟩
    · exact ⟨1, _, _, by decide, .inr (.inl ⟨rfl, rfl, rfl, rfl, rfl⟩)⟩
  · cases c
    · exact ⟨2, _, _, by decide, .inr (.inr (.inl ⟨rfl, rfl, rfl, rfl, rfl⟩))⟩
    · exact ⟨3, _, _, by decide, .inr (.inr (.inr (.inl ⟨rfl, rfl, rfl, rfl, rfl⟩)))⟩
  · exact ⟨4, _, _, by decide, .inr (.inr (.inr (.inr (.inl ⟨rfl, rfl, rfl, rfl, rfl⟩))))⟩
  · exact ⟨5, _, _, by decide, .inr (.inr (.inr (.inr (.inr ⟨rfl, rfl, rfl, rfl, rfl⟩))))⟩
/-- what is left of a text between two others -/
def inner (b e s : ByteArray) : ByteArray := ⟨(trimSuffix (trimPrefix s.data.toList b.data.toList) e.data.toList).toArray⟩
def fitsB (b e s : ByteArray) : Bool := hasPrefix s.data.toList b.data.toList && (hasSuffix (trimPrefix s.data.toList b.data.toList) e.data.toList && nameB (inner b e s))
theorem fits_mid {b n e : List UInt8} {l : List UInt8} (h : l = b ++ n ++ e) : hasPrefix l b = true ∧ hasSuffix (trimPrefix l b) e = true ∧ trimSuffix (trimPrefix l b) e = n := by
  subst h
  have h1 : hasPrefix (b ++ n ++ e) b = true := by
    unfold hasPrefix
    rw [List.isPrefixOf_iff_prefix, List.append_assoc]
    exact List.prefix_append _ _
  have h2 : trimPrefix (b ++ n ++ e) b = n ++ e := by
    unfold trimPrefix
    rw [if_pos h1, List.append_assoc, List.drop_left]
  have h3 : hasSuffix (n ++ e) e = true := by
    unfold hasSuffix
    rw [List.isSuffixOf_iff_suffix]
    exact List.suffix_append _ _
  refine ⟨h1, by rw [h2]; exact h3, ?_⟩
  rw [h2]
  unfold trimSuffix
  rw [if_pos h3, List.length_append, Nat.add_sub_cancel, List.take_left]
theorem mid_fits {b e l : List UInt8} (h1 : hasPrefix l b = true) (h2 : hasSuffix (trimPrefix l b) e = true) : l = b ++ trimSuffix (trimPrefix l b) e ++ e := by
  have h1' := h1
  unfold hasPrefix at h1'
  rw [List.isPrefixOf_iff_prefix] at h1'
  obtain ⟨r, rfl⟩ := h1'
  have h3 : trimPrefix (b ++ r) b = r := by
    unfold trimPrefix
    rw [if_pos h1, List.drop_left]
  rw [h3] at h2 ⊢
  have h2' := h2
  unfold hasSuffix at h2'
  rw [List.isSuffixOf_iff_suffix] at h2'
  obtain ⟨n, rfl⟩ := h2'
  have h4 : trimSuffix (n ++ e) e = n := by
    unfold trimSuffix
    rw [if_pos h2, List.length_append, Nat.add_sub_cancel, List.take_left]
  rw [h4, List.append_assoc]
theorem fits_mk {m : Nat} {k : Int} {c : Bool} {b e s : ByteArray} (h : NT m k c b e) (hf : fitsB b e s = true) : Mk ⟨k, inner b e s, c⟩ s.data.toList := by
  unfold fitsB at hf
  simp only [Bool.and_eq_true] at hf
  obtain ⟨h1, h2, h3⟩ := hf
  obtain ⟨k1, k2, k3⟩ := h.mark (inner b e s)
  exact ⟨k2, k3 h3, by rw [k1]; exact mid_fits h1 h2⟩
theorem mk_fits {x : Pc} {m : Nat} {b e s : ByteArray} (h : Mk x s.data.toList) (hn : NT m x.k x.c b e) : fitsB b e s = true := by
  obtain ⟨k1, _, _⟩ := hn.mark x.s
  obtain ⟨h1, h2, h3⟩ := fits_mid (h.2.2.trans k1)
  unfold fitsB inner
  rw [h1, h2, h3]
  exact h.kinds.1
theorem NT.uniq {m : Nat} {k k' : Int} {c c' : Bool} {b b' e e' : ByteArray} (h : NT m k c b e) (h' : NT m k' c' b' e') : b = b' ∧ e = e' := by
  unfold NT at h h'
  rcases h with ⟨rfl, _, _, rfl, rfl⟩ | ⟨rfl, _, _, rfl, rfl⟩ | ⟨rfl, _, _, rfl, rfl⟩ | ⟨rfl, _, _, rfl, rfl⟩ | ⟨rfl, _, _, rfl, rfl⟩ | ⟨rfl, _, _, rfl, rfl⟩ <;> simp at h' <;> simp [h']
/-- no notation before the m-th one fits -/
def NoFit (s : ByteArray) (m : Nat) : Prop := ∀ j k c b e, j < m → NT j k c b e → fitsB b e s = false
theorem NoFit.none {s : ByteArray} (h : NoFit s 6) : ∀ x, ¬ Mk x s.data.toList := by
  intro x hx
  obtain ⟨m, b, e, hm, hn⟩ := NT.all hx
  have := h m _ _ b e hm hn
  rw [mk_fits hx hn] at this
  cases this
theorem NoFit.succ {s : ByteArray} {m : Nat} {k : Int} {c : Bool} {b e : ByteArray} (h : NoFit s m) (hn : NT m k c b e) (hf : fitsB b e s = false) : NoFit s (m + 1) := by
  intro j k' c' b' e' hj hn'
  by_cases hjm : j = m
  · subst hjm
    obtain ⟨rfl, rfl⟩ := hn.uniq hn'
    exact hf
  · exact h j k' c' b' e' (by omega) hn'
theorem ntV (m : Nat) (hm : m < 6) : ∃ k c b e, NT m k c b e ∧ ∀ w, (Instr.index 159 (.agg ntA) (.int .i64 (m : Int))).run Tryz.prog w = .ok (.agg #[.int .u8 k, .bool c, .string b, .string e]) w := by
  have h6 : m = 0 ∨ m = 1 ∨ m = 2 ∨ m = 3 ∨ m = 4 ∨ m = 5 := by omega
  rcases h6 with rfl | rfl | rfl | rfl | rfl | rfl
  · exact ⟨_, _, _, _, .inl ⟨rfl, rfl, rfl, rfl, rfl⟩, ix0⟩
  · exact ⟨_, _, _, _, .inr (.inl ⟨rfl, rfl, rfl, rfl, rfl⟩), ix1⟩
  · exact ⟨_, _, _, _, .inr (.inr (.inl ⟨rfl, rfl, rfl, rfl, rfl⟩)), ix2⟩
  · exact ⟨_, _, _, _, .inr (.inr (.inr (.inl ⟨rfl, rfl, rfl, rfl, rfl⟩))), ix3⟩
  · exact ⟨_, _, _, _, .inr (.inr (.inr (.inr (.inl ⟨rfl, rfl, rfl, rfl, rfl⟩)))), ix4⟩
  · exact ⟨_, _, _, _, .inr (.inr (.inr (.inr (.inr ⟨rfl, rfl, rfl, rfl, rfl⟩)))), ix5⟩
theorem set3_cells {w : World} {b : Nat} {u0 u1 u2 : Value} {t : TypeId} (h : w.heap[b]? = some (.cells #[u0, u1, u2] t (0, 0))) (v0 v1 v2 : Value) :
    (((w.setCell ⟨b, 0, none⟩ v0).setCell ⟨b, 1, none⟩ v1).setCell ⟨b, 2, none⟩ v2).heap[b]? = some (.cells #[v0, v1, v2] t (0, 0)) := by
  simp [World.setCell, Array.getElem?_modify, h]
def pcZ : Obj := .cells #[.int .u8 0, .string ⟨#[]⟩, .bool false] 56 (0, 0)
/-- what readMark returns -/
def MarkEnd (s : ByteArray) (e : Ending) : Prop := ∃ x ok, e = .returned (.tuple #[pcV x, .bool ok]) ∧ (ok = true → Mk x s.data.toList) ∧ (ok = false → ∀ y, ¬ Mk y s.data.toList)
set_option maxHeartbeats 8000000 in
theorem readMark_any (s : ByteArray) (w : World) (hs : s.size ≤ 140737488355328) (hN : Nts w) :
    Calls Tryz.prog 103 #[.string s] w fun e w' => MarkEnd s e ∧ Below w.heap.size w w' := by
  have ag := Tryz.isAgg56
  have zg := Tryz.sizeOf56
  have ag2 := Tryz.isAgg158
  have zg2 := Tryz.sizeOf158
  have hb0 := below_box (w := w) pcZ
  obtain ⟨_, t0, fr0, hg0⟩ := hN.step hb0
  have HB := Lib.hid hb0
  have HZ := Lib.hid (show (w.alloc pcZ).heap[w.heap.size]? = some pcZ by show (w.heap.push _)[_]? = _; simp)
  clear hb0 hN
  unfold pcZ at hg0 HB HZ
  go_enter Tryz.func103, Tryz.ntmps103
  go_wp2_with (refine wpList_load_row rfl 159 _ rfl 1 rfl t0 _ fr0 _ hg0 Tryz.underlying159 rfl (by kernel_rfl) ?_)
  go_loopw [11] (fun i wr => ∃ m : Nat, m ≤ 6 ∧ i = .int .i64 m ∧ Hid (wr.heap[w.heap.size]? = some (.cells #[.int .u8 0, .string ⟨#[]⟩, .bool false] 56 (0, 0))) ∧ Hid (Below w.heap.size w wr) ∧ Hid (NoFit s m)) (fun i _ => 6 - (RowKit.intOf i).toNat)
  case atStart => exact ⟨0, by omega, rfl, HZ.out, HB.out, fun _ _ _ _ _ h => absurd h (Nat.not_lt_zero _)⟩
  case round =>
    obtain ⟨m, hm, rfl, HC, HB1, HF⟩ := hrel
    clear HB HZ hg0
    by_cases hlt : m < 6
    · obtain ⟨k, c, b, e, hnt, hix⟩ := ntV m hlt
      have hltI : (m : Int) < 6 := by omega
      have cP := fun w => strings_CutPrefix s b w
      have cS := fun w => strings_CutSuffix ⟨(trimPrefix s.data.toList b.data.toList).toArray⟩ e w (by have := trimPrefix_le s.data.toList b.data.toList; have := size_eq s; simp [ByteArray.size]; omega)
      have HI := Lib.hid (show fitsB b e s = (hasPrefix s.data.toList b.data.toList && (hasSuffix (trimPrefix s.data.toList b.data.toList) e.data.toList && nameB (inner b e s))) from rfl)
      have cN := fun w => isName_any (inner b e s) w (by unfold maxLen; have h1 := trimPrefix_le s.data.toList b.data.toList; have h2 := trimSuffix_le (trimPrefix s.data.toList b.data.toList) e.data.toList; have := size_eq s; unfold inner; simp [ByteArray.size]; omega)
      have HC2 := Lib.hid (fun o => (Below.heap_alloc wr o w.heap.size (lt_of_block HC.out)).trans HC.out)
      have hlw := lt_of_block HC.out
      have HC0 := HC
      have HB2 := Lib.hid (fun o => below_next HB1.out (below_box (w := wr) o))
      have HNT := Lib.hid hnt
      clear hnt HC
      have hi2 : Hid (inner b e s = ⟨(trimSuffix (trimPrefix s.data.toList b.data.toList) e.data.toList).toArray⟩) := rfl
      rw [← hi2.out] at cS
      generalize inner b e s = n at *
      generalize hasPrefix s.data.toList b.data.toList = p1 at cP HI
      generalize hasSuffix (trimPrefix s.data.toList b.data.toList) e.data.toList = p2 at cS HI
      generalize nameB n = p3 at cN HI
      generalize (⟨(trimPrefix s.data.toList b.data.toList).toArray⟩ : ByteArray) = s1 at cP cS
      have hh := HC2.out (.cells #[.int .u8 k, .bool c, .string b, .string e] 158)
      have f0 : wr.frozen? ⟨w.heap.size, 0, none⟩ = false := Lib.frozen_of_heap HC0.out 0
      have f1 : wr.frozen? ⟨w.heap.size, 1, none⟩ = false := Lib.frozen_of_heap HC0.out 1
      have f2 : wr.frozen? ⟨w.heap.size, 2, none⟩ = false := Lib.frozen_of_heap HC0.out 2
      have c0 : wr.cell? ⟨w.heap.size, 0, none⟩ = some (.int .u8 0) := by rw [Lib.cell_of_heap HC0.out]; rfl
      have c1 : wr.cell? ⟨w.heap.size, 1, none⟩ = some (.string ⟨#[]⟩) := by rw [Lib.cell_of_heap HC0.out]; rfl
      have c2 : wr.cell? ⟨w.heap.size, 2, none⟩ = some (.bool false) := by rw [Lib.cell_of_heap HC0.out]; rfl
      have HH := Lib.hid hh
      clear hh
      cases p1 <;> cases p2 <;> cases p3
      rotate_left 7
      · have HT := Lib.hid (fits_mk HNT.out (HI.out.trans rfl))
        go_wp2_with (first
          | (go_at_call 147; (with_reducible refine (cP _).mono ?_); rintro e2 w2 ⟨rfl, hw⟩; obtain rfl := hw.symm)
          | (go_at_call 148; (with_reducible refine (cS _).mono ?_); rintro e2 w2 ⟨rfl, hw⟩; obtain rfl := hw.symm)
          | (go_at_call 143; (with_reducible refine (cN _).mono ?_); rintro e2 w2 ⟨rfl, hw⟩; obtain rfl := hw.symm))
        have h3 := set3_cells HC0.out (.int .u8 k) (.string n) (.bool c)
        have h4 : ((((wr.setCell ⟨w.heap.size, 0, none⟩ (.int .u8 k)).setCell ⟨w.heap.size, 1, none⟩ (.string n)).setCell ⟨w.heap.size, 2, none⟩ (.bool c)).alloc (.cells #[.int .u8 k, .bool c, .string b, .string e] 158)).heap[w.heap.size]? = _ := (Below.heap_alloc _ _ _ (lt_of_block h3)).trans h3
        refine bodyPost_ret (results_ct (xs := [.int .u8 k, .string n, .bool c]) rfl rfl ag zg (three_cells (by rw [Lib.cell_of_heap h4]; rfl) (by rw [Lib.cell_of_heap h4]; rfl) (by rw [Lib.cell_of_heap h4]; rfl))) rfl ⟨⟨⟨k, n, c⟩, true, rfl, fun _ => ?_, fun h => Bool.noConfusion h⟩, ?_⟩
        · have := HT.out
          rw [show inner b e s = n from hi2.out.symm] at this
          exact this
        · have hz : w.heap.size ≤ (((wr.setCell ⟨w.heap.size, 0, none⟩ (.int .u8 k)).setCell ⟨w.heap.size, 1, none⟩ (.string n)).setCell ⟨w.heap.size, 2, none⟩ (.bool c)).heap.size := Nat.le_of_lt (lt_of_block h3)
          exact (((HB1.out.setCell (p := ⟨w.heap.size, 0, none⟩) (Nat.le_refl _) _).setCell (p := ⟨w.heap.size, 1, none⟩) (Nat.le_refl _) _).setCell (p := ⟨w.heap.size, 2, none⟩) (Nat.le_refl _) _).alloc hz _
      all_goals
        have HT := Lib.hid (HF.out.succ HNT.out (HI.out.trans rfl))
        go_wp2_with (first
          | (go_at_call 147; (with_reducible refine (cP _).mono ?_); rintro e2 w2 ⟨rfl, hw⟩; obtain rfl := hw.symm)
          | (go_at_call 148; (with_reducible refine (cS _).mono ?_); rintro e2 w2 ⟨rfl, hw⟩; obtain rfl := hw.symm)
          | (go_at_call 143; (with_reducible refine (cN _).mono ?_); rintro e2 w2 ⟨rfl, hw⟩; obtain rfl := hw.symm))
        go_roundw
        case rel => exact ⟨m + 1, by omega, by go_num, HH.out, HB2.out _, HT.out⟩
        case measure => simp [RowKit.intOf]; omega
    · have hm6 : m = 6 := by omega
      have HX := Lib.hid (hm6 ▸ HF.out : NoFit s 6).none
      have hltI : ¬ (m : Int) < 6 := by omega
      have hlw := lt_of_block HC.out
      have f0 : wr.frozen? ⟨w.heap.size, 0, none⟩ = false := Lib.frozen_of_heap HC.out 0
      have f1 : wr.frozen? ⟨w.heap.size, 1, none⟩ = false := Lib.frozen_of_heap HC.out 1
      have f2 : wr.frozen? ⟨w.heap.size, 2, none⟩ = false := Lib.frozen_of_heap HC.out 2
      have c0 : wr.cell? ⟨w.heap.size, 0, none⟩ = some (.int .u8 0) := by rw [Lib.cell_of_heap HC.out]; rfl
      have c1 : wr.cell? ⟨w.heap.size, 1, none⟩ = some (.string ⟨#[]⟩) := by rw [Lib.cell_of_heap HC.out]; rfl
      have c2 : wr.cell? ⟨w.heap.size, 2, none⟩ = some (.bool false) := by rw [Lib.cell_of_heap HC.out]; rfl
      clear HF
      go_wp2
      have h3 := set3_cells HC.out (.int .u8 0) (.string ⟨#[]⟩) (.bool false)
      refine bodyPost_ret (results_ct (xs := [.int .u8 0, .string ⟨#[]⟩, .bool false]) rfl rfl ag zg (three_cells (by rw [Lib.cell_of_heap h3]; rfl) (by rw [Lib.cell_of_heap h3]; rfl) (by rw [Lib.cell_of_heap h3]; rfl))) rfl ?_
      refine ⟨⟨⟨0, ⟨#[]⟩, false⟩, false, rfl, fun h => Bool.noConfusion h, fun _ => HX.out⟩, ?_⟩
      exact ((HB1.out.setCell (p := ⟨w.heap.size, 0, none⟩) (Nat.le_refl _) _).setCell (p := ⟨w.heap.size, 1, none⟩) (Nat.le_refl _) _).setCell (p := ⟨w.heap.size, 2, none⟩) (Nat.le_refl _) _
end Go.Proofs.YtnbeomclmggbiaaGreatDoor
namespace Go.Proofs.YtnbeomclmggbiaaGreatDoor
open Go Go.RowKit Go.Lib
set_option maxRecDepth 1000000
/-- As Q; by a goto: what J says of its label. -/
def jumps (J : Nat → Act → World → Prop) (Q : Exit → Act → World → Prop) : Exit → Act → World → Prop
  | .goto l, a, w => J l a w
  | e, a, w => Q e a w
theorem jumps_mono {J J' : Nat → Act → World → Prop} {Q : Exit → Act → World → Prop} (h : ∀ l a w, J l a w → J' l a w) {e : Exit} {a : Act} {w : World} (hj : jumps J Q e a w) : jumps J' Q e a w := by
  cases e <;> first | exact h _ _ _ hj | exact hj
/-- a scope with several labels: what holds at each jump, and a measure that every pass from a label lowers -/
theorem wp_scope_labels {P : Program} {a : Act} {w : World} {Q : Exit → Act → World → Prop} {c : Code} (J : Nat → Act → World → Prop) (μ : Nat → Act → World → Nat)
    (pass0 : ∀ l a w, J l a w → ∃ rest, findLabel c l = some (.seq .skip rest) ∧ rest.wp P (jumps (fun l' a' w' => J l' a' w' ∧ μ l' a' w' < μ l a w) Q) a w)
    (first : (∀ l a w, J l a w → ∃ rest, findLabel c l = some (.seq .skip rest) ∧ rest.wp P (jumps J Q) a w) → c.wp P (jumps J Q) a w) : (Code.scope c).wp P Q a w := by
  have first' := first fun l a w hJ => by
    obtain ⟨rest, hf, hw⟩ := pass0 l a w hJ
    refine ⟨rest, hf, fun b k cs => ?_⟩
    obtain ⟨e, a1, w1, hq, harr⟩ := hw b k cs
    exact ⟨e, a1, w1, jumps_mono (fun _ _ _ h => h.1) hq, harr⟩
  have pass : ∀ l a w, J l a w → ∃ rest, findLabel c l = some rest ∧ rest.wp P (jumps (fun l' a' w' => J l' a' w' ∧ μ l' a' w' < μ l a w) Q) a w := fun l a w hJ => by
    obtain ⟨rest, hf, hw⟩ := pass0 l a w hJ
    refine ⟨_, hf, ?_⟩
    apply wp_seq_k
    intro K hK
    apply wp_skip
    exact hK _ _ hw
  intro b k cs
  have key : ∀ n l a w, μ l a w = n → J l a w → ∃ rest e a' w', findLabel c l = some rest ∧ Q e a' w' ∧ Arrives P (lone (b.at a (.code rest :: .inScope c :: k)) cs w) b k cs e a' w' := by
    intro n
    induction n using Nat.strongRecOn with
    | _ n ih =>
      intro l a w hn hJ
      obtain ⟨rest, hf, hw⟩ := pass l a w hJ
      obtain ⟨e, a1, w1, hq, harr⟩ := hw b (.inScope c :: k) cs
      cases e with
      | normal => exact ⟨rest, .normal, a1, w1, hf, hq, Steps.trans harr (.one step_inScope)⟩
      | exit id => exact ⟨rest, .exit id, a1, w1, hf, hq, fun k' hk => harr k' (by simp [exitTo, hk])⟩
      | goto l' =>
        obtain ⟨hJ', hlt⟩ := hq
        obtain ⟨rest', e2, a2, w2, hf', hq2, harr2⟩ := ih _ (by omega) l' a1 w1 rfl hJ'
        have hg : gotoIn l' (.inScope c :: k) = some (.code rest' :: .inScope c :: k) := by simp [gotoIn, hf']
        exact ⟨rest, e2, a2, w2, hf, hq2, .of_steps (harr _ hg) harr2⟩
      | ret => exact ⟨rest, _, a1, w1, hf, hq, harr⟩
      | panic ch => exact ⟨rest, _, a1, w1, hf, hq, harr⟩
      | outgrown => exact ⟨rest, _, a1, w1, hf, hq, harr⟩
  obtain ⟨e, a1, w1, hq, harr⟩ := first' b (.inScope c :: k) cs
  cases e with
  | normal => exact ⟨.normal, a1, w1, hq, .head step_scope (Steps.trans harr (.one step_inScope))⟩
  | exit id => exact ⟨.exit id, a1, w1, hq, fun k' hk => .head step_scope (harr k' (by simp [exitTo, hk]))⟩
  | goto l' =>
    obtain ⟨rest', e2, a2, w2, hf', hq2, harr2⟩ := key _ l' a1 w1 rfl hq
    have hg : gotoIn l' (.inScope c :: k) = some (.code rest' :: .inScope c :: k) := by simp [gotoIn, hf']
    exact ⟨e2, a2, w2, hq2, .of_steps (.head step_scope (harr _ hg)) harr2⟩
  | ret => exact ⟨_, a1, w1, hq, .of_steps (.one step_scope) harr⟩
  | panic ch => exact ⟨_, a1, w1, hq, .of_steps (.one step_scope) harr⟩
  | outgrown => exact ⟨_, a1, w1, hq, .of_steps (.one step_scope) harr⟩
/-- the frame at a label -/
def SpF (rest : ByteArray) (b p : Nat) (u6 : Value) (a : Act) : Prop := ∃ u1 u5 u8 u9 u10 u11 u12 u13 u14 u15 u16 u17 u18 u19 u20 u21 u22 u23 u24 u25 u26 u27 u28 u29 u30 u31 u32 u33 u34 u35 u36 u37 u38 u39 u40 u41 u42 u43 u44 u45 u46 u47 u48 u49 u50 u51 u52 u53 u54 u55 u56 u57 u58 u59 u60 u61 u62 u63 u64 : Value, a = { tmps := #[.string rest, u1, .slice none 0 0, .bool false, .pointer (some ⟨b, 0, none⟩), u5, u6, .pointer (some ⟨p, 0, none⟩), u8, u9, u10, u11, u12, u13, u14, u15, u16, u17, u18, u19, u20, u21, u22, u23, u24, u25, u26, u27, u28, u29, u30, u31, u32, u33, u34, u35, u36, u37, u38, u39, u40, u41, u42, u43, u44, u45, u46, u47, u48, u49, u50, u51, u52, u53, u54, u55, u56, u57, u58, u59, u60, u61, u62, u63, u64], defers := [] }
/-- how far the splitting has come -/
structure SpI (s : ByteArray) (w : World) (rest : ByteArray) (o : List Pc) (t : List UInt8) (wr : World) : Prop where
  tx : textB s = true
  st : St s.data.toList o t rest.data.toList
  join : JoinAt (w.heap.size + 2) w.heap.size o t wr
  below : Below w.heap.size w wr
  box : ∃ x0 x1 x2, wr.heap[w.heap.size + 1]? = some (.cells #[x0, x1, x2] 56 (0, 0))
  size : w.heap.size + 2 ≤ wr.heap.size
  few : bulk o + 2 * t.length + 2 * rest.size ≤ 2 * s.size
def SpJ (s : ByteArray) (w : World) (l : Nat) (a : Act) (wr : World) : Prop :=
  ∃ rest o t, SpI s w rest o t wr ∧ ((l = 0 ∧ ∃ u6, SpF rest w.heap.size (w.heap.size + 1) u6 a) ∨ (l = 1 ∧ (∃ u6, SpF rest w.heap.size (w.heap.size + 1) u6 a) ∧ ∀ c ∈ rest.data.toList, special c = false) ∨
    (l = 2 ∧ ∃ c r u6, rest.data.toList = c :: r ∧ (c = 60 ∨ c = 123) ∧ u6 = .int .u8 ((endOf c).toNat : Int) ∧ SpF rest w.heap.size (w.heap.size + 1) u6 a))
def strLen : Value → Nat
  | .string s => s.size
  | _ => 0
def SpM (l : Nat) (a : Act) (_ : World) : Nat := 3 * strLen (a.tmps.getD 0 undef) + (if l = 0 then 2 else if l = 2 then 1 else 0)
theorem SpI.step {s : ByteArray} {w : World} {rest : ByteArray} {o : List Pc} {t : List UInt8} {wr w2 : World} (h : SpI s w rest o t wr) (hb : Below wr.heap.size wr w2) : SpI s w rest o t w2 := by
  obtain ⟨h0, h1, h2, h3, ⟨x0, x1, x2, h4⟩, h5, h6⟩ := h
  exact ⟨h0, h1, h2.step hb, below_next h3 hb, ⟨x0, x1, x2, by rw [hb.block _ (lt_of_block h4)]; exact h4⟩, Nat.le_trans h5 hb.size, h6⟩
/-- behind a call of the joiner -/
theorem SpI.joined {s : ByteArray} {w : World} {rest rest' : ByteArray} {o o' : List Pc} {t t' : List UInt8} {wr w2 : World} (h : SpI s w rest o t wr) (hj : JoinAt (w.heap.size + 2) w.heap.size o' t' w2) (hk : KeptBut (w.heap.size + 2) w.heap.size wr w2)
    (hs : St s.data.toList o' t' rest'.data.toList) (hf : bulk o' + 2 * t'.length + 2 * rest'.size ≤ 2 * s.size) : SpI s w rest' o' t' w2 := by
  obtain ⟨h0, h1, h2, h3, ⟨x0, x1, x2, h4⟩, h5, h6⟩ := h
  exact ⟨h0, hs, hj, h3.trans (hk.below (by omega) (Nat.le_refl _)), ⟨x0, x1, x2, by rw [hk.block _ (by omega) (by omega)]; exact h4⟩, Nat.le_trans h5 hk.size, hf⟩
theorem at_label {P : Program} {c rest0 : Code} {l : Nat} {J : Nat → Act → World → Prop} {Q : Exit → Act → World → Prop} {a : Act} {w : World} (HP : ∀ l a w, J l a w → ∃ rest, findLabel c l = some (.seq .skip rest) ∧ rest.wp P (jumps J Q) a w) (hf : findLabel c l = some (.seq .skip rest0)) (hJ : J l a w) : rest0.wp P (jumps J Q) a w := by
  obtain ⟨r, h1, h2⟩ := HP l a w hJ
  rw [hf] at h1
  cases h1
  exact h2
theorem JoinAt.setOther {R b p : Nat} {o : List Pc} {t : List UInt8} {w : World} (h : JoinAt R b o t w) (hp : p < R) (hpb : p ≠ b) (j : Nat) (v : Value) : JoinAt R b o t (w.setCell ⟨p, j, none⟩ v) := by
  obtain ⟨h0, vo, vt, h1, h2, h3⟩ := h
  refine ⟨h0, vo, vt, by rw [Below.heap_setCell _ _ _ _ (fun e => hpb e.symm)]; exact h1, World.ownsRow.kept h2 (grown_setCell w p j v) (.inr fun e => ?_), World.ownsRow.kept h3 (grown_setCell w p j v) (.inr fun e => ?_)⟩
  · have := (h2.lt _ e).1; omega
  · have := (h3.lt _ e).1; omega
/-- a piece is stored in the variable that holds one -/
theorem SpI.set {s : ByteArray} {w : World} {rest : ByteArray} {o : List Pc} {t : List UInt8} {wr : World} (h : SpI s w rest o t wr) (v0 v1 v2 : Value) :
    SpI s w rest o t (((wr.setCell ⟨w.heap.size + 1, 0, none⟩ v0).setCell ⟨w.heap.size + 1, 1, none⟩ v1).setCell ⟨w.heap.size + 1, 2, none⟩ v2) := by
  obtain ⟨h0, h1, h2, h3, ⟨x0, x1, x2, h4⟩, h5, h6⟩ := h
  exact ⟨h0, h1, ((h2.setOther (by omega) (by omega) _ _).setOther (by omega) (by omega) _ _).setOther (by omega) (by omega) _ _,
    ((h3.setCell (p := ⟨w.heap.size + 1, 0, none⟩) (Nat.le_succ _) _).setCell (p := ⟨w.heap.size + 1, 1, none⟩) (Nat.le_succ _) _).setCell (p := ⟨w.heap.size + 1, 2, none⟩) (Nat.le_succ _) _,
    ⟨v0, v1, v2, set3_cells h4 v0 v1 v2⟩, by simpa [World.setCell] using h5, h6⟩
theorem SpI.begin {s : ByteArray} {w w2 : World} (hx : textB s = true) (hb : Below ((w.alloc (.cells #[.slice none 0 0, .slice none 0 0] 118)).alloc (.cells #[.int .u8 0, .string ⟨#[]⟩, .bool false] 56)).heap.size ((w.alloc (.cells #[.slice none 0 0, .slice none 0 0] 118)).alloc (.cells #[.int .u8 0, .string ⟨#[]⟩, .bool false] 56)) w2) : SpI s w s [] [] w2 := by
  have h0 : SpI s w s [] [] ((w.alloc (.cells #[.slice none 0 0, .slice none 0 0] 118)).alloc (.cells #[.int .u8 0, .string ⟨#[]⟩, .bool false] 56)) := by
    refine ⟨hx, St.start _, ⟨Nat.zero_le _, .slice none 0 0, .slice none 0 0, ?_, OwnP.nil _ _, OwnB.nil _ _⟩, ((Below.refl _ _).alloc (Nat.le_refl _) _).alloc (by simp) _, ⟨.int .u8 0, .string ⟨#[]⟩, .bool false, ?_⟩, by simp, by simp [bulk]⟩
    · rw [Below.heap_alloc _ _ _ (by simp)]
      show (w.heap.push _)[_]? = _
      simp
    · show ((w.alloc _).heap.push _)[w.heap.size + 1]? = _
      have : (w.alloc (.cells #[.slice none 0 0, .slice none 0 0] 118)).heap.size = w.heap.size + 1 := by simp
      rw [← this]
      exact Array.getElem?_push_size
  exact h0.step hb
theorem end60 : (Value.int .u8 62) = .int .u8 ((endOf 60).toNat : Int) := by kernel_rfl
theorem end123 : (Value.int .u8 125) = .int .u8 ((endOf 123).toNat : Int) := by kernel_rfl
theorem bulk_app (l m : List Pc) : bulk (l ++ m) = bulk l + bulk m := by
  unfold bulk; simp; omega
theorem bsize (l : List UInt8) : (bytes l).size = l.length := by unfold bytes; simp [ByteArray.size]
theorem bulk_flush (t : List UInt8) : bulk (flush t) ≤ 2 * t.length := by
  unfold flush
  split
  · simp [bulk]
  · rename_i h
    have := List.length_pos_iff.2 h
    simp [bulk, bsize]; omega
theorem bulk_len (l : List Pc) : l.length ≤ bulk l := by unfold bulk; omega
/-- the first special byte, or none -/
theorem first_special : ∀ L : List UInt8, ((∀ c ∈ L, special c = false) ∧ indexAny L [92, 60, 123] = -1) ∨ ∃ pre c r, L = pre ++ c :: r ∧ (∀ d ∈ pre, special d = false) ∧ special c = true ∧ indexAny L [92, 60, 123] = (pre.length : Int)
  | [] => .inl ⟨by simp, rfl⟩
  | b :: l => by
    unfold indexAny
    rw [contains3]
    cases hb : special b
    · rcases first_special l with ⟨h1, h2⟩ | ⟨pre, c, r, rfl, h1, h2, h3⟩
      · left
        refine ⟨fun c hc => ?_, by rw [h2]; rfl⟩
        rcases List.mem_cons.1 hc with rfl | hc
        · exact hb
        · exact h1 c hc
      · right
        refine ⟨b :: pre, c, r, rfl, fun d hd => ?_, h2, ?_⟩
        · rcases List.mem_cons.1 hd with rfl | hd
          · exact hb
          · exact h1 d hd
        · rw [h3]
          have : ((pre.length : Int) == -1) = false := beq_eq_false_iff_ne.2 (by omega)
          simp [this]
    · right
      exact ⟨[], b, l, rfl, by simp, hb, rfl⟩
theorem extract_list (s : ByteArray) (i j : Nat) : (s.extract i j).data.toList = (s.data.toList.take j).drop i := by
  rw [ByteArray.data_extract, Array.toList_extract]
  simp [List.drop_take]
theorem MarkEnd.none {m : ByteArray} {e : Ending} (h : MarkEnd m e) (hn : ∀ x, ¬ Mk x m.data.toList) : ∃ x : Pc, e = .returned (.tuple #[.agg #[.int .u8 x.k, .string x.s, .bool x.c], .bool false]) := by
  obtain ⟨x, ok, rfl, h1, _⟩ := h
  cases ok
  · exact ⟨x, rfl⟩
  · exact absurd (h1 rfl) (hn x)
theorem MarkEnd.some {m : ByteArray} {e : Ending} {x : Pc} (h : MarkEnd m e) (hx : Mk x m.data.toList) : e = .returned (.tuple #[.agg #[.int .u8 x.k, .string x.s, .bool x.c], .bool true]) := by
  obtain ⟨y, ok, rfl, h1, h2⟩ := h
  cases ok
  · exact absurd hx (h2 rfl x)
  · rw [(h1 rfl).uniq hx]; rfl
theorem Mk.size {x : Pc} {l : List UInt8} (h : Mk x l) : x.s.size + 2 ≤ l.length := by
  obtain ⟨_, hs, hk⟩ := h.kinds
  have e : x.s.data.toList.length = x.s.size := rfl
  rw [hs, List.length_append, List.length_append, e]
  rcases hk with ⟨_, h1, h2⟩ | ⟨_, h1, h2⟩ | ⟨_, _, h1, h2⟩ | ⟨_, _, h1, h2⟩ <;> rw [h1, h2]
  · cases x.c <;> simp <;> omega
  · cases x.c <;> simp <;> omega
  · simp <;> omega
  · simp <;> omega
theorem SpI.cells {s : ByteArray} {w : World} {rest : ByteArray} {o : List Pc} {t : List UInt8} {wr : World} (h : SpI s w rest o t wr) : ∃ x0 x1 x2, wr.cell? ⟨w.heap.size + 1, 0, none⟩ = some x0 ∧ wr.cell? ⟨w.heap.size + 1, 1, none⟩ = some x1 ∧ wr.cell? ⟨w.heap.size + 1, 2, none⟩ = some x2 ∧
    wr.frozen? ⟨w.heap.size + 1, 0, none⟩ = false ∧ wr.frozen? ⟨w.heap.size + 1, 1, none⟩ = false ∧ wr.frozen? ⟨w.heap.size + 1, 2, none⟩ = false := by
  obtain ⟨x0, x1, x2, hb⟩ := h.box
  exact ⟨x0, x1, x2, by rw [Lib.cell_of_heap hb]; rfl, by rw [Lib.cell_of_heap hb]; rfl, by rw [Lib.cell_of_heap hb]; rfl, Lib.frozen_of_heap hb 0, Lib.frozen_of_heap hb 1, Lib.frozen_of_heap hb 2⟩
/-- what split returns -/
def SplitEnd (s : ByteArray) (e : Ending) (w' : World) : Prop :=
  (∃ v l, readV s = some l ∧ e = .returned (.tuple #[v, .bool true]) ∧ OwnP 0 v l w' ∧ bulk l ≤ 2 * s.size) ∨ (readV s = none ∧ e = .returned (.tuple #[.slice none 0 0, .bool false]))
end Go.Proofs.YtnbeomclmggbiaaGreatDoor
namespace Go.Proofs.YtnbeomclmggbiaaGreatDoor
open Go Go.RowKit Go.Lib
set_option maxRecDepth 1000000
set_option maxHeartbeats 16000000 in
theorem split_any (s : ByteArray) (w : World) (hs : s.size ≤ 100000) (hT : Tabs w) (hN : Nts w) :
    Calls Tryz.prog 67 #[.string s] w fun e w' => SplitEnd s e w' ∧ Below w.heap.size w w' := by
  have ag := Tryz.isAgg56
  have zg := Tryz.sizeOf56
  have hb1 : Below w.heap.size w ((w.alloc (.cells #[.slice none 0 0, .slice none 0 0] 118)).alloc (.cells #[.int .u8 0, .string ⟨#[]⟩, .bool false] 56)) := ((Below.refl _ _).alloc (Nat.le_refl _) _).alloc (by simp) _
  have cT := isText_any s _ (by unfold maxLen; omega) (hT.step hb1)
  have HB1 := Lib.hid hb1
  have HTT := Lib.hid hT
  have HN := Lib.hid hN
  clear hb1 hT hN
  go_enter Tryz.func67, Tryz.ntmps67
  go_wp2
  refine wp_scope_labels (SpJ s w) SpM ?pass ?first
  case first =>
    intro hpass
    have HP := Lib.hid hpass
    clear hpass
    cases htx : textB s
    · rw [htx] at cT
      go_wp2_with (go_at_call 112; (with_reducible refine cT.mono ?_); rintro e w2 ⟨rfl, hb2⟩; have HB2 := Lib.hid (below_next HB1.out (hb2.mono (Nat.le_refl _))); clear hb2)
      simp only [jumps]
      go_ret2
      exact ⟨.inr ⟨readV_not (.inl htx), rfl⟩, HB2.out⟩
    · rw [htx] at cT
      have HX := Lib.hid htx
      clear htx
      go_wp2_with (go_at_call 112; (with_reducible refine cT.mono ?_); rintro e w2 ⟨rfl, hb2⟩; have HB2 := Lib.hid hb2; clear hb2)
      refine wp_label ?_
      go_step
      go_step
      refine at_label HP.out (l := 0) rfl ⟨s, [], [], ?_, .inl ⟨rfl, _, _, _, _, _, _, _, _, _, _, _, _, _, _, _, _, _, _, _, _, _, _, _, _, _, _, _, _, _, _, _, _, _, _, _, _, _, _, _, _, _, _, _, _, _, _, _, _, _, _, _, _, _, _, _, _, _, _, _, _, rfl⟩⟩
      exact SpI.begin HX.out HB2.out
  case pass =>
    clear cT HB1
    intro l a wr hJ
    obtain ⟨rest, o, t, hI, hJ⟩ := hJ
    have HI := Lib.hid hI
    have hfew := hI.few
    have hol := bulk_len o
    clear hI
    rcases hJ with ⟨rfl, u6, u1, u5, u8, u9, u10, u11, u12, u13, u14, u15, u16, u17, u18, u19, u20, u21, u22, u23, u24, u25, u26, u27, u28, u29, u30, u31, u32, u33, u34, u35, u36, u37, u38, u39, u40, u41, u42, u43, u44, u45, u46, u47, u48, u49, u50, u51, u52, u53, u54, u55, u56, u57, u58, u59, u60, u61, u62, u63, u64, rfl⟩ | ⟨rfl, ⟨u6, u1, u5, u8, u9, u10, u11, u12, u13, u14, u15, u16, u17, u18, u19, u20, u21, u22, u23, u24, u25, u26, u27, u28, u29, u30, u31, u32, u33, u34, u35, u36, u37, u38, u39, u40, u41, u42, u43, u44, u45, u46, u47, u48, u49, u50, u51, u52, u53, u54, u55, u56, u57, u58, u59, u60, u61, u62, u63, u64, rfl⟩, hno⟩ | ⟨rfl, c, r, u6, hL, hc, hu6, u1, u5, u8, u9, u10, u11, u12, u13, u14, u15, u16, u17, u18, u19, u20, u21, u22, u23, u24, u25, u26, u27, u28, u29, u30, u31, u32, u33, u34, u35, u36, u37, u38, u39, u40, u41, u42, u43, u44, u45, u46, u47, u48, u49, u50, u51, u52, u53, u54, u55, u56, u57, u58, u59, u60, u61, u62, u63, u64, rfl⟩
    · refine ⟨_, rfl, ?_⟩
      have cI := fun w2 => indexAny_any rest w2 (by omega)
      rcases first_special rest.data.toList with ⟨hno, hix⟩ | ⟨pre, c, r, hL, hpre, hsp, hix⟩
      · rw [hix] at cI
        have HNO := Lib.hid hno
        clear hno hix
        go_wp2_with (go_at_call 113; (with_reducible refine (cI _).mono ?_); rintro e w2 ⟨rfl, hb2⟩; have HI2 := Lib.hid (HI.out.step hb2); clear hb2)
        go_step3
        exact ⟨⟨rest, o, t, HI2.out, .inr (.inl ⟨rfl, ⟨_, _, _, _, _, _, _, _, _, _, _, _, _, _, _, _, _, _, _, _, _, _, _, _, _, _, _, _, _, _, _, _, _, _, _, _, _, _, _, _, _, _, _, _, _, _, _, _, _, _, _, _, _, _, _, _, _, _, _, _, rfl⟩, HNO.out⟩)⟩, by simp [SpM, strLen]⟩
      · have hls : rest.size = pre.length + (r.length + 1) := by rw [size_eq, hL]; simp
        rw [hix] at cI
        obtain ⟨r1, e1⟩ : ∃ r1, rest.extract 0 pre.length = r1 := ⟨_, rfl⟩
        obtain ⟨r2, e2⟩ : ∃ r2, rest.extract pre.length rest.size = r2 := ⟨_, rfl⟩
        have h1 : r1.data.toList = pre := by rw [← e1, extract_list, hL]; simp
        have h2 : r2.data.toList = c :: r := by rw [← e2, extract_list, hls, show pre.length + (r.length + 1) = (pre ++ c :: r).length by simp, hL, List.take_length, List.drop_left]
        have hz1 : r1.size = pre.length := by rw [size_eq, h1]
        have hz2 : r2.size = r.length + 1 := by rw [size_eq, h2]; rfl
        have hst : St s.data.toList o (t ++ r1.data.toList) r2.data.toList := by
          rw [h1, h2]
          exact St.plain (by rw [← hL]; exact HI.out.st) hpre
        have HST := Lib.hid hst
        have H2 := Lib.hid h2
        have cU := fun w2 (h : SpI s w rest o t w2) => putText_any (w.heap.size + 2) w.heap.size o t r1 w2 h.join (by omega) h.size
        have hk0 : (0 : Int) ≤ (pre.length : Int) := by omega
        have hk1 : (pre.length : Int) ≤ (rest.size : Int) := by omega
        have hk2 : (0 : Int) < (r2.size : Int) := by omega
        have hk3 : ¬ ((pre.length : Int) < 0) := by omega
        have g0 : ∀ h, r2[0]'h = c := fun h => by
          have : r2.data.toList[0]? = some c := by rw [h2]; rfl
          rw [Lib.data_getElem? r2 0 h] at this
          exact Option.some.inj this
        have hr2 : 0 < r2.size := by omega
        have g1 := g0 hr2
        have HFW : Hid (bulk o + 2 * (t ++ r1.data.toList).length + 2 * r2.size ≤ 2 * s.size) := by
          show _ ≤ _
          rw [List.length_append, h1]; omega
        have HLT : Hid (r2.size ≤ rest.size) := by show _ ≤ _; omega
        have HLS := Lib.hid hls
        have HZ2 := Lib.hid hz2
        clear hst h1 h2 hpre hL hix g0 hls hz1 hz2
        rcases special_cases hsp with rfl | hc
        · cases r with
          | nil =>
            have hk4 : (r2.size : Int) < 2 := by have := HZ2.out; simp at this; omega
            have HNO := Lib.hid (St.esc_bad (r := []) (show St s.data.toList o (t ++ r1.data.toList) [92] by have := HST.out; rw [H2.out] at this; exact this) (by decide))
            go_wp2_with (first
              | (go_at_call 113; (with_reducible refine (cI _).mono ?_); rintro e w2 ⟨rfl, hb2⟩; have hi2 := HI.out.step hb2; have cU2 := cU w2 hi2; have HI2 := Lib.hid hi2; clear hi2 hb2)
              | (go_at_call 106; (with_reducible refine cU2.mono ?_); rintro e w3 ⟨rfl, hj3, hk3'⟩; have HI3 := Lib.hid (HI2.out.joined hj3 hk3' HST.out HFW.out); clear hj3 hk3'))
            simp only [jumps]
            go_ret2
            exact ⟨.inr ⟨readV_not (.inr HNO.out), rfl⟩, HI3.out.below⟩
          | cons d r =>
            have hk4 : ¬ (r2.size : Int) < 2 := by have := HZ2.out; simp at this; omega
            have hk5 : (1 : Int) < (r2.size : Int) := by omega
            have hk6 : (2 : Int) ≤ (r2.size : Int) := by omega
            have g5 : ∀ h, r2[1]'h = d := fun h => by
              have : r2.data.toList[1]? = some d := by rw [H2.out]; rfl
              rw [Lib.data_getElem? r2 1 h] at this
              exact Option.some.inj this
            have g6 := g5 (by omega)
            clear g5
            have cS := fun w => isSpecial_any d w
            cases hd : special d
            · rw [hd] at cS
              have HNO := Lib.hid (St.esc_bad (r := d :: r) (show St s.data.toList o (t ++ r1.data.toList) (92 :: d :: r) by have := HST.out; rw [H2.out] at this; exact this) hd)
              clear hd
              go_wp2_with (first
                | (go_at_call 113; (with_reducible refine (cI _).mono ?_); rintro e w2 ⟨rfl, hb2⟩; have hi2 := HI.out.step hb2; have cU2 := cU w2 hi2; have HI2 := Lib.hid hi2; clear hi2 hb2)
                | (go_at_call 106; (with_reducible refine cU2.mono ?_); rintro e w3 ⟨rfl, hj3, hk3'⟩; have HI3 := Lib.hid (HI2.out.joined hj3 hk3' HST.out HFW.out); clear hj3 hk3')
                | (go_at_call 114; (with_reducible refine (cS _).mono ?_); rintro e w4 ⟨rfl, hw⟩; obtain rfl := hw.symm))
              simp only [jumps]
              go_ret2
              exact ⟨.inr ⟨readV_not (.inr HNO.out), rfl⟩, HI3.out.below⟩
            · rw [hd] at cS
              obtain ⟨r3, e3⟩ : ∃ r3, r2.extract 1 2 = r3 := ⟨_, rfl⟩
              obtain ⟨r4, e4⟩ : ∃ r4, r2.extract 2 r2.size = r4 := ⟨_, rfl⟩
              have h3 : r3.data.toList = [d] := by rw [← e3, extract_list, H2.out]; rfl
              have h4 : r4.data.toList = r := by rw [← e4, extract_list, HZ2.out, H2.out]; simp
              have hz3 : r3.size = 1 := by rw [size_eq, h3]; rfl
              have hz4 : r4.size = r.length := by rw [size_eq, h4]
              have HST4 := Lib.hid (show St s.data.toList o (t ++ r1.data.toList ++ r3.data.toList) r4.data.toList by rw [h3, h4]; exact St.esc (by have := HST.out; rw [H2.out] at this; exact this) hd)
              have HFW4 : Hid (bulk o + 2 * (t ++ r1.data.toList ++ r3.data.toList).length + 2 * r4.size ≤ 2 * s.size) := by
                show _ ≤ _
                have := HFW.out
                have := HZ2.out
                rw [List.length_append, h3]; simp at *; omega
              have HLT4 : Hid (r4.size < rest.size) := by
                have := HLT.out
                have := HZ2.out
                show _ < _
                simp at *; omega
              have hl4 : (t ++ r1.data.toList).length + r3.size ≤ 100000000 := by have := HFW.out; omega
              have cU3 := fun w3 (h : SpI s w r2 o (t ++ r1.data.toList) w3) => putText_any (w.heap.size + 2) w.heap.size o (t ++ r1.data.toList) r3 w3 h.join hl4 h.size
              clear hd h3 h4 hz3 hz4 hl4
              go_wp2_with (first
                | (go_at_call 113; (with_reducible refine (cI _).mono ?_); rintro e w2 ⟨rfl, hb2⟩; have hi2 := HI.out.step hb2; have cU2 := cU w2 hi2; have HI2 := Lib.hid hi2; clear hi2 hb2)
                | (go_at_call 106; (with_reducible refine (cU3 w3 HI3.out).mono ?_); rintro e w4 ⟨rfl, hj4, hk4'⟩; have HI4 := Lib.hid (HI3.out.joined hj4 hk4' HST4.out HFW4.out); clear hj4 hk4')
                | (go_at_call 106; (with_reducible refine cU2.mono ?_); rintro e w3 ⟨rfl, hj3, hk3'⟩; have HI3 := Lib.hid (HI2.out.joined hj3 hk3' HST.out HFW.out); clear hj3 hk3')
                | (go_at_call 114; (with_reducible refine (cS _).mono ?_); rintro e w4 ⟨rfl, hw⟩; obtain rfl := hw.symm))
              go_step3
              exact ⟨⟨r4, o, _, HI4.out, .inl ⟨rfl, _, _, _, _, _, _, _, _, _, _, _, _, _, _, _, _, _, _, _, _, _, _, _, _, _, _, _, _, _, _, _, _, _, _, _, _, _, _, _, _, _, _, _, _, _, _, _, _, _, _, _, _, _, _, _, _, _, _, _, _, rfl⟩⟩, by have := HLT4.out; simp [SpM, strLen]; omega⟩
        · rcases hc with rfl | rfl
          · go_wp2_with (first
              | (go_at_call 113; (with_reducible refine (cI _).mono ?_); rintro e w2 ⟨rfl, hb2⟩; have hi2 := HI.out.step hb2; have cU2 := cU w2 hi2; have HI2 := Lib.hid hi2; clear hi2 hb2)
              | (go_at_call 106; (with_reducible refine cU2.mono ?_); rintro e w3 ⟨rfl, hj3, hk3'⟩; have HI3 := Lib.hid (HI2.out.joined hj3 hk3' HST.out HFW.out); clear hj3 hk3'))
            go_step3
            exact ⟨⟨r2, o, _, HI3.out, .inr (.inr ⟨rfl, 60, r, _, H2.out, .inl rfl, end60, _, _, _, _, _, _, _, _, _, _, _, _, _, _, _, _, _, _, _, _, _, _, _, _, _, _, _, _, _, _, _, _, _, _, _, _, _, _, _, _, _, _, _, _, _, _, _, _, _, _, _, _, _, _, _, _, _, _, _, rfl⟩)⟩, by have := HLT.out; simp [SpM, strLen]; omega⟩
          · go_wp2_with (first
              | (go_at_call 113; (with_reducible refine (cI _).mono ?_); rintro e w2 ⟨rfl, hb2⟩; have hi2 := HI.out.step hb2; have cU2 := cU w2 hi2; have HI2 := Lib.hid hi2; clear hi2 hb2)
              | (go_at_call 106; (with_reducible refine cU2.mono ?_); rintro e w3 ⟨rfl, hj3, hk3'⟩; have HI3 := Lib.hid (HI2.out.joined hj3 hk3' HST.out HFW.out); clear hj3 hk3'))
            go_step3
            exact ⟨⟨r2, o, _, HI3.out, .inr (.inr ⟨rfl, 123, r, _, H2.out, .inr rfl, end123, _, _, _, _, _, _, _, _, _, _, _, _, _, _, _, _, _, _, _, _, _, _, _, _, _, _, _, _, _, _, _, _, _, _, _, _, _, _, _, _, _, _, _, _, _, _, _, _, _, _, _, _, _, _, _, _, _, _, _, rfl⟩)⟩, by have := HLT.out; simp [SpM, strLen]; omega⟩
    · refine ⟨_, rfl, ?_⟩
      have hrl : rest.data.toList.length = rest.size := (size_eq rest).symm
      have cU := putText_any (w.heap.size + 2) w.heap.size o t rest wr HI.out.join (by omega) HI.out.size
      have HDN := Lib.hid (St.done (St.plain (p := rest.data.toList) (r := []) (by rw [List.append_nil]; exact HI.out.st) hno))
      have HBK : Hid (bulk (o ++ flush (t ++ rest.data.toList)) ≤ 2 * s.size) := by
        show _ ≤ _
        rw [bulk_app]
        have := bulk_flush (t ++ rest.data.toList)
        rw [List.length_append] at this
        omega
      have hl4 : (t ++ rest.data.toList).length ≤ 100000000 := by rw [List.length_append]; omega
      have cD := fun w3 hj hz => done_any (w.heap.size + 2) w.heap.size o (t ++ rest.data.toList) w3 hj hl4 (by omega) hz
      have HZ := Lib.hid HI.out.size
      clear hno hrl hl4
      go_wp2_with (first
        | (go_at_call 106; (with_reducible refine cU.mono ?_); rintro e w3 ⟨rfl, hj3, hk3'⟩; have cD3 := cD w3 hj3 (Nat.le_trans HZ.out hk3'.size); have HK3 := Lib.hid hk3'; clear hj3 hk3')
        | (go_at_call 77; (with_reducible refine cD3.mono ?_); rintro e w4 ⟨v4, rfl, hp4, hk4'⟩; have HP4 := Lib.hid hp4; have HK4 := Lib.hid hk4'; clear hp4 hk4'))
      simp only [jumps]
      go_ret2
      exact ⟨.inl ⟨_, _, readV_some HI.out.tx HDN.out, rfl, HP4.out.low, HBK.out⟩, (HI.out.below.trans (HK3.out.below (by omega) (Nat.le_refl _))).trans (HK4.out.below (by omega) (Nat.le_refl _))⟩
    · refine ⟨_, rfl, ?_⟩
      subst hu6
      have cB := fun w2 => strings_IndexByte rest ((endOf c).toNat : Int) w2
      rw [show (((endOf c).toNat : Int)).toNat.toUInt8 = endOf c by simp] at cB
      by_cases hj : indexByte rest.data.toList (endOf c) = -1
      · rw [hj] at cB
        have h0 : ByteArray.empty.data.toList = [] := rfl
        have hz0 : ByteArray.empty.size ≤ 140737488355328 := by decide
        have cM := fun w2 (h : SpI s w rest o t w2) => readMark_any ByteArray.empty w2 hz0 (HN.out.below HN.out.1 h.below)
        have HNM := Lib.hid (show ∀ x, ¬ Mk x ByteArray.empty.data.toList by rw [h0]; intro x hx; exact hx.plain.2 rfl)
        have HNO := Lib.hid (St.mark_end (by have := HI.out.st; rw [hL] at this; exact this) hc (by rw [hL] at hj; exact hj))
        clear h0 hz0 hj hL hc
        have cM1 := cM wr HI.out
        generalize ((endOf c).toNat : Int) = E at *
        go_wp2_with (first
          | (go_at_call 115; (with_reducible refine (cB _).mono ?_); rintro e w2 ⟨rfl, hw⟩; obtain rfl := hw.symm)
          | (go_at_call 103; (with_reducible refine cM1.mono ?_); rintro e w3 ⟨hm, hb3⟩; obtain ⟨⟨xk, xs, xc⟩, rfl⟩ := hm.none HNM.out; have hi3 := HI.out.step hb3; obtain ⟨y0, y1, y2, c0, c1, c2, f0, f1, f2⟩ := hi3.cells; have HI3 := Lib.hid (hi3.set (.int .u8 xk) (.string xs) (.bool xc)); clear hm hb3 hi3))
        simp only [jumps]
        go_ret2
        exact ⟨.inr ⟨readV_not (.inr HNO.out), rfl⟩, HI3.out.below⟩
      · obtain ⟨j, hj⟩ : ∃ j : Nat, indexByte rest.data.toList (endOf c) = (j : Int) := ⟨(indexByte rest.data.toList (endOf c)).toNat, by have := indexByte_ge rest.data.toList (endOf c); omega⟩
        have hjl : j < rest.size := by have := indexByte_cut hj; have := size_eq rest; omega
        rw [hj] at cB
        obtain ⟨m1, e1⟩ : ∃ m1, rest.extract 0 (j + 1) = m1 := ⟨_, rfl⟩
        obtain ⟨r5, e5⟩ : ∃ r5, rest.extract (j + 1) rest.size = r5 := ⟨_, rfl⟩
        have h1 : m1.data.toList = (c :: r).take (j + 1) := by rw [← e1, extract_list, hL]; rfl
        have h5 : r5.data.toList = (c :: r).drop (j + 1) := by rw [← e5, extract_list, size_eq, hL, List.take_length]
        have hz1 : m1.size = j + 1 := by rw [size_eq, h1, List.length_take, ← hL]; have := size_eq rest; omega
        have hz5 : r5.size + (j + 1) = rest.size := by rw [size_eq, h5, List.length_drop, ← hL]; have := size_eq rest; omega
        have hst : St s.data.toList o t (c :: r) := by have := HI.out.st; rw [hL] at this; exact this
        have hj' : indexByte (c :: r) (endOf c) = (j : Int) := by rw [← hL]; exact hj
        have hI1 : ((j : Int) + 1).toNat = j + 1 := by omega
        have hI2 : (0 : Int) ≤ (j : Int) + 1 := by omega
        have hI3 : (j : Int) + 1 ≤ (rest.size : Int) := by omega
        have hwr : IntKind.i64.wrap ((j : Int) + 1) = (j : Int) + 1 := by rw [IntKind.wrap_i64]; omega
        have cM := fun w2 (h : SpI s w rest o t w2) => readMark_any m1 w2 (by omega) (HN.out.below HN.out.1 h.below)
        have cM1 := cM wr HI.out
        by_cases hex : ∃ x, Mk x ((c :: r).take (j + 1))
        · obtain ⟨x, hx⟩ := hex
          have hxs := hx.size
          rw [← h1] at hxs
          rw [← size_eq, hz1] at hxs
          have HMK := Lib.hid (show Mk x m1.data.toList by rw [h1]; exact hx)
          have HST := Lib.hid (show St s.data.toList (o ++ flush t ++ [x]) [] r5.data.toList by rw [h5]; exact St.mark hst hc hj' hx)
          have hk1 : x.k ≠ 1 := hx.1
          have HFW : Hid (bulk (o ++ flush t ++ [x]) + 2 * ([] : List UInt8).length + 2 * r5.size ≤ 2 * s.size) := by
            show _ ≤ _
            rw [bulk_app, bulk_app]
            have := bulk_flush t
            have h2 : bulk [x] = x.s.size + 1 := by simp [bulk]; omega
            rw [h2]
            simp; omega
          have HLT : Hid (r5.size < rest.size) := by show _ < _; omega
          have cQ := fun w3 (h : SpI s w rest o t w3) => put_any (w.heap.size + 2) w.heap.size o t x w3 h.join hk1 (by omega) (by omega) h.size
          clear cM h1 h5 hz1 hz5 hst hj' hj hL hc hx hxs hk1
          generalize ((endOf c).toNat : Int) = E at *
          obtain ⟨xk, xs, xc⟩ := x
          unfold pcV at cQ
          simp only at cQ
          go_wp2_with (first
            | (go_at_call 115; (with_reducible refine (cB _).mono ?_); rintro e w2 ⟨rfl, hw⟩; obtain rfl := hw.symm)
            | (go_at_call 103; (with_reducible refine cM1.mono ?_); rintro e w3 ⟨hm, hb3⟩; obtain rfl := hm.some HMK.out; have hi3 := HI.out.step hb3; obtain ⟨y0, y1, y2, c0, c1, c2, f0, f1, f2⟩ := hi3.cells; have HI3 := Lib.hid (hi3.set (.int .u8 xk) (.string xs) (.bool xc)); have cQ3 := cQ _ HI3.out; clear hm hb3 hi3)
            | (go_at_call 76; (with_reducible refine cQ3.mono ?_); rintro e w4 ⟨rfl, hj4, hk4⟩; have HI4 := Lib.hid (HI3.out.joined hj4 hk4 HST.out HFW.out); clear hj4 hk4))
          go_step3
          exact ⟨⟨r5, _, _, HI4.out, .inl ⟨rfl, _, _, _, _, _, _, _, _, _, _, _, _, _, _, _, _, _, _, _, _, _, _, _, _, _, _, _, _, _, _, _, _, _, _, _, _, _, _, _, _, _, _, _, _, _, _, _, _, _, _, _, _, _, _, _, _, _, _, _, _, rfl⟩⟩, by have := HLT.out; simp [SpM, strLen]; omega⟩
        · have hnx : ∀ x, ¬ Mk x ((c :: r).take (j + 1)) := fun x hx => hex ⟨x, hx⟩
          have HNM := Lib.hid (show ∀ x, ¬ Mk x m1.data.toList by rw [h1]; exact hnx)
          have HNO := Lib.hid (St.mark_bad hst hc hj' hnx)
          clear cM h1 h5 hz1 hz5 hst hj' hj hL hc hnx hex
          generalize ((endOf c).toNat : Int) = E at *
          go_wp2_with (first
            | (go_at_call 115; (with_reducible refine (cB _).mono ?_); rintro e w2 ⟨rfl, hw⟩; obtain rfl := hw.symm)
            | (go_at_call 103; (with_reducible refine cM1.mono ?_); rintro e w3 ⟨hm, hb3⟩; obtain ⟨⟨xk, xs, xc⟩, rfl⟩ := hm.none HNM.out; have hi3 := HI.out.step hb3; obtain ⟨y0, y1, y2, c0, c1, c2, f0, f1, f2⟩ := hi3.cells; have HI3 := Lib.hid (hi3.set (.int .u8 xk) (.string xs) (.bool xc)); clear hm hb3 hi3))
          simp only [jumps]
          go_ret2
          exact ⟨.inr ⟨readV_not (.inr HNO.out), rfl⟩, HI3.out.below⟩
end Go.Proofs.YtnbeomclmggbiaaGreatDoor
namespace Go.Proofs.YtnbeomclmggbiaaGreatDoor
open Go Go.RowKit
set_option maxRecDepth 100000
theorem SplitEnd.none {s : ByteArray} {e : Ending} {w' : World} (h : SplitEnd s e w') (hv : readV s = .none) : e = .returned (.tuple #[.slice .none 0 0, .bool false]) := by
  rcases h with ⟨v, l, h1, _⟩ | ⟨_, h2⟩
  · rw [hv] at h1; cases h1
  · exact h2
theorem SplitEnd.some {s : ByteArray} {e : Ending} {w' : World} {l : List Pc} (h : SplitEnd s e w') (hv : readV s = .some l) : ∃ v, e = .returned (.tuple #[v, .bool true]) ∧ OwnP 0 v l w' ∧ bulk l ≤ 2 * s.size := by
  rcases h with ⟨v, l', h1, h2, h3, h4⟩ | ⟨h1, _⟩
  · rw [hv] at h1
    cases h1
    exact ⟨v, h2, h3, h4⟩
  · rw [hv] at h1; cases h1
/-- what Read returns -/
def ReadEnd (s : ByteArray) (e : Ending) (w' : World) : Prop := ∃ v, e = .returned (.tuple #[v, .int .u8 (readE s)]) ∧ OwnP 0 v (readP s) w' ∧ bulk (readP s) ≤ 2 * s.size
theorem pcs_nil (w : World) : PcsAt w (.slice none 0 0) [] := ⟨none, 0, rfl, by simp, by simp, fun h => absurd h (by simp)⟩
set_option maxHeartbeats 4000000 in
theorem read_any (s : ByteArray) (w : World) (hs : s.size ≤ 50000) (hT : Tabs w) (hN : Nts w) :
    Calls Tryz.prog 33 #[.string s] w fun e w' => ReadEnd s e w' ∧ Below w.heap.size w w' := by
  have hI : ¬ (65536 : Int) < (s.size : Int) := by omega
  have h0 : ¬ 65536 < s.size := by omega
  have cS := split_any s w (by omega) hT hN
  have HT := Lib.hid hT
  clear hT hN
  cases hv : readV s with
  | none =>
    have HR := Lib.hid (read_none h0 hv)
    have HV := Lib.hid hv
    clear hv h0
    go_enter Tryz.func33, Tryz.ntmps33
    go_wp2_with (go_at_call 67; (with_reducible refine cS.mono ?_); rintro e w2 ⟨hse, hb2⟩; obtain rfl := hse.none HV.out; have HB2 := Lib.hid hb2; clear hse hb2)
    go_ret2
    exact ⟨⟨.slice none 0 0, by rw [HR.out.1]; rfl, by rw [HR.out.2]; exact OwnP.nil _ _, by rw [HR.out.2]; simp [bulk]⟩, HB2.out⟩
  | some l =>
    have HR := Lib.hid (read_some h0 hv)
    have HV := Lib.hid hv
    clear hv h0
    by_cases hE : checkE l = 0
    · have HE := Lib.hid hE
      have cC := fun v w2 (hp : PcsAt w2 v l) (hb : bulk l ≤ 2 * s.size) (h : Below w.heap.size w w2) => checkPieces_any l v w2 hp (short_mem (by omega)) (HT.out.step h)
      rw [hE] at cC
      clear hE
      go_enter Tryz.func33, Tryz.ntmps33
      go_wp2_with (first
        | (go_at_call 67; (with_reducible refine cS.mono ?_); rintro e w2 ⟨hse, hb2⟩; obtain ⟨v, rfl, hp, hbk⟩ := hse.some HV.out; have cC2 := cC v w2 hp.at hbk hb2; have HP := Lib.hid hp; have HK := Lib.hid hbk; have HB2 := Lib.hid hb2; clear hse hb2 hp hbk)
        | (go_at_call 51; (with_reducible refine cC2.mono ?_); rintro e w3 ⟨rfl, hb3⟩; have HP3 := Lib.hid (HP.out.step hb3); have HB3 := Lib.hid (below_next HB2.out hb3); clear hb3))
      go_ret2
      exact ⟨⟨v, by rw [HR.out.1, HE.out]; rfl, by rw [HR.out.2, if_pos HE.out]; exact HP3.out, by rw [HR.out.2, if_pos HE.out]; exact HK.out⟩, HB3.out⟩
    · have HE := Lib.hid hE
      have cC := fun v w2 (hp : PcsAt w2 v l) (hb : bulk l ≤ 2 * s.size) (h : Below w.heap.size w w2) => checkPieces_any l v w2 hp (short_mem (by omega)) (HT.out.step h)
      generalize checkE l = Z at cC HE HR hE
      have hz : (Z == 0) = false := by simpa using hE
      clear hE
      go_enter Tryz.func33, Tryz.ntmps33
      go_wp2_with (first
        | (go_at_call 67; (with_reducible refine cS.mono ?_); rintro e w2 ⟨hse, hb2⟩; obtain ⟨v, rfl, hp, hbk⟩ := hse.some HV.out; have cC2 := cC v w2 hp.at hbk hb2; have HB2 := Lib.hid hb2; clear hse hb2 hp hbk)
        | (go_at_call 51; (with_reducible refine cC2.mono ?_); rintro e w3 ⟨rfl, hb3⟩; have HB3 := Lib.hid (below_next HB2.out hb3); clear hb3))
      go_ret2
      exact ⟨⟨.slice none 0 0, by rw [HR.out.1]; rfl, by rw [HR.out.2, if_neg HE.out]; exact OwnP.nil _ _, by rw [HR.out.2, if_neg HE.out]; simp [bulk]⟩, HB3.out⟩
set_option maxHeartbeats 4000000 in
theorem same_any (l : List Pc) (u v : Value) (w : World) (hu : PcsAt w u l) (hv : PcsAt w v l) (hl : l.length ≤ 1000000) :
    Calls Tryz.prog 28 #[u, v] w fun e w' => e = .returned (.bool true) ∧ ∃ n, w' = w.drewN n := by
  obtain ⟨p, cap, rfl, hl1, hc, hrow⟩ := hu
  obtain ⟨q, cap2, rfl, hl2, hc2, hrow2⟩ := hv
  unfold maxLen at hc hc2
  have ag := Tryz.isAgg56
  have zg := Tryz.sizeOf56
  have HR := Lib.hid hrow
  have HR2 := Lib.hid hrow2
  clear hrow hrow2
  go_enter Tryz.func28, Tryz.ntmps28
  go_wp2
  go_loopw [5] (fun i wr => ∃ k : Nat, k ≤ l.length ∧ i = .int .i64 k ∧ ∃ n, wr = w.drewN n) (fun i _ => l.length - (intOf i).toNat)
  case atStart => exact ⟨0, Nat.zero_le _, rfl, 0, rfl⟩
  case round =>
    obtain ⟨k, hk, rfl, n, rfl⟩ := hrel
    obtain ⟨w1, hw1⟩ : ∃ w1, w1 = w.drewN n := ⟨_, rfl⟩
    have HW := Lib.hid hw1
    by_cases hlt : k < l.length
    · obtain ⟨A, rfl, hA, hcell⟩ := HR.out (by omega)
      obtain ⟨A2, rfl, hA2, hcell2⟩ := HR2.out (by omega)
      have hb : Below w.heap.size w w1 := by rw [hw1]; exact ⟨rfl, rfl, rfl, Nat.le_refl _, fun _ _ => rfl⟩
      obtain ⟨x0, x1, x2⟩ := pcs_cells hA hcell hlt hb
      obtain ⟨z0, z1, z2⟩ := pcs_cells hA2 hcell2 hlt hb
      rw [← hw1]
      clear hcell hcell2 hw1 hb
      generalize l.getD k nil = x at *
      go_wp2
      go_quiet (fail)
      go_wp2
      exact ⟨⟨k + 1, by omega, by simp, n + nq, by rw [HW.out, World.drewN_drewN]⟩, by simp [intOf]; omega⟩
    · rw [← hw1]
      clear hw1
      go_wp2
      go_ret
      exact ⟨rfl, n, HW.out⟩
end Go.Proofs.YtnbeomclmggbiaaGreatDoor
