/- A slice of features among the arguments, opened as a list; read again behind a call that leaves old memory as it was. -/
import Derived.Test.YtdfhciijpcgicaaGreatDoorRefUnify
import Derived.Test.YtdfhciijpcgicaaGreatDoorLaid
import Derived.Deep.SlicePairs
import Derived.Carry
namespace Go.Proofs.YtdfhciijpcgicaaGreatDoor
open Go Go.ChangeShapes Go.WideShapes Go.ChangeAt Go.ChangeMaps Go.RowKit
theorem reads_owned {w : World} {base : Nat} {v : Value} {r : List Ft} (h : w.ownsRow base 66 2 v r.length (cellsF r)) : ReadsIn w.heap.size w v r := by
  obtain ⟨hl, h | ⟨g, cap, cur, rfl, _, hg, hc, hm, hs, ht⟩⟩ := h
  · obtain ⟨rfl, h0⟩ := h
    exact .inl ⟨rfl, List.length_eq_zero_iff.1 h0⟩
  · refine .inr ⟨⟨g, 0, none⟩, cap, rfl, hc, hm, (Array.getElem?_eq_some_iff.1 hg).1, ?_⟩
    have key : ∀ j u, (cellsF r)[j]? = some u → w.cell? ((⟨g, 0, none⟩ : Addr).add j) = some u := World.ownsRow.cells (w := w) (base := base) (e := 66) (size := 2) (n := r.length) ⟨hl, .inr ⟨g, cap, cur, rfl, ‹_›, hg, hc, hm, hs, ht⟩⟩ (g := g) rfl
    intro i hi
    have e : ∀ (l : List Ft) i (hi : i < l.length), (cellsF l)[i * 2]? = some (.string l[i].1) ∧ (cellsF l)[i * 2 + 1]? = some (.string l[i].2) := by
      intro l
      induction l with
      | nil => intro i hi; simp at hi
      | cons x l ih =>
        intro i hi
        have e : cellsF (x :: l) = .string x.1 :: .string x.2 :: cellsF l := by simp [cellsF]
        rw [e]
        cases i with
        | zero => simp
        | succ i =>
          have := ih i (by simpa using hi)
          refine ⟨?_, ?_⟩
          · rw [show (i + 1) * 2 = i * 2 + 1 + 1 by omega, List.getElem?_cons_succ, List.getElem?_cons_succ, this.1]; simp
          · rw [show (i + 1) * 2 + 1 = i * 2 + 1 + 1 + 1 by omega, List.getElem?_cons_succ, List.getElem?_cons_succ, this.2]; simp
    exact ⟨key _ _ (e r i hi).1, key _ _ (e r i hi).2⟩
theorem look66 : (match Tryz.prog.underlying 66 with | some (.struct fs) => (match fs.toList with | [f, g] => f.offset == 0 && g.offset == 1 && f.type == 9 && g.type == 9 | _ => false) | _ => false) = true := by kernel_rfl
theorem str66 : ∃ f g : Field, Tryz.prog.underlying 66 = some (.struct #[f, g]) ∧ f.offset = 0 ∧ g.offset = 1 ∧ f.type = 9 ∧ g.type = 9 := by
  have h := look66
  split at h
  · rename_i fs e
    split at h
    · rename_i f g e2
      simp at h
      have : fs = #[f, g] := Array.ext' e2
      subst this
      exact ⟨f, g, e, h.1.1.1, h.1.1.2, h.1.2, h.2⟩
    · cases h
  · cases h
theorem cells66 : Tryz.prog.cellsOf 66 = 2 := by kernel_rfl
theorem cells9 : Tryz.prog.cellsOf 9 = 1 := by kernel_rfl
set_option maxRecDepth 100000 in
theorem feats_open {H : Type} {enc : TypeId × Value → H} {W : World} {base : Nat} {v : Value} {d : DataW H} {p : List MemPlace} (hv : Value.okWide Tryz.prog W .any base 24 v) (h : DataW.Trod enc Tryz.prog W 0 (fun _ => true) true 24 v d p) :
    ∃ l, ReadsIn W.heap.size W v l := by
  obtain ⟨a0, len0, cap0, rfl⟩ := okWide_slice Tryz.underlying24 hv
  obtain ⟨fuel, hf⟩ := h
  obtain ⟨f, g, hs66, hf0, hg1, hft, hgt⟩ := str66
  rcases Go.Deep.open_slice_pairs Tryz.underlying24 hs66 cells66 hf0 hg1 (by rw [hft]; exact cells9) (by rw [hgt]; exact cells9) hf with ⟨hcs, _⟩ | ⟨a, len, cap, m, n, V0, V1, D0, D1, P0, P1, hcs, _, hl, hm, hmm, _, hx⟩
  · have e : Value.slice a0 len0 cap0 = .slice none 0 0 := by simpa [Value.cells] using hcs
    exact ⟨[], .inl ⟨e, rfl⟩⟩
  · have e : Value.slice a0 len0 cap0 = .slice (some a) len cap := by simpa [Value.cells] using hcs
    rw [e] at hv ⊢
    have hlm : len ≤ m := by rw [hmm]; split <;> omega
    have hs : ∀ i, ∃ x : Ft, i < len → V0 i = .string x.1 ∧ V1 i = .string x.2 := by
      intro i
      by_cases hi : i < len
      · obtain ⟨_, _, h0, h1⟩ := hx i (by omega)
        obtain ⟨s0, e0, _⟩ := DataW.trod_string (by rw [hft]; exact Tryz.underlying9) h0
        obtain ⟨s1, e1, _⟩ := DataW.trod_string (by rw [hgt]; exact Tryz.underlying9) h1
        exact ⟨(s0, s1), fun _ => ⟨by simpa using e0, by simpa using e1⟩⟩
      · exact ⟨(⟨#[]⟩, ⟨#[]⟩), fun h => absurd h hi⟩
    have hb : a.block < W.heap.size := by
      simp only [Value.okWide, Tryz.underlying24, Cell.okWide, Cell.ok] at hv
      obtain ⟨_, _, _, _, row, cells, hsh, _⟩ := hv
      rcases Nat.lt_or_ge a.block W.heap.size with h | h
      · exact h
      · unfold World.shape? at hsh
        rw [Array.getElem?_eq_none h] at hsh
        cases hsh
    refine ⟨(List.range len).map fun i => Classical.choose (hs i), .inr ⟨a, cap, by simp, by simpa using hl, hm, hb, ?_⟩⟩
    intro i hi
    simp at hi
    obtain ⟨h0, h1, _, _⟩ := hx i (by omega)
    obtain ⟨g0, g1⟩ := Classical.choose_spec (hs i) hi
    refine ⟨?_, ?_⟩
    · rw [h0, g0]; simp
    · rw [h1, g1]; simp
theorem laid_out : laidOutB Tryz.prog = true := by kernel_rfl
theorem readable24 : Tryz.prog.readableRec 24 = true := by kernel_rfl
theorem row24 : 24 < Tryz.prog.types.size := by decide +kernel
end Go.Proofs.YtdfhciijpcgicaaGreatDoor
