/- A gram, by the program. -/
import Derived.Test.YthgllfbigcoaiaaGreatDoorCk2
namespace Go.Proofs.YthgllfbigcoaiaaGreatDoor
open Go Go.RowKit Go.Lib
set_option maxRecDepth 100000
theorem qd (l : List ByteArray) (k n i : Nat) (h : i < n) : ((l.drop k).take n).getD i ⟨#[]⟩ = l.getD (k + i) ⟨#[]⟩ := by
  rw [getD_take, if_pos h, List.getD_eq_getElem?_getD, List.getD_eq_getElem?_getD, List.getElem?_drop]
theorem qd0 (l : List ByteArray) (k n i : Nat) (h : ¬ i < n) : ((l.drop k).take n).getD i ⟨#[]⟩ = ⟨#[]⟩ := by
  rw [getD_take, if_neg h]
theorem set4_cells {w : World} {b : Nat} {u0 u1 u2 u3 : Value} {t : TypeId} (h : w.heap[b]? = some (.cells #[u0, u1, u2, u3] t (0, 0))) (v0 v1 v2 v3 : Value) :
    ((((w.setCell ⟨b, 0, none⟩ v0).setCell ⟨b, 1, none⟩ v1).setCell ⟨b, 2, none⟩ v2).setCell ⟨b, 3, none⟩ v3).heap[b]? = some (.cells #[v0, v1, v2, v3] t (0, 0)) := by
  simp [World.setCell, Array.getElem?_modify, h]
theorem below_set {B : Nat} {w wr : World} {a : Addr} (h : Below B w wr) (ha : B ≤ a.block) (v : Value) : Below B w (wr.setCell a v) :=
  ⟨h.os, h.tape, h.output, Nat.le_trans h.size (by simp [World.setCell]), fun j hj => (Below.heap_setCell _ _ _ j (by omega)).trans (h.block j hj)⟩
set_option maxHeartbeats 4000000 in
theorem gramAt_any (l : List ByteArray) (v : Value) (k n : Nat) (w : World) (hv : WdsAt w v l) (h1 : 1 ≤ n) (h4 : n ≤ 4) (hk : k + n ≤ l.length) (hl5 : l.length ≤ 512) :
    Calls Tryz.prog 36 #[v, .int .i64 k, .int .i64 n] w fun e w' => e = .returned (κQ (gq l n k)) ∧ Below w.heap.size w w' := by
  obtain ⟨⟨p, cap, rfl, hl, hc, hrow⟩, hz⟩ := hv
  obtain ⟨A, rfl, hA, hcell⟩ := hrow (by omega)
  unfold maxLen at hc
  clear hz hrow
  have agG := Tryz.isAgg74
  have zgG := Tryz.sizeOf74
  have HQ := Lib.hid (show κQ (gq l n k) = .agg #[.string (((l.drop k).take n).getD 0 ⟨#[]⟩), .string (((l.drop k).take n).getD 1 ⟨#[]⟩), .string (((l.drop k).take n).getD 2 ⟨#[]⟩), .string (((l.drop k).take n).getD 3 ⟨#[]⟩)] from rfl)
  go_enter Tryz.func36, Tryz.ntmps36
  go_wp2
  have HB : Hid (Below w.heap.size w ((w.alloc (.cells #[.string ⟨#[]⟩, .string ⟨#[]⟩, .string ⟨#[]⟩, .string ⟨#[]⟩] 74)).alloc (.cells #[.string ⟨#[]⟩, .string ⟨#[]⟩, .string ⟨#[]⟩, .string ⟨#[]⟩] 74))) := below_next (below_box _) (below_box _)
  have hg : ((w.alloc (.cells #[.string ⟨#[]⟩, .string ⟨#[]⟩, .string ⟨#[]⟩, .string ⟨#[]⟩] 74)).alloc (.cells #[.string ⟨#[]⟩, .string ⟨#[]⟩, .string ⟨#[]⟩, .string ⟨#[]⟩] 74)).heap[w.heap.size + 1]? = some (.cells #[.string ⟨#[]⟩, .string ⟨#[]⟩, .string ⟨#[]⟩, .string ⟨#[]⟩] 74 (0, 0)) := by
    have := (MapKept.heap_alloc (w.alloc (.cells #[.string ⟨#[]⟩, .string ⟨#[]⟩, .string ⟨#[]⟩, .string ⟨#[]⟩] 74)) (.cells #[.string ⟨#[]⟩, .string ⟨#[]⟩, .string ⟨#[]⟩, .string ⟨#[]⟩] 74)).1
    simpa using this
  have hg0 : ((w.alloc (.cells #[.string ⟨#[]⟩, .string ⟨#[]⟩, .string ⟨#[]⟩, .string ⟨#[]⟩] 74)).alloc (.cells #[.string ⟨#[]⟩, .string ⟨#[]⟩, .string ⟨#[]⟩, .string ⟨#[]⟩] 74)).heap[w.heap.size]? = some (.cells #[.string ⟨#[]⟩, .string ⟨#[]⟩, .string ⟨#[]⟩, .string ⟨#[]⟩] 74 (0, 0)) := by
    rw [(below_box _).block _ (by simp)]
    exact (MapKept.heap_alloc w (.cells #[.string ⟨#[]⟩, .string ⟨#[]⟩, .string ⟨#[]⟩, .string ⟨#[]⟩] 74)).1
  generalize (w.alloc (.cells #[.string ⟨#[]⟩, .string ⟨#[]⟩, .string ⟨#[]⟩, .string ⟨#[]⟩] 74)).alloc (.cells #[.string ⟨#[]⟩, .string ⟨#[]⟩, .string ⟨#[]⟩, .string ⟨#[]⟩] 74) = W at *
  have hkc : ¬ cap = k := by omega
  have hwr : IntKind.i64.wrap ((k : Int) + (n : Int)) = (k : Int) + (n : Int) := by rw [IntKind.wrap_i64] <;> omega
  have hb0 : (0 : Int) ≤ (k : Int) + (n : Int) := by omega
  have hb1 : (k : Int) + (n : Int) ≤ (cap : Int) := by omega
  have hb2 : ((k : Int) + (n : Int)).toNat = k + n := by omega
  have hb3 : k + n - k = n := by omega
  have hb4 : k ≤ k + n := by omega
  have HG := Lib.hid hg
  have HG0 := Lib.hid hg0
  obtain ⟨cs, hcs⟩ : ∃ cs, cs = (List.range n).map fun i => Value.string (l.getD (k + i) ⟨#[]⟩) := ⟨_, rfl⟩
  have hcl : cs.length = n := by rw [hcs]; simp
  have hcc : Hid (∀ j v, cs[j]? = some v → W.drew.cell? ((A.add k).add j) = some v) := by
    show ∀ j v, cs[j]? = some v → W.drew.cell? ((A.add k).add j) = some v
    intro j v hj
    rw [hcs] at hj
    simp only [List.getElem?_map, Option.map_eq_some_iff] at hj
    obtain ⟨i, hi, rfl⟩ := hj
    obtain ⟨hjn, rfl⟩ := List.getElem?_eq_some_iff.1 hi
    have hjn' : j < n := by simpa using hjn
    rw [List.getElem_range, Addr.add_add]
    have h9 := hcell (k + j) 0 (by omega) (by omega)
    rw [Nat.mul_one, Nat.add_zero] at h9
    have : W.drew.cell? (A.add (k + j)) = w.cell? (A.add (k + j)) := HB.out.cell (by rw [add_block]; exact hA)
    rw [this]; exact h9
  have hone : ∀ v ∈ cs, v.oneCell' = true := by
    intro v hv
    rw [hcs] at hv
    obtain ⟨i, _, rfl⟩ := List.mem_map.1 hv
    rfl
  have HC := Lib.hid hcs
  clear hcell hcs hg hg0
  go_region_law (refine step_copy_splice rfl (.tmp 8) (.tmp 14) 22 22 rfl 9 Tryz.underlying22 (by kernel_rfl) (some ⟨w.heap.size + 1, 0, none⟩) (some (A.add k)) 4 4 n (cap - k) rfl rfl (w.heap.size + 1) 0 [.string ⟨#[]⟩, .string ⟨#[]⟩, .string ⟨#[]⟩, .string ⟨#[]⟩] 74 HG.out cs (by rw [hcl]; exact (Nat.min_eq_left h4).symm) (fun _ => ⟨rfl, _, rfl, hcc.out⟩) (by rw [hcl]; simpa using h4) hone (w.heap.size + 1) W.drew (Below.refl _ _) (Nat.le_refl _) ?_; intro w4 hg4 hb9)
  have hw0 : w4.heap[w.heap.size]? = some (.cells #[.string ⟨#[]⟩, .string ⟨#[]⟩, .string ⟨#[]⟩, .string ⟨#[]⟩] 74 (0, 0)) := (hb9.block _ (Nat.lt_succ_self _)).trans HG0.out
  have HB4 := Lib.hid (HB.out.drew.trans (hb9.mono (Nat.le_succ _)))
  have hg5 := hg4.out
  rw [HC.out] at hg5
  have HW0 := Lib.hid hw0
  clear hb9 hg4 HC hcc hone hcl HG HG0 HB hb0 hb1 hb2 hb3 hb4 hwr hkc
  have f0 : w4.frozen? ⟨w.heap.size, 0, none⟩ = false := by simp [World.frozen?, hw0]
  have f1 : w4.frozen? ⟨w.heap.size, 1, none⟩ = false := by simp [World.frozen?, hw0]
  have f2 : w4.frozen? ⟨w.heap.size, 2, none⟩ = false := by simp [World.frozen?, hw0]
  have f3 : w4.frozen? ⟨w.heap.size, 3, none⟩ = false := by simp [World.frozen?, hw0]
  have r0 : w4.cell? ⟨w.heap.size, 0, none⟩ = some (.string ⟨#[]⟩) := by simp [World.cell?, hw0]
  have r1 : w4.cell? ⟨w.heap.size, 1, none⟩ = some (.string ⟨#[]⟩) := by simp [World.cell?, hw0]
  have r2 : w4.cell? ⟨w.heap.size, 2, none⟩ = some (.string ⟨#[]⟩) := by simp [World.cell?, hw0]
  have r3 : w4.cell? ⟨w.heap.size, 3, none⟩ = some (.string ⟨#[]⟩) := by simp [World.cell?, hw0]
  obtain ⟨s0, s1, s2, s3, hs, hg6⟩ : ∃ s0 s1 s2 s3 : ByteArray, Hid (κQ (gq l n k) = .agg #[.string s0, .string s1, .string s2, .string s3]) ∧ w4.heap[w.heap.size + 1]? = some (.cells #[.string s0, .string s1, .string s2, .string s3] 74 (0, 0)) := by
    refine ⟨_, _, _, _, HQ.out, ?_⟩
    rw [hg5]
    rcases (show n = 1 ∨ n = 2 ∨ n = 3 ∨ n = 4 by omega) with rfl | rfl | rfl | rfl <;> simp [splice, List.range_succ, List.getElem?_drop, List.getElem?_take]
  clear hg5 HQ
  have q0 : w4.cell? ⟨w.heap.size + 1, 0, none⟩ = some (.string s0) := by simp [World.cell?, hg6]
  have q1 : w4.cell? ⟨w.heap.size + 1, 1, none⟩ = some (.string s1) := by simp [World.cell?, hg6]
  have q2 : w4.cell? ⟨w.heap.size + 1, 2, none⟩ = some (.string s2) := by simp [World.cell?, hg6]
  have q3 : w4.cell? ⟨w.heap.size + 1, 3, none⟩ = some (.string s3) := by simp [World.cell?, hg6]
  clear hg6 hw0
  go_wp2
  have hfin := set4_cells HW0.out (.string s0) (.string s1) (.string s2) (.string s3)
  refine bodyPost_ret (results_c (xs := [.string s0, .string s1, .string s2, .string s3]) rfl rfl agG zgG (four_cells (by rw [Lib.cell_of_heap hfin]; rfl) (by rw [Lib.cell_of_heap hfin]; rfl) (by rw [Lib.cell_of_heap hfin]; rfl) (by rw [Lib.cell_of_heap hfin]; rfl))) rfl ?_
  exact ⟨by rw [hs.out], below_set (below_set (below_set (below_set HB4.out (Nat.le_refl _) _) (Nat.le_refl _) _) (Nat.le_refl _) _) (Nat.le_refl _) _⟩
end Go.Proofs.YthgllfbigcoaiaaGreatDoor
