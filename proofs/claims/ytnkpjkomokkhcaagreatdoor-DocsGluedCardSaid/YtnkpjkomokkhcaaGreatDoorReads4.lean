/- 'reads', layer 1's example: it returns true in any world in which the two tables of package docs stand as they were laid, and leaves all memory that was there as it was. -/
import Derived.Test.YtnkpjkomokkhcaaGreatDoorReads1
import Derived.Test.YtnkpjkomokkhcaaGreatDoorReads2
import Derived.Test.YtnkpjkomokkhcaaGreatDoorReads3
namespace Go.Proofs.YtnkpjkomokkhcaaGreatDoor
open Go Go.Eng Go.RowKit
set_option maxRecDepth 100000
theorem docs_get (k : Nat) : docsE.get k = if k = 1 then .cells ntL 199 false true else if k = 0 then .cells clL 185 false true else .dead := by
  rw [EM.get_eq]
  match k with
  | 0 => rfl
  | 1 => rfl
  | 2 => rfl
  | 3 => rfl
  | 4 => rfl
  | k + 5 => rw [if_neg (show ¬ k + 5 < docsE.n from by show ¬ k + 5 < 5; omega), if_neg (by omega), if_neg (by omega)]
theorem nt_scalar : ∀ v ∈ ntL, isScalar v = true := List.all_eq_true.1 (show ntL.all isScalar = true by kernel_rfl)
theorem cl_scalar : ∀ v ∈ clL, isScalar v = true := List.all_eq_true.1 (show clL.all isScalar = true by kernel_rfl)
def docsLen (k : Nat) : Nat := if k = 1 then ntL.length else if k = 0 then clL.length else 0
def docsTy (k : Nat) : TypeId := if k = 1 then 199 else 185
theorem docs_good (P : Program) {w : World} (hw : 5 ≤ w.heap.size) {c0 c1 : Array Value} {t0 t1 : TypeId} {f0 f1 : Nat × Nat}
    (h0 : w.heap[1]? = some (.cells c0 t0 f0)) (h1 : w.heap[0]? = some (.cells c1 t1 f1)) (e0 : c0.toList = ntL) (e1 : c1.toList = clL) : ∃ β, Good P w.heap.size w β docsE w ∧ Glob 5 β := by
  refine ⟨fun k => if k < 5 then some ⟨k, 0, docsLen k, szOf P (docsTy k), 0⟩ else none, ⟨fun k hk => ⟨_, if_pos hk⟩, ?_, ?_, ?_, ?_, fun _ _ => rfl, Nat.le_refl _, rfl, rfl, rfl⟩, ?_⟩
  · intro k l e
    show k < 5
    split at e
    · assumption
    · cases e
  · intro k k' l l' e e' _ _ hb
    split at e
    · split at e'
      · cases e; cases e'; exact hb
      · cases e'
    · cases e
  · intro k l e
    split at e
    · cases e; show k < _; omega
    · cases e
  · intro k l e
    split at e
    · cases e
      rw [docs_get]
      by_cases k0 : k = 1
      · subst k0
        rw [if_pos rfl]
        refine ⟨rfl, rfl, c0, t0, f0, h0, ?_, fun i v hv => ⟨v, ?_, .scalar (nt_scalar v (List.mem_of_getElem? hv))⟩, fun h => (by cases h), fun _ => rfl⟩
        · show 0 + ntL.length + 0 * _ ≤ _
          rw [← e0]; simp
        · show c0[0 + i]? = some v
          rw [Nat.zero_add, ← Array.getElem?_toList, e0]; exact hv
      · rw [if_neg k0]
        by_cases k1 : k = 0
        · subst k1
          rw [if_pos rfl]
          refine ⟨rfl, rfl, c1, t1, f1, h1, ?_, fun i v hv => ⟨v, ?_, .scalar (cl_scalar v (List.mem_of_getElem? hv))⟩, fun h => (by cases h), fun _ => rfl⟩
          · show 0 + clL.length + 0 * _ ≤ _
            rw [← e1]; simp
          · show c1[0 + i]? = some v
            rw [Nat.zero_add, ← Array.getElem?_toList, e1]; exact hv
        · rw [if_neg k1]; trivial
    · cases e
  · intro g hg
    exact ⟨⟨g, 0, docsLen g, szOf P (docsTy g), 0⟩, by simp [hg], rfl, rfl⟩
theorem mixes : Tryz.prog.follows .mixedOrders = true := by kernel_rfl
theorem recovers : Tryz.prog.follows .rangeFuncRecover = true := by kernel_rfl
theorem plain : plainNames Tryz.prog = true := by kernel_rfl
theorem reads_body : Tryz.f8.body = some (Tryz.f8.body.getD .skip) := by kernel_rfl
theorem knowns_sound : ∀ K ∈ [k522, k1256], K.Sound Tryz.prog 5 := by
  intro K hK
  simp only [List.mem_cons, List.not_mem_nil, or_false] at hK
  rcases hK with rfl | rfl
  · exact checkK_sound mixes recovers plain (kn := []) (by simp) (by simp) k522_run
  · exact checkK_sound mixes recovers plain (kn := []) (by simp) (by simp) k1256_run
theorem knowns_body : ∀ K ∈ [k522, k1256], ∃ fn b, Tryz.prog.funcs[K.fn]? = some fn ∧ fn.body = some b := by
  intro K hK
  simp only [List.mem_cons, List.not_mem_nil, or_false] at hK
  rcases hK with rfl | rfl
  · exact checkK_body k522_run
  · exact checkK_body k1256_run
theorem reads_calls (w : World) (hw : 5 ≤ w.heap.size) {c0 c1 : Array Value} {t0 t1 : TypeId} {f0 f1 : Nat × Nat}
    (h0 : w.heap[1]? = some (.cells c0 t0 f0)) (h1 : w.heap[0]? = some (.cells c1 t1 f1)) (e0 : c0.toList = ntL) (e1 : c1.toList = clL) :
    Calls Tryz.prog 8 #[] w fun e w' => e = .returned (.bool true) ∧ Below w.heap.size w w' := by
  obtain ⟨β, g, hg⟩ := docs_good Tryz.prog hw h0 h1 e0 e1
  have h := reads_run
  unfold okB at h
  split at h
  case h_2 => cases h
  rename_i x E1 hrun
  have hx : x = true := by simpa using h
  subst hx
  obtain ⟨β1, v', w1, hx, hv, g1, _, hend⟩ := (engK_ok (base := w.heap.size) (w0 := w) (ng := 5) mixes recovers plain knowns_sound knowns_body 1000000).1 _ _ _ _ _ _ _ g hg (enter_FR Tryz.func8 reads_body («as» := []) (as' := #[]) .nil (.inl rfl)) hrun
  obtain ⟨frE, h1, h2, h3⟩ := hend rfl rfl
  intro cs
  exact ⟨.returned v', w1, frE, ⟨by rw [hv.boolInv], g1.below⟩, h3 cs, h1, h2⟩
end Go.Proofs.YtnkpjkomokkhcaaGreatDoor
