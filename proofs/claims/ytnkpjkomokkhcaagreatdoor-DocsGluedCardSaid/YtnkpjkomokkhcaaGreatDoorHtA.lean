/- Drawn regions: what the loads read is asked only till the last operation that waits for them has come up (so that the region's own stores may write it). A joiner and a list to which pieces are added, on both sides (parts of the texts about words). -/
import Derived.Deep.RegionHeld3
import Derived.Test.YtnkpjkomokkhcaaGreatDoorRwA
import Derived.Test.YtnkpjkomokkhcaaGreatDoorDqA
import Derived.StillTailTactics
namespace Go.Proofs.YtnkpjkomokkhcaaGreatDoor
open Go
variable {P : Program} {ops : Array Oper} {Q : Exit → Act → World → Prop} {md : Region.Mode} {S : World → Prop} {T : Array Bool → Bool}
/-- whatever order is picked from here on; behind an operation S holds as long as T asks for it -/
def wpTill (P : Program) (md : Region.Mode) (ops : Array Oper) (Q : Exit → Act → World → Prop) (S : World → Prop) (T : Array Bool → Bool) : Nat → Array Bool → Act → World → Prop
  | 0, listed, a, w => Region.ready md ops listed = [] ∧ Q .normal a w
  | fuel + 1, listed, a, w =>
    (Region.ready md ops listed = [] → Q .normal a w) ∧
    ∀ i ∈ Region.ready md ops listed, wpOp P ops Q i (fun b x => (T (listed.setIfInBounds i true) = true → S x) ∧ wpTill P md ops Q S T fuel (listed.setIfInBounds i true) b x) a w
theorem wpAny_of_till : ∀ (fuel : Nat) (listed : Array Bool) (a : Act) (w : World), wpTill P md ops Q S T fuel listed a w → wpAny P md ops Q fuel listed a w
  | 0, _, _, _, h => h
  | fuel + 1, _, _, _, h => ⟨h.1, fun i hi => wpOp_mono (fun b x h2 => wpAny_of_till fuel _ b x h2.2) (h.2 i hi)⟩
/-- what has come up has all that it waits for behind it -/
def closedB (md : Region.Mode) (ops : Array Oper) (listed : Array Bool) : Bool :=
  (List.range ops.size).all fun j => !listed.getD j false || (match ops[j]? with | some o => o.after.all fun e => !Region.binds md e || listed.getD e.on false | none => true)
def Closed (md : Region.Mode) (ops : Array Oper) (listed : Array Bool) : Prop := ∀ j o, ops[j]? = some o → listed.getD j false = true → ∀ e ∈ o.after, Region.binds md e = true → listed.getD e.on false = true
theorem Closed.of {listed : Array Bool} (h : closedB md ops listed = true) : Closed md ops listed := by
  intro j o ho hl e he hb
  have hj : j < ops.size := (Array.getElem?_eq_some_iff.1 ho).1
  have h1 := List.all_eq_true.1 h j (List.mem_range.2 hj)
  rw [hl, ho] at h1
  simp only [Bool.not_true, Bool.false_or, Array.all_eq_true_iff_forall_mem] at h1
  have h2 := h1 e he
  rw [hb] at h2
  simpa using h2
theorem Closed.set {listed : Array Bool} {i : Nat} (h : Closed md ops listed) (hi : i ∈ Region.ready md ops listed) : Closed md ops (listed.setIfInBounds i true) := by
  obtain ⟨_, oi, hoi, hall⟩ := mem_ready.1 hi
  intro j o ho hl e he hb
  by_cases hij : i = j
  · subst hij
    obtain rfl : oi = o := Option.some.inj (hoi.symm.trans ho)
    exact getD_set_true (hall e he hb)
  · rw [getD_set_ne false hij] at hl
    exact getD_set_true (h j o ho hl e he hb)
theorem wpTill_first {i m : Nat} {oi om : Oper} {v : Value} (hi : ops[i]? = some oi) (hsel : ∀ (j : Nat) (o : Oper) cs b, ops[j]? = some o → o.op ≠ .select cs b)
    (hQ : ∀ c a w, Q (.panic c) (a.put oi.dst v) w → Q (.panic c) a w) (hm : ops[m]? = some om) (hmi : m ≠ i) (hwait : ∃ e ∈ om.after, Region.binds md e = true ∧ e.on = i)
    (hT : ∀ l : Array Bool, l.getD m true = false → T l = true) :
    ∀ (fuel : Nat) (listed : Array Bool) (a : Act) (w : World), listed.size = ops.size → Closed md ops listed →
      (∀ j oj, ops[j]? = some oj → j ≠ i → listed.getD j true = false → (∀ e ∈ oj.after, Region.binds md e = true → e.on ≠ i) → oi.apart ops oj = true) →
      i ∈ Region.ready md ops listed → YieldsIf P ops S oi v a → S w →
      wpTill P md ops Q S T fuel (listed.setIfInBounds i true) (a.put oi.dst v) w → wpTill P md ops Q S T (fuel + 1) listed a w := by
  have gone : ∀ {l : Array Bool} {k : Nat}, l.getD k true = false → l.getD k false = false := by
    intro l k h
    rcases Nat.lt_or_ge k l.size with h2 | h2
    · simp [h2] at h ⊢; exact h
    · simp [Array.getElem?_eq_none h2] at h
  intro fuel
  induction fuel with
  | zero =>
    intro listed a w _ _ _ hr hy hS H
    refine ⟨fun h => (by rw [h] at hr; cases hr), fun j hj => ?_⟩
    by_cases hji : j = i
    · subst hji; exact hy.wpOp hi hS ⟨fun _ => hS, H⟩
    · have := ready_mono hj hji
      rw [H.1] at this
      cases this
  | succ fuel ih =>
    intro listed a w hz hc hfree hr hy hS H
    refine ⟨fun h => (by rw [h] at hr; cases hr), fun j hj => ?_⟩
    by_cases hji : j = i
    · subst hji; exact hy.wpOp hi hS ⟨fun _ => hS, H⟩
    · have h1 := H.2 j (ready_mono hj hji)
      obtain ⟨hjun, oj, hoj, hall⟩ := mem_ready.1 hj
      have hi0 := gone (mem_ready.1 hr).1
      have hnot : ∀ e ∈ oj.after, Region.binds md e = true → e.on ≠ i := fun e he hb heq => by
        have h2 := hall e he hb
        rw [heq, hi0] at h2
        cases h2
      have hjm : j ≠ m := by
        rintro rfl
        obtain ⟨e, he, hb, heq⟩ := hwait
        obtain rfl : oj = om := Option.some.inj (hoj.symm.trans hm)
        exact hnot e he hb heq
      have hml : listed.getD m true = false := by
        cases hl : listed.getD m false with
        | true =>
          obtain ⟨e, he, hb, heq⟩ := hwait
          have h2 := hc m om hm hl e he hb
          rw [heq, hi0] at h2
          cases h2
        | false =>
          have hms : m < listed.size := by rw [hz]; exact (Array.getElem?_eq_some_iff.1 hm).1
          simp [hms] at hl ⊢
          exact hl
      have hTa : T ((listed.setIfInBounds i true).setIfInBounds j true) = true := hT _ (by rw [getD_set_ne true hjm, getD_set_ne true (Ne.symm hmi)]; exact hml)
      have h2 := wpOp_putIf hoj (hfree j oj hoj hji hjun hnot) (fun cs b => hsel i oi cs b hi) (fun cs b => hsel j oj cs b hoj) hQ hy h1
      have hfree2 : ∀ k ok, ops[k]? = some ok → k ≠ i → (listed.setIfInBounds j true).getD k true = false →
          (∀ e ∈ ok.after, Region.binds md e = true → e.on ≠ i) → oi.apart ops ok = true := fun k ok hk hki hun hno => by
        refine hfree k ok hk hki ?_ hno
        by_cases hjk : j = k
        · subst hjk; exact hjun
        · rw [getD_set_ne true hjk] at hun; exact hun
      refine wpOp_mono (fun b x h3 => ⟨fun _ => h3.2.1 hTa, ih (listed.setIfInBounds j true) b x (by rw [Array.size_setIfInBounds]; exact hz) (hc.set hj) hfree2 (ready_mono hr (Ne.symm hji)) h3.1 (h3.2.1 hTa) ?_⟩) h2
      rw [Array.setIfInBounds_comm _ _ hji]
      exact h3.2.2
/-- An operation that yields its value in whatever world may be taken first where T does not ask about it. -/
theorem wpTill_first_free {i : Nat} {oi : Oper} {v : Value} (hi : ops[i]? = some oi) (hsel : ∀ (j : Nat) (o : Oper) cs b, ops[j]? = some o → o.op ≠ .select cs b)
    (hQ : ∀ c a w, Q (.panic c) (a.put oi.dst v) w → Q (.panic c) a w) (hT : ∀ l : Array Bool, T (l.setIfInBounds i true) = T l) :
    ∀ (fuel : Nat) (listed : Array Bool) (a : Act) (w : World),
      (∀ j oj, ops[j]? = some oj → j ≠ i → listed.getD j true = false → (∀ e ∈ oj.after, Region.binds md e = true → e.on ≠ i) → oi.apart ops oj = true) →
      i ∈ Region.ready md ops listed → YieldsIf P ops (fun _ => True) oi v a → (T listed = true → S w) →
      wpTill P md ops Q S T fuel (listed.setIfInBounds i true) (a.put oi.dst v) w → wpTill P md ops Q S T (fuel + 1) listed a w := by
  intro fuel
  induction fuel with
  | zero =>
    intro listed a w _ hr hy hS H
    refine ⟨fun h => (by rw [h] at hr; cases hr), fun j hj => ?_⟩
    by_cases hji : j = i
    · subst hji; exact hy.wpOp hi trivial ⟨fun h => hS (by rwa [hT] at h), H⟩
    · have := ready_mono hj hji
      rw [H.1] at this
      cases this
  | succ fuel ih =>
    intro listed a w hfree hr hy hS H
    refine ⟨fun h => (by rw [h] at hr; cases hr), fun j hj => ?_⟩
    by_cases hji : j = i
    · subst hji; exact hy.wpOp hi trivial ⟨fun h => hS (by rwa [hT] at h), H⟩
    · have h1 := H.2 j (ready_mono hj hji)
      obtain ⟨hjun, oj, hoj, hall⟩ := mem_ready.1 hj
      have hnot : ∀ e ∈ oj.after, Region.binds md e = true → e.on ≠ i := fun e he hb heq => by
        have h1 := hall e he hb
        have h0 := (mem_ready.1 hr).1
        rw [heq] at h1
        rcases Nat.lt_or_ge i listed.size with h2 | h2
        · simp [h2] at h0 h1; rw [h0] at h1; cases h1
        · simp [Array.getElem?_eq_none h2] at h1
      have h2 := wpOp_putIf hoj (hfree j oj hoj hji hjun hnot) (fun cs b => hsel i oi cs b hi) (fun cs b => hsel j oj cs b hoj) hQ hy h1
      have hfree2 : ∀ k ok, ops[k]? = some ok → k ≠ i → (listed.setIfInBounds j true).getD k true = false →
          (∀ e ∈ ok.after, Region.binds md e = true → e.on ≠ i) → oi.apart ops ok = true := fun k ok hk hki hun hno => by
        refine hfree k ok hk hki ?_ hno
        by_cases hjk : j = k
        · subst hjk; exact hjun
        · rw [getD_set_ne true hjk] at hun; exact hun
      have comm := Array.setIfInBounds_comm (xs := listed) true true hji
      have hS2 : ∀ {x : World}, (T ((listed.setIfInBounds i true).setIfInBounds j true) = true → S x) → T (listed.setIfInBounds j true) = true → S x := fun h k => h (by rw [← comm, hT]; exact k)
      refine wpOp_mono (fun b x h3 => ⟨hS2 h3.2.1, ih (listed.setIfInBounds j true) b x hfree2 (ready_mono hr (Ne.symm hji)) h3.1 (hS2 h3.2.1) ?_⟩) h2
      rw [comm]
      exact h3.2.2
/-- does one operation wait for another one? -/
def waitsB (md : Region.Mode) (ops : Array Oper) (m i : Nat) : Bool := match ops[m]? with | some o => m != i && o.after.any fun e => Region.binds md e && e.on == i | none => false
/-- S is asked as long as one of these operations has not come up -/
def tillAll (ms : List Nat) (l : Array Bool) : Bool := ms.any fun m => !l.getD m true
/-- take number i first: one of those, m, waits for it -/
theorem wpTill_take {ms : List Nat} {i : Nat} (m : Nat) {oi : Oper} {v : Value} {fuel : Nat} {listed : Array Bool} {a : Act} {w : World} (hi : ops[i]? = some oi)
    (hs : Region.noSelect ops = true) (hf : Region.free md ops listed i = true) (hr : (Region.ready md ops listed).contains i = true)
    (hw : (waitsB md ops m i && ms.contains m && closedB md ops listed && listed.size == ops.size) = true)
    (hQ : ∀ c a w, Q (.panic c) (a.put oi.dst v) w → Q (.panic c) a w) (hy : YieldsIf P ops S oi v a) (hS : S w)
    (h : wpTill P md ops Q S (tillAll ms) fuel (listed.setIfInBounds i true) (a.put oi.dst v) w) : wpTill P md ops Q S (tillAll ms) (fuel + 1) listed a w := by
  simp only [Bool.and_eq_true, beq_iff_eq, List.contains_iff_mem] at hw
  obtain ⟨⟨⟨h1, h2⟩, h3⟩, h4⟩ := hw
  unfold waitsB at h1
  cases hm : ops[m]? with
  | none => rw [hm] at h1; cases h1
  | some om =>
    rw [hm] at h1
    simp only [Bool.and_eq_true, bne_iff_ne, ne_eq, Array.any_eq_true'] at h1
    obtain ⟨hmi, e, he, hb, heq⟩ := h1
    exact wpTill_first hi (Region.noSelect_spec hs) hQ hm hmi ⟨e, he, hb, beq_iff_eq.1 heq⟩ (fun l hl => List.any_eq_true.2 ⟨m, h2, by rw [hl]; rfl⟩) fuel listed a w h4 (Closed.of h3) (Region.free_spec hi hf) (by simpa using hr) hy hS h
/-- take number i first, a copy or an address: whatever the world, and after S, too -/
theorem wpTill_free {ms : List Nat} {i : Nat} {oi : Oper} {v : Value} {fuel : Nat} {listed : Array Bool} {a : Act} {w : World} (hi : ops[i]? = some oi)
    (hs : Region.noSelect ops = true) (hf : Region.free md ops listed i = true) (hr : (Region.ready md ops listed).contains i = true) (hm : ms.contains i = false)
    (hQ : ∀ c a w, Q (.panic c) (a.put oi.dst v) w → Q (.panic c) a w) (hy : YieldsIf P ops (fun _ => True) oi v a) (hS : tillAll ms listed = true → S w)
    (h : wpTill P md ops Q S (tillAll ms) fuel (listed.setIfInBounds i true) (a.put oi.dst v) w) : wpTill P md ops Q S (tillAll ms) (fuel + 1) listed a w := by
  refine wpTill_first_free hi (Region.noSelect_spec hs) hQ (fun l => ?_) fuel listed a w (Region.free_spec hi hf) (by simpa using hr) hy hS h
  unfold tillAll
  have hne : ∀ m ∈ ms, i ≠ m := fun m h1 e => by
    subst e
    rw [List.contains_iff_mem.2 h1] at hm
    cases hm
  clear hm hS h
  induction ms with
  | nil => rfl
  | cons m ms ih =>
    simp only [List.any_cons]
    rw [getD_set_ne true (hne m (by simp)), ih (fun x h1 => hne x (by simp [h1]))]
/-- each of these operations comes up next -/
def NextTill (P : Program) (md : Region.Mode) (ops : Array Oper) (Q : Exit → Act → World → Prop) (S : World → Prop) (T : Array Bool → Bool) (fuel : Nat) (listed : Array Bool) (a : Act) (w : World) (rs : List Nat) : Prop :=
  ∀ i ∈ rs, wpOp P ops Q i (fun b x => (T (listed.setIfInBounds i true) = true → S x) ∧ wpTill P md ops Q S T fuel (listed.setIfInBounds i true) b x) a w
theorem NextTill.nil {fuel : Nat} {listed : Array Bool} {a : Act} {w : World} : NextTill P md ops Q S T fuel listed a w [] := fun _ h => by cases h
theorem NextTill.cons {fuel : Nat} {listed : Array Bool} {a : Act} {w : World} {i : Nat} {o : Oper} {rs : List Nat} (ho : ops[i]? = some o)
    (h : ∀ K : Act → World → Prop, Shut (∀ b x, (T (listed.setIfInBounds i true) = true → S x) → wpTill P md ops Q S T fuel (listed.setIfInBounds i true) b x → K b x) → if Region.wanted o (yielded ops a.tmps) = true then Oper.wp P o a w K Q else K (a.put o.dst undef) w)
    (hs : NextTill P md ops Q S T fuel listed a w rs) : NextTill P md ops Q S T fuel listed a w (i :: rs) := fun j hj => by
  rcases List.mem_cons.1 hj with rfl | hj
  · exact wpOp_step ho (fun K hK => h K (fun b x h1 h2 => hK b x ⟨h1, h2⟩))
  · exact hs j hj
theorem wpTill_next {rs : List Nat} {fuel : Nat} {listed : Array Bool} {a : Act} {w : World} (hr : Region.ready md ops listed = rs) (hne : rs ≠ [])
    (h : NextTill P md ops Q S T fuel listed a w rs) : wpTill P md ops Q S T (fuel + 1) listed a w :=
  ⟨fun h0 => absurd (hr ▸ h0) hne, hr ▸ h⟩
theorem wpTill_done {listed : Array Bool} {a : Act} {w : World} (hr : Region.ready md ops listed = []) (h : Q .normal a w) : ∀ fuel, wpTill P md ops Q S T fuel listed a w
  | 0 => ⟨hr, h⟩
  | _ + 1 => ⟨fun _ => h, by rw [hr]; simp⟩
/-- the beginning: S holds behind the draw; it is asked till all of ms have come up -/
theorem wp_region_till (S : World → Prop) (ms : List Nat) {id : Nat} {a : Act} {w : World} (hm : P.follows .mixedOrders = true) (hS : S w.drew)
    (h : S w.drew → wpTill P .any ops Q S (tillAll ms) ops.size (Array.replicate ops.size false) a w.drew) : (Code.region id ops true).wp P Q a w :=
  wp_region_any hm (wpAny_of_till _ _ _ _ (h hS))
end Go.Proofs.YtnkpjkomokkhcaaGreatDoor
namespace Go.Proofs.YtnkpjkomokkhcaaGreatDoor
open Go Go.RowKit Go.Lib
set_option maxRecDepth 100000
set_option maxRecDepth 1000000
set_option maxRecDepth 100000
theorem cells_setCell {w : World} {g : Nat} {cur : Array Value} {t : TypeId} (h : w.heap[g]? = some (.cells cur t (0, 0))) (j : Nat) (u : Value) :
    (w.setCell ⟨g, j, none⟩ u).heap[g]? = some (.cells (cur.setIfInBounds j u) t (0, 0)) := by
  simp [World.setCell, Array.getElem?_modify, h]
theorem ownsRow_put {w : World} {base : Nat} {e : TypeId} {size n cap g : Nat} {xs : List Value} (h : w.ownsRow base e size (.slice (some ⟨g, 0, none⟩) n cap) n xs) (j : Nat) (u : Value) :
    (w.setCell ⟨g, j, none⟩ u).ownsRow base e size (.slice (some ⟨g, 0, none⟩) n cap) n (xs.set j u) := by
  obtain ⟨h1, h2⟩ := h
  refine ⟨by rw [List.length_set]; exact h1, ?_⟩
  rcases h2 with ⟨h2, _⟩ | ⟨g', cap', cur, hv, hg, hh, hn, hm, hs, ht⟩
  · cases h2
  · cases hv
    exact .inr ⟨g, cap, _, rfl, hg, cells_setCell hh j u, hn, hm, by simpa using hs, by rw [← ht]; simp [List.take_set]⟩
theorem OwnP.put {B : Nat} {g cap : Nat} {o : List Pc} {y : Pc} {s : ByteArray} {w : World} (h : OwnP B (.slice (some ⟨g, 0, none⟩) (o.length + 1) cap) (o ++ [y]) w) :
    OwnP B (.slice (some ⟨g, 0, none⟩) (o.length + 1) cap) (o ++ [⟨y.k, s, y.c⟩]) (w.setCell ⟨g, o.length * 3 + 1, none⟩ (.string s)) := by
  unfold OwnP at h ⊢
  rw [List.length_append] at h ⊢
  have := ownsRow_put h (o.length * 3 + 1) (.string s)
  have hc : (cells3 o).length = o.length * 3 := by
    have h1 := h.1
    rw [cells3_app, List.length_append] at h1
    simp [cells3] at h1 ⊢
    omega
  rw [cells3_app] at this ⊢
  rw [List.set_append_right (h := by omega)] at this
  rw [show o.length * 3 + 1 - (cells3 o).length = 1 by omega] at this
  exact this
def addP (l : List Pc) (x : Pc) : List Pc := match l.getLast? with
  | some y => if x.k = 1 ∧ y.k = 1 then l.dropLast ++ [⟨y.k, y.s ++ x.s, y.c⟩] else l ++ [x]
  | none => l ++ [x]
theorem addP_nil (x : Pc) : addP [] x = [x] := rfl
theorem addP_more {o : List Pc} {y x : Pc} (h : ¬ (x.k = 1 ∧ y.k = 1)) : addP (o ++ [y]) x = (o ++ [y]) ++ [x] := by unfold addP; rw [List.getLast?_concat]; simp [h]
theorem addP_join {o : List Pc} {y x : Pc} (h : x.k = 1) (h' : y.k = 1) : addP (o ++ [y]) x = o ++ [⟨y.k, y.s ++ x.s, y.c⟩] := by unfold addP; rw [List.getLast?_concat]; simp [h, h']
theorem OwnP.last {B : Nat} {o : List Pc} {y : Pc} {v : Value} {w : World} (h : OwnP B v (o ++ [y]) w) : ∃ g cap, v = .slice (some ⟨g, 0, none⟩) (o.length + 1) cap ∧ o.length + 1 ≤ cap ∧ g < w.heap.size ∧ B ≤ g ∧
    w.cell? ⟨g, o.length * 3, none⟩ = some (.int .u8 y.k) ∧ w.cell? ⟨g, o.length * 3 + 1, none⟩ = some (.string y.s) ∧ w.cell? ⟨g, o.length * 3 + 2, none⟩ = some (.bool y.c) ∧ w.frozen? ⟨g, o.length * 3 + 1, none⟩ = false := by
  have hp := h.at
  obtain ⟨p, cap', e, h1, h2, h3⟩ := hp
  rcases h.2 with ⟨rfl, h0⟩ | ⟨g, cap, cur, rfl, hg, hh, hn, hm, _⟩
  · simp at h0
  · cases e
    obtain ⟨A, hA1, hA, hcell⟩ := h3 (by simp)
    cases hA1
    obtain ⟨c0, c1, c2⟩ := pcs_cells hA hcell (k := o.length) (by simp) (Below.refl _ w)
    have hy : (o ++ [y]).getD o.length Go.Proofs.YtnkpjkomokkhcaaGreatDoor.nil = y := by simp
    rw [hy, add_at] at c0 c1 c2
    refine ⟨g, _, by rw [List.length_append, List.length_singleton], by simpa using hn, hA, hg, c0, c1, c2, Lib.frozen_of_heap hh _⟩
/-- all that was is as it was, but for the row itself -/
def BesideOwn (w w' : World) (v : Value) : Prop := ∀ b, b < w.heap.size → v.ownBlock ≠ some b → w'.heap[b]? = w.heap[b]?
theorem BesideOwn.grown {w w' : World} {v : Value} {o o' : Obj} (h : ((w.alloc o).alloc o').grownBy w' v.ownBlock) : BesideOwn w w' v := fun b hb hv => by
  have h1 : b < (w.alloc o).heap.size := by simp; omega
  have h2 : b < ((w.alloc o).alloc o').heap.size := by simp; omega
  rw [h.block b h2 (fun e => hv e.symm), Below.heap_alloc _ _ _ h1, Below.heap_alloc _ _ _ hb]
set_option maxRecDepth 100000
structure Js where
  o : List Pc
  t : List UInt8
  last : Pc
  due : Bool
def js3 (x : Pc) (st : Js) : Js := if x.k = 1 then ⟨st.o, st.t ++ x.s.data.toList, st.last, st.due⟩ else ⟨st.o ++ flush st.t ++ [x], [], st.last, st.due⟩
theorem list_size (s : ByteArray) : s.data.toList.length = s.size := rfl
theorem flush_text {o : List Pc} {t : List UInt8} {s : ByteArray} (ho : ∀ y, o.getLast? = some y → y.k ≠ 1) (hs : 0 < s.size) : addP (o ++ flush t) ⟨1, s, false⟩ = o ++ flush (t ++ s.data.toList) := by
  have hne : s.data.toList ≠ [] := by intro h; rw [← list_size, h] at hs; simp at hs
  by_cases ht : t = []
  · subst ht
    have e1 : flush [] = [] := rfl
    have e2 : flush ([] ++ s.data.toList) = [⟨1, s, false⟩] := by unfold flush; rw [List.nil_append, if_neg hne]; rfl
    rw [e1, e2, List.append_nil]
    rcases List.eq_nil_or_concat o with rfl | ⟨o', y, rfl⟩
    · rfl
    · rw [List.concat_eq_append] at ho ⊢
      exact addP_more (fun h => ho y List.getLast?_concat h.2)
  · have e1 : flush t = [⟨1, bytes t, false⟩] := by unfold flush; rw [if_neg ht]
    have e2 : flush (t ++ s.data.toList) = [⟨1, bytes (t ++ s.data.toList), false⟩] := by unfold flush; rw [if_neg (by simp [ht])]
    rw [e1, e2, addP_join rfl rfl]
    apply congrArg (fun z => o ++ [Pc.mk 1 z false])
    apply ByteArray.ext
    apply Array.ext'
    simp [bytes]
theorem flush_other {o : List Pc} {t : List UInt8} {x : Pc} (hx : x.k ≠ 1) : addP (o ++ flush t) x = o ++ flush t ++ [x] := by
  rcases List.eq_nil_or_concat (o ++ flush t) with e | ⟨o', y, e⟩
  · rw [e]; rfl
  · rw [e, List.concat_eq_append]
    exact addP_more (fun h => hx h.1)
/-- a word's piece behind all that stands -/
theorem js3_add {st : Js} {x : Pc} (ho : ∀ y, st.o.getLast? = some y → y.k ≠ 1) (hx : x.k = 1 → x = ⟨1, x.s, false⟩ ∧ 0 < x.s.size) :
    addP (st.o ++ flush st.t) x = (js3 x st).o ++ flush (js3 x st).t ∧ (∀ y, (js3 x st).o.getLast? = some y → y.k ≠ 1) ∧ (js3 x st).last = st.last ∧ (js3 x st).due = st.due := by
  unfold js3
  by_cases h : x.k = 1
  · rw [if_pos h]
    obtain ⟨e, hs⟩ := hx h
    refine ⟨?_, ho, rfl, rfl⟩
    rw [e]
    exact flush_text ho hs
  · rw [if_neg h]
    refine ⟨by rw [flush_other h]; exact (List.append_nil _).symm, fun y hy => ?_, rfl, rfl⟩
    rw [List.getLast?_concat] at hy
    cases hy
    exact h
set_option maxHeartbeats 2000000 in
theorem putTextP_any (B b : Nat) (o : List Pc) (t : List UInt8) (x : Pc) (w : World) (h : JoinAt B b o t w) (hk : x.k = 1) (hlen : t.length + x.s.size ≤ 100000000) (hBw : B ≤ w.heap.size) :
    Calls Tryz.prog 37 #[.pointer (some ⟨b, 0, none⟩), pcV x] w fun e w' => e = .returned (.tuple #[]) ∧ JoinAt B b o (t ++ x.s.data.toList) w' ∧ KeptBut B b w w' := by
  have ag := Tryz.isAgg52
  have zg := Tryz.sizeOf52
  have hbx := below_box (w := w) (pcC x)
  have cT := putText_any B b o t x.s _ (h.step hbx) hlen (Nat.le_trans hBw hbx.size)
  have HBX := Lib.hid ((KeptBut.refl B b w).alloc hBw (pcC x))
  clear h hbx
  obtain ⟨k, s, c⟩ := x
  dsimp only at hk hlen cT
  subst hk
  unfold pcV
  unfold pcC at cT HBX
  go_enter Tryz.func37, Tryz.ntmps37
  go_wp2_with (go_at_call 75; (with_reducible refine cT.mono ?_); rintro e w2 ⟨rfl, hj2, hk2⟩; have HJ := Lib.hid hj2; have HK := Lib.hid (HBX.out.trans hk2); clear hj2 hk2)
  refine bodyPost_ret (results_none rfl _ _ _) rfl ?_
  exact ⟨rfl, HJ.out, HK.out⟩
/-- both kinds of pieces -/
theorem putPc_any (B b : Nat) (st : Js) (x : Pc) (w : World) (h : JoinAt B b st.o st.t w) (hlen : st.t.length + x.s.size ≤ 100000000) (holen : st.o.length ≤ 1000000) (hBw : B ≤ w.heap.size) :
    Calls Tryz.prog 37 #[.pointer (some ⟨b, 0, none⟩), pcV x] w fun e w' => e = .returned (.tuple #[]) ∧ JoinAt B b (js3 x st).o (js3 x st).t w' ∧ KeptBut B b w w' := by
  unfold js3
  by_cases hk : x.k = 1
  · rw [if_pos hk]
    exact putTextP_any B b st.o st.t x w h hk hlen hBw
  · rw [if_neg hk]
    exact put_any B b st.o st.t x w h hk (by omega) holen hBw
set_option maxHeartbeats 2000000 in
theorem isLong_any (l : List Pc) (v : Value) (w : World) (hv : ∃ ao ca, v = .slice ao l.length ca) : Calls Tryz.prog 41 #[v] w fun e w' => e = .returned (.bool (decide (512 < l.length))) ∧ w' = w := by
  obtain ⟨ao, ca, rfl⟩ := hv
  by_cases h : (512 : Int) < (l.length : Int)
  · have HX := Lib.hid (show decide (512 < l.length) = true by simp; omega)
    go_enter Tryz.func41, Tryz.ntmps41
    go_wp2
    go_ret
    exact ⟨ret_bool HX.out.symm, rfl⟩
  · have HX := Lib.hid (show decide (512 < l.length) = false by simp; omega)
    go_enter Tryz.func41, Tryz.ntmps41
    go_wp2
    go_ret
    exact ⟨ret_bool HX.out.symm, rfl⟩
end Go.Proofs.YtnkpjkomokkhcaaGreatDoor
