/- Facts on unifying as a plain recursion: it does not depend on the order, nor on which two are taken first. -/
import Derived.Test.YtdfhciijpcgicaaGreatDoorUni
import Derived.Test.YtdfhciijpcgicaaGreatDoorFeats4
import Derived.Sort.Walk0
namespace Go.Proofs.YtdfhciijpcgicaaGreatDoor
open Go Go.RowKit
theorem less_iff {x y : Ft} : less x y = true ↔ x.1.toList < y.1.toList := by
  unfold less
  rw [bytesLess_eq, decide_eq_true_eq]
theorem less_trans {x y z : Ft} (h : less x y = true) (h' : less y z = true) : less x z = true := by
  rw [less_iff] at h h' ⊢
  exact List.lt_trans h h'
theorem less_self (x : Ft) : less x x = false := by
  cases h : less x x
  · rfl
  · rw [less_iff] at h
    exact absurd h (List.lt_irrefl _)
theorem name_of {x y : Ft} (h : less x y = false) (h' : less y x = false) : x.1.toList = y.1.toList := by
  have a : ¬ x.1.toList < y.1.toList := by rw [← less_iff, h]; simp
  have b : ¬ y.1.toList < x.1.toList := by rw [← less_iff, h']; simp
  rcases List.le_iff_lt_or_eq.1 (List.not_lt.1 a) with h1 | h1
  · exact absurd h1 b
  · exact h1.symm
theorem less_name {x y : Ft} (h : less x y = true) : x.1.toList ≠ y.1.toList := by
  intro e
  rw [less_iff, e] at h
  exact List.lt_irrefl _ h
def Rising (l : List Ft) : Prop := l.Pairwise fun x y => less x y = true
theorem rising_incr {l : List Ft} (h : Rising l) : incr l = true := by
  refine incr_true (k := l.length) ?_ (Nat.le_refl _)
  intro i hi h1 _
  exact List.pairwise_iff_getElem.1 h (i - 1) i (by omega) hi (by omega)
theorem incr_rising {l : List Ft} (h : incr l = true) : Rising l := by
  have hr := risen_of_incr h
  refine List.pairwise_iff_getElem.2 ?_
  intro i j hi hj hij
  obtain ⟨d, rfl⟩ : ∃ d, j = i + d + 1 := ⟨j - i - 1, by omega⟩
  clear hij
  induction d with
  | zero => exact hr (i + 1) hj (by omega) (by omega)
  | succ d ih => exact less_trans (ih (by omega)) (hr (i + (d + 1) + 1) hj (by omega) (by omega))
theorem uni_mem {l m r : List Ft} (h : uni l m = some r) : ∀ z, z ∈ r ↔ z ∈ l ∨ z ∈ m := by
  induction l, m using uni.induct generalizing r with
  | case1 b => rw [uni_left] at h; cases h; simp
  | case2 a _ => rw [uni_right] at h; cases h; simp
  | case3 x a y b hl ih =>
    rw [uni_less hl] at h
    cases hu : uni a (y :: b) with
    | none => rw [hu] at h; cases h
    | some r' => rw [hu] at h; cases h; intro z; have := ih hu z; simp at this ⊢; rw [this]; simp [or_assoc]
  | case4 x a y b hl hm ih =>
    rw [uni_more (by simpa using hl) hm] at h
    cases hu : uni (x :: a) b with
    | none => rw [hu] at h; cases h
    | some r' =>
      rw [hu] at h; cases h; intro z; have := ih hu z; simp at this ⊢; rw [this]
      constructor
      · rintro (h | (h | h) | h) <;> simp [h]
      · rintro ((h | h) | h | h) <;> simp [h]
  | case5 x a y b hl hm hv ih =>
    rw [uni_same (by simpa using hl) (by simpa using hm) hv] at h
    have e : x = y := ft_ext (name_of (by simpa using hl) (by simpa using hm)) hv
    subst e
    cases hu : uni a b with
    | none => rw [hu] at h; cases h
    | some r' =>
      rw [hu] at h; cases h; intro z; have := ih hu z; simp at this ⊢; rw [this]
      constructor
      · rintro (h | h | h) <;> simp [h]
      · rintro ((h | h) | h | h) <;> simp [h]
  | case6 x a y b hl hm hv => rw [uni_clash (by simpa using hl) (by simpa using hm) hv] at h; cases h
theorem uni_rising {l m r : List Ft} (h : uni l m = some r) (hl : Rising l) (hm : Rising m) : Rising r := by
  induction l, m using uni.induct generalizing r with
  | case1 b => rw [uni_left] at h; cases h; exact hm
  | case2 a _ => rw [uni_right] at h; cases h; exact hl
  | case3 x a y b hs ih =>
    rw [uni_less hs] at h
    cases hu : uni a (y :: b) with
    | none => rw [hu] at h; cases h
    | some r' =>
      rw [hu] at h; cases h
      obtain ⟨h1, h2⟩ := List.pairwise_cons.1 hl
      refine List.pairwise_cons.2 ⟨fun z hz => ?_, ih hu h2 hm⟩
      rcases (uni_mem hu z).1 hz with hz | hz
      · exact h1 z hz
      · rcases List.mem_cons.1 hz with rfl | hz
        · exact hs
        · exact less_trans hs ((List.pairwise_cons.1 hm).1 z hz)
  | case4 x a y b hs ht ih =>
    rw [uni_more (by simpa using hs) ht] at h
    cases hu : uni (x :: a) b with
    | none => rw [hu] at h; cases h
    | some r' =>
      rw [hu] at h; cases h
      obtain ⟨h1, h2⟩ := List.pairwise_cons.1 hm
      refine List.pairwise_cons.2 ⟨fun z hz => ?_, ih hu hl h2⟩
      rcases (uni_mem hu z).1 hz with hz | hz
      · rcases List.mem_cons.1 hz with rfl | hz
        · exact ht
        · exact less_trans ht ((List.pairwise_cons.1 hl).1 z hz)
      · exact h1 z hz
  | case5 x a y b hs ht hv ih =>
    rw [uni_same (by simpa using hs) (by simpa using ht) hv] at h
    have e : x = y := ft_ext (name_of (by simpa using hs) (by simpa using ht)) hv
    subst e
    cases hu : uni a b with
    | none => rw [hu] at h; cases h
    | some r' =>
      rw [hu] at h; cases h
      obtain ⟨h1, h2⟩ := List.pairwise_cons.1 hl
      obtain ⟨h3, h4⟩ := List.pairwise_cons.1 hm
      refine List.pairwise_cons.2 ⟨fun z hz => ?_, ih hu h2 h4⟩
      rcases (uni_mem hu z).1 hz with hz | hz
      · exact h1 z hz
      · exact h3 z hz
  | case6 x a y b hs ht hv => rw [uni_clash (by simpa using hs) (by simpa using ht) hv] at h; cases h
/-- one name, two values -/
def Clash (l m : List Ft) : Prop := ∃ x ∈ l, ∃ y ∈ m, x.1.toList = y.1.toList ∧ x ≠ y
theorem uni_none_clash {l m : List Ft} (h : uni l m = none) : Clash l m := by
  induction l, m using uni.induct with
  | case1 b => rw [uni_left] at h; cases h
  | case2 a _ => rw [uni_right] at h; cases h
  | case3 x a y b hs ih =>
    rw [uni_less hs] at h
    obtain ⟨p, hp, q, hq, e⟩ := ih (by simpa using h)
    exact ⟨p, by simp [hp], q, hq, e⟩
  | case4 x a y b hs ht ih =>
    rw [uni_more (by simpa using hs) ht] at h
    obtain ⟨p, hp, q, hq, e⟩ := ih (by simpa using h)
    exact ⟨p, hp, q, by simp [hq], e⟩
  | case5 x a y b hs ht hv ih =>
    rw [uni_same (by simpa using hs) (by simpa using ht) hv] at h
    obtain ⟨p, hp, q, hq, e⟩ := ih (by simpa using h)
    exact ⟨p, by simp [hp], q, by simp [hq], e⟩
  | case6 x a y b hs ht hv =>
    exact ⟨x, by simp, y, by simp, name_of (by simpa using hs) (by simpa using ht), fun e => hv (by rw [e])⟩
theorem rising_one {l : List Ft} (h : Rising l) {x y : Ft} (hx : x ∈ l) (hy : y ∈ l) (e : x.1.toList = y.1.toList) : x = y := by
  induction l with
  | nil => simp at hx
  | cons z l ih =>
    obtain ⟨h1, h2⟩ := List.pairwise_cons.1 h
    rcases List.mem_cons.1 hx with e1 | hx' <;> rcases List.mem_cons.1 hy with e2 | hy'
    · rw [e1, e2]
    · subst e1; exact absurd e (less_name (h1 y hy'))
    · subst e2; exact absurd e.symm (less_name (h1 x hx'))
    · exact ih h2 hx' hy'
theorem rising_ext {l m : List Ft} (hl : Rising l) (hm : Rising m) (h : ∀ z, z ∈ l ↔ z ∈ m) : l = m := by
  induction l generalizing m with
  | nil =>
    cases m with
    | nil => rfl
    | cons y m => exact absurd ((h y).2 (by simp)) (by simp)
  | cons x l ih =>
    cases m with
    | nil => exact absurd ((h x).1 (by simp)) (by simp)
    | cons y m =>
      obtain ⟨h1, h2⟩ := List.pairwise_cons.1 hl
      obtain ⟨h3, h4⟩ := List.pairwise_cons.1 hm
      have exy : x = y := by
        rcases List.mem_cons.1 ((h x).1 (by simp)) with e | hx
        · exact e
        · rcases List.mem_cons.1 ((h y).2 (by simp)) with e | hy
          · exact e.symm
          · have a := h3 x hx
            have b := h1 y hy
            exact absurd rfl (less_name (less_trans a b))
      subst exy
      congr 1
      refine ih h2 h4 fun z => ⟨fun hz => ?_, fun hz => ?_⟩
      · rcases List.mem_cons.1 ((h z).1 (by simp [hz])) with rfl | h'
        · exact absurd rfl (less_name (h1 z hz))
        · exact h'
      · rcases List.mem_cons.1 ((h z).2 (by simp [hz])) with rfl | h'
        · exact absurd rfl (less_name (h3 z hz))
        · exact h'
theorem not_clash {l m r : List Ft} (h : uni l m = some r) (hl : Rising l) (hm : Rising m) : ¬ Clash l m := by
  rintro ⟨x, hx, y, hy, e, hne⟩
  exact hne (rising_one (uni_rising h hl hm) ((uni_mem h x).2 (.inl hx)) ((uni_mem h y).2 (.inr hy)) e)
theorem uni_some_of {l m : List Ft} (h : ¬ Clash l m) : ∃ r, uni l m = some r := by
  cases hu : uni l m with
  | none => exact absurd (uni_none_clash hu) h
  | some r => exact ⟨r, rfl⟩
theorem clash_comm {l m : List Ft} (h : Clash l m) : Clash m l := by
  obtain ⟨x, hx, y, hy, e, hne⟩ := h
  exact ⟨y, hy, x, hx, e.symm, fun h => hne h.symm⟩
theorem unify_some {l m r : List Ft} : unify l m = some r ↔ Rising l ∧ Rising m ∧ uni l m = some r := by
  unfold unify
  split
  · rename_i h
    exact ⟨fun e => ⟨incr_rising h.1, incr_rising h.2, e⟩, fun e => e.2.2⟩
  · rename_i h
    refine ⟨fun e => (by cases e), fun e => absurd ⟨rising_incr e.1, rising_incr e.2.1⟩ h⟩
theorem unify_comm (l m : List Ft) : unify m l = unify l m := by
  cases h : unify l m with
  | some r =>
    obtain ⟨hl, hm, hu⟩ := unify_some.1 h
    obtain ⟨s, hs⟩ := uni_some_of fun c => not_clash hu hl hm (clash_comm c)
    have : r = s := rising_ext (uni_rising hu hl hm) (uni_rising hs hm hl) fun z => by rw [uni_mem hu, uni_mem hs]; exact or_comm
    subst this
    exact unify_some.2 ⟨hm, hl, hs⟩
  | none =>
    cases h' : unify m l with
    | none => rfl
    | some r =>
      obtain ⟨hm, hl, hu⟩ := unify_some.1 h'
      obtain ⟨s, hs⟩ := uni_some_of fun c => not_clash hu hm hl (clash_comm c)
      rw [unify_some.2 ⟨hl, hm, hs⟩] at h
      cases h
theorem unify_assoc {a b c x : List Ft} (h : unify a b = some x) : unify x c = (unify b c).bind (unify a) := by
  obtain ⟨ha, hb, hu⟩ := unify_some.1 h
  have hx := uni_rising hu ha hb
  cases h1 : unify b c with
  | none =>
    cases h2 : unify x c with
    | none => rfl
    | some p =>
      obtain ⟨_, hc, hp⟩ := unify_some.1 h2
      obtain ⟨s, hs⟩ := uni_some_of (l := b) (m := c) fun ⟨y, hy, z, hz, e, hne⟩ => not_clash hp hx hc ⟨y, (uni_mem hu y).2 (.inr hy), z, hz, e, hne⟩
      rw [unify_some.2 ⟨hb, hc, hs⟩] at h1
      cases h1
  | some q =>
    obtain ⟨_, hc, hq⟩ := unify_some.1 h1
    have hqr := uni_rising hq hb hc
    show unify x c = unify a q
    cases h2 : unify x c with
    | some p =>
      obtain ⟨_, _, hp⟩ := unify_some.1 h2
      obtain ⟨s, hs⟩ := uni_some_of (l := a) (m := q) fun ⟨y, hy, z, hz, e, hne⟩ => by
        rcases (uni_mem hq z).1 hz with hz | hz
        · exact not_clash hu ha hb ⟨y, hy, z, hz, e, hne⟩
        · exact not_clash hp hx hc ⟨y, (uni_mem hu y).2 (.inl hy), z, hz, e, hne⟩
      have : p = s := rising_ext (uni_rising hp hx hc) (uni_rising hs ha hqr) fun z => by rw [uni_mem hp, uni_mem hu, uni_mem hs, uni_mem hq, or_assoc]
      subst this
      exact (unify_some.2 ⟨ha, hqr, hs⟩).symm
    | none =>
      cases h3 : unify a q with
      | none => rfl
      | some s =>
        obtain ⟨_, _, hs⟩ := unify_some.1 h3
        obtain ⟨p, hp⟩ := uni_some_of (l := x) (m := c) fun ⟨y, hy, z, hz, e, hne⟩ => by
          rcases (uni_mem hu y).1 hy with hy | hy
          · exact not_clash hs ha hqr ⟨y, hy, z, (uni_mem hq z).2 (.inr hz), e, hne⟩
          · exact not_clash hq hb hc ⟨y, hy, z, hz, e, hne⟩
        rw [unify_some.2 ⟨hx, hc, hp⟩] at h2
        cases h2
theorem unify_nil (c : List Ft) : unify c [] = if incr c = true then some c else none := by
  unfold unify
  rw [uni_right]
  have : incr ([] : List Ft) = true := rfl
  simp [this]
theorem has_iff {l : List Ft} {x : Ft} : has l x = true ↔ x ∈ l := by
  unfold has
  simp
theorem subs_iff {l m : List Ft} : subs l m = true ↔ ∀ x ∈ l, x ∈ m := by
  unfold subs
  simp [has_iff]
theorem unify_subs {a b x : List Ft} (h : unify a b = some x) : subs a x = true ∧ subs b x = true := by
  obtain ⟨_, _, hu⟩ := unify_some.1 h
  exact ⟨subs_iff.2 fun z hz => (uni_mem hu z).2 (.inl hz), subs_iff.2 fun z hz => (uni_mem hu z).2 (.inr hz)⟩
theorem unify_least {a b x c : List Ft} (h : unify a b = some x) (ha : subs a c = true) (hb : subs b c = true) : subs x c = true := by
  obtain ⟨_, _, hu⟩ := unify_some.1 h
  refine subs_iff.2 fun z hz => ?_
  rcases (uni_mem hu z).1 hz with h | h
  · exact subs_iff.1 ha z h
  · exact subs_iff.1 hb z h
theorem unify_length {a b x : List Ft} (h : unify a b = some x) : x.length ≤ a.length + b.length := uni_length (unify_some.1 h).2.2
end Go.Proofs.YtdfhciijpcgicaaGreatDoor
