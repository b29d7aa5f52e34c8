/- Matches of grams, as data: how many of a list are found again in another one, one by one. -/
import GoSem.Step
namespace Go.Proofs.YthgllfbigcoaiaaGreatDoor
open Go
set_option maxRecDepth 100000
section
variable {G G' : Type} [DecidableEq G] [DecidableEq G']
/-- one fewer of an element -/
def lessOne (c : G → Nat) (g : G) : G → Nat := fun x => if x = g then c x - 1 else c x
/-- elements of a list are looked up one by one, and each that is found is used up -/
def mt (c : G → Nat) : List G → Nat
  | [] => 0
  | g :: r => if 0 < c g then 1 + mt (lessOne c g) r else mt c r
theorem mt_cons (c : G → Nat) (g : G) (r : List G) : mt c (g :: r) = if 0 < c g then 1 + mt (lessOne c g) r else mt c r := rfl
/-- how many of a list are an element -/
def cn (l : List G) (g : G) : Nat := l.count g
theorem cn_nil (g : G) : cn ([] : List G) g = 0 := rfl
theorem cn_cons (a : G) (l : List G) (g : G) : cn (a :: l) g = cn l g + if a = g then 1 else 0 := by
  unfold cn
  rw [List.count_cons]
  by_cases h : a = g <;> simp [h]
theorem cn_snoc (l : List G) (a g : G) : cn (l ++ [a]) g = cn l g + if a = g then 1 else 0 := by
  unfold cn
  rw [List.count_append, List.count_cons]
  by_cases h : a = g <;> simp [h]
theorem cn_pos {l : List G} {g : G} : 0 < cn l g ↔ g ∈ l := List.count_pos_iff
theorem cn_erase (l : List G) (g : G) : cn (l.erase g) = lessOne (cn l) g := by
  funext x
  unfold cn lessOne
  by_cases h : x = g
  · subst h; rw [if_pos rfl, List.count_erase_self]
  · rw [if_neg h, List.count_erase_of_ne h]
theorem mt_le (c : G → Nat) : ∀ l : List G, mt c l ≤ l.length
  | [] => Nat.le_refl _
  | g :: r => by
    rw [mt_cons]
    have h1 := mt_le (lessOne c g) r
    have h2 := mt_le c r
    simp only [List.length_cons]
    split <;> omega
/-- Both orders give the same: by the list of which elements are used up. -/
theorem mt_head : ∀ (r : List G) (l : List G) (g : G), mt (cn (g :: l)) r = if g ∈ r then 1 + mt (cn l) (r.erase g) else mt (cn l) r
  | [], l, g => by simp [mt]
  | x :: r, l, g => by
    rw [mt_cons]
    by_cases hx : x = g
    · subst hx
      have h0 : 0 < cn (x :: l) x := cn_pos.2 (List.mem_cons_self ..)
      rw [if_pos h0, if_pos (List.mem_cons_self ..), ← cn_erase]
      simp
    · have hne : ¬ g = x := fun e => hx e.symm
      have hm : (0 < cn (g :: l) x) ↔ 0 < cn l x := by rw [cn_cons, if_neg hne]; omega
      have hg : g ∈ x :: r ↔ g ∈ r := by simp [hne]
      have he : (x :: r).erase g = x :: r.erase g := by rw [List.erase_cons]; simp [hx]
      by_cases hp : 0 < cn l x
      · rw [if_pos (hm.2 hp), ← cn_erase]
        have : (g :: l).erase x = g :: l.erase x := by rw [List.erase_cons]; simp [hne]
        rw [this, mt_head r (l.erase x) g]
        by_cases hgr : g ∈ r
        · rw [if_pos hgr, if_pos (hg.2 hgr), he, mt_cons, if_pos hp, cn_erase]
        · rw [if_neg hgr, if_neg (fun h => hgr (hg.1 h)), mt_cons, if_pos hp, cn_erase]
      · rw [if_neg (fun h => hp (hm.1 h)), mt_head r l g]
        by_cases hgr : g ∈ r
        · rw [if_pos hgr, if_pos (hg.2 hgr), he, mt_cons, if_neg hp]
        · rw [if_neg hgr, if_neg (fun h => hgr (hg.1 h)), mt_cons, if_neg hp]
theorem mt_none : ∀ l : List G, mt (cn ([] : List G)) l = 0
  | [] => rfl
  | g :: r => by rw [mt_cons, if_neg (by simp [cn_nil]), mt_none r]
theorem mt_comm : ∀ a b : List G, mt (cn a) b = mt (cn b) a
  | [], b => by rw [mt_none]; rfl
  | g :: l, b => by
    rw [mt_head b l g, mt_cons]
    by_cases hg : g ∈ b
    · rw [if_pos hg, if_pos (cn_pos.2 hg), mt_comm l (b.erase g), cn_erase]
    · rw [if_neg hg, if_neg (fun h => hg (cn_pos.1 h)), mt_comm l b]
theorem mt_self : ∀ a : List G, mt (cn a) a = a.length
  | [] => rfl
  | g :: l => by
    rw [mt_head (g :: l) l g, if_pos (List.mem_cons_self ..)]
    have : (g :: l).erase g = l := by simp
    rw [this, mt_self l, List.length_cons]
    omega
/-- one element more, or fewer, makes one of difference at most -/
theorem mt_less (g : G) : ∀ (l : List G) (c : G → Nat), mt c l ≤ 1 + mt (lessOne c g) l
  | [], c => by simp [mt]
  | x :: r, c => by
    rw [mt_cons, mt_cons]
    by_cases hx : 0 < c x
    · rw [if_pos hx]
      by_cases h2 : 0 < lessOne c g x
      · rw [if_pos h2]
        have hcomm : lessOne (lessOne c g) x = lessOne (lessOne c x) g := by
          funext y
          unfold lessOne
          by_cases h1 : y = x
          · subst h1
            by_cases h2 : y = g
            · subst h2; rfl
            · simp [h2]
          · by_cases h2 : y = g
            · subst h2; simp [h1]
            · simp [h1, h2]
        rw [hcomm]
        have := mt_less g r (lessOne c x)
        omega
      · rw [if_neg h2]
        -- then x is g, and there was one
        have hxg : x = g := by
          by_cases e : x = g
          · exact e
          · exfalso; unfold lessOne at h2; rw [if_neg e] at h2; exact h2 hx
        subst hxg
        exact Nat.le_refl _
    · rw [if_neg hx]
      have h2 : ¬ 0 < lessOne c g x := by unfold lessOne; split <;> omega
      rw [if_neg h2]
      exact mt_less g r c
theorem mt_snoc (l m : List G) : ∀ c : G → Nat, mt c l ≤ mt c (l ++ m) := by
  induction l with
  | nil => intro c; exact Nat.zero_le _
  | cons x r ih =>
    intro c
    rw [List.cons_append, mt_cons, mt_cons]
    split
    · have := ih (lessOne c x); omega
    · exact ih c
/-- What is found finely is found coarsely. -/
theorem mt_map (f : G' → G) : ∀ (B : List G') (A : List G') (c : G → Nat), (∀ g, cn (A.map f) g ≤ c g) → mt (cn A) B ≤ mt c (B.map f)
  | [], _, _, _ => Nat.zero_le _
  | x :: r, A, c, h => by
    rw [List.map_cons, mt_cons, mt_cons]
    by_cases hx : 0 < cn A x
    · have hm := cn_pos.1 hx
      have hfx : 0 < cn (A.map f) (f x) := cn_pos.2 (List.mem_map_of_mem hm)
      have hc : 0 < c (f x) := Nat.lt_of_lt_of_le hfx (h _)
      rw [if_pos hx, if_pos hc, ← cn_erase]
      have key : ∀ g, cn ((A.erase x).map f) g ≤ lessOne c (f x) g := by
        intro g
        have hp : (A.map f).Perm ((x :: A.erase x).map f) := (List.perm_cons_erase hm).map f
        have h1 : cn (A.map f) g = cn ((x :: A.erase x).map f) g := hp.count_eq g
        rw [List.map_cons, cn_cons] at h1
        have h2 := h g
        unfold lessOne
        by_cases e : g = f x
        · rw [if_pos e]
          rw [if_pos e.symm] at h1
          omega
        · rw [if_neg e]
          rw [if_neg (fun e2 => e e2.symm)] at h1
          omega
      have := mt_map f r (A.erase x) (lessOne c (f x)) key
      omega
    · rw [if_neg hx]
      have h1 := mt_map f r A c h
      split
      · have := mt_less (f x) (r.map f) c
        omega
      · exact h1
theorem mt_coarse (f : G' → G) (A B : List G') (ra rb : List G) : mt (cn A) B ≤ mt (cn (A.map f ++ ra)) (B.map f ++ rb) := by
  have h1 := mt_map f B A (cn (A.map f ++ ra)) (fun g => by
    unfold cn
    rw [List.count_append]
    omega)
  exact Nat.le_trans h1 (mt_snoc _ _ _)
end
/-- a gram: four strings, empty ones behind its last one -/
structure Q4 where
  a : ByteArray
  b : ByteArray
  c : ByteArray
  d : ByteArray
  deriving DecidableEq
def q4 (l : List ByteArray) : Q4 := ⟨l.getD 0 ⟨#[]⟩, l.getD 1 ⟨#[]⟩, l.getD 2 ⟨#[]⟩, l.getD 3 ⟨#[]⟩⟩
/-- the gram of n words from a place on -/
def gq (l : List ByteArray) (n k : Nat) : Q4 := q4 ((l.drop k).take n)
def gramsQ (l : List ByteArray) (n : Nat) : List Q4 := (List.range (l.length + 1 - n)).map (gq l n)
theorem gramsQ_length (l : List ByteArray) (n : Nat) : (gramsQ l n).length = l.length + 1 - n := by simp [gramsQ]
/-- how many grams of the first list are matched by the second one's -/
def mtQ (a b : List ByteArray) (n : Nat) : Nat := mt (cn (gramsQ a n)) (gramsQ b n)
theorem mtQ_comm (a b : List ByteArray) (n : Nat) : mtQ a b n = mtQ b a n := mt_comm _ _
theorem mtQ_self (a : List ByteArray) (n : Nat) : mtQ a a n = a.length + 1 - n := by unfold mtQ; rw [mt_self, gramsQ_length]
theorem mtQ_right (a b : List ByteArray) (n : Nat) : mtQ a b n ≤ b.length + 1 - n := by have := mt_le (cn (gramsQ a n)) (gramsQ b n); rwa [gramsQ_length] at this
theorem mtQ_left (a b : List ByteArray) (n : Nat) : mtQ a b n ≤ a.length + 1 - n := by rw [mtQ_comm]; exact mtQ_right b a n
/-- a gram without its word of number n -/
def blank (n : Nat) (q : Q4) : Q4 := match n with
  | 0 => ⟨⟨#[]⟩, q.b, q.c, q.d⟩
  | 1 => ⟨q.a, ⟨#[]⟩, q.c, q.d⟩
  | 2 => ⟨q.a, q.b, ⟨#[]⟩, q.d⟩
  | _ => ⟨q.a, q.b, q.c, ⟨#[]⟩⟩
theorem getD_take {l : List ByteArray} {n i : Nat} : (l.take n).getD i ⟨#[]⟩ = if i < n then l.getD i ⟨#[]⟩ else ⟨#[]⟩ := by
  rw [List.getD_eq_getElem?_getD, List.getD_eq_getElem?_getD]
  split
  · rename_i h; rw [List.getElem?_take_of_lt h]
  · rename_i h; rw [List.getElem?_take_eq_none (by omega)]; rfl
theorem gq_blank {l : List ByteArray} {n k : Nat} (h1 : 1 ≤ n) (h3 : n ≤ 3) : blank n (gq l (n + 1) k) = gq l n k := by
  unfold gq q4
  simp only [getD_take]
  rcases (show n = 1 ∨ n = 2 ∨ n = 3 by omega) with rfl | rfl | rfl <;> simp [blank]
theorem gramsQ_more (l : List ByteArray) {n : Nat} (h1 : 1 ≤ n) (h3 : n ≤ 3) : ∃ r, gramsQ l n = (gramsQ l (n + 1)).map (blank n) ++ r := by
  unfold gramsQ
  rw [List.map_map]
  have hb : (blank n ∘ gq l (n + 1)) = gq l n := funext fun k => gq_blank h1 h3
  rw [hb]
  by_cases h : l.length + 1 ≤ n
  · exact ⟨[], by rw [show l.length + 1 - n = 0 by omega, show l.length + 1 - (n + 1) = 0 by omega]; rfl⟩
  · refine ⟨[gq l n (l.length + 1 - (n + 1))], ?_⟩
    rw [show l.length + 1 - n = (l.length + 1 - (n + 1)) + 1 by omega, List.range_succ, List.map_append]
    rfl
theorem mtQ_more (a b : List ByteArray) {n : Nat} (h1 : 1 ≤ n) (h3 : n ≤ 3) : mtQ a b (n + 1) ≤ mtQ a b n := by
  obtain ⟨ra, ha⟩ := gramsQ_more a h1 h3
  obtain ⟨rb, hb⟩ := gramsQ_more b h1 h3
  unfold mtQ
  rw [ha, hb]
  exact mt_coarse (blank n) _ _ ra rb
end Go.Proofs.YthgllfbigcoaiaaGreatDoor
