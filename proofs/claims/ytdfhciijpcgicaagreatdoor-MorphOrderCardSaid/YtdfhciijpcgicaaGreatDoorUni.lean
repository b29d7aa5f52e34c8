/- What two lists of features unify to, as a plain recursion. -/
import Derived.Test.YtdfhciijpcgicaaGreatDoorFeats
namespace Go.Proofs.YtdfhciijpcgicaaGreatDoor
open Go Go.RowKit
/-- Two rising lists, merged; none, where a name has two values. -/
def uni : List Ft → List Ft → Option (List Ft)
  | [], b => some b
  | a, [] => some a
  | x :: a, y :: b =>
    if less x y = true then (uni a (y :: b)).map (x :: ·)
    else if less y x = true then (uni (x :: a) b).map (y :: ·)
    else if x.2.toList = y.2.toList then (uni a b).map (x :: ·)
    else none
termination_by a b => a.length + b.length
theorem uni_left (b : List Ft) : uni [] b = some b := by unfold uni; rfl
theorem uni_right (a : List Ft) : uni a [] = some a := by cases a <;> (unfold uni; rfl)
theorem uni_less {x y : Ft} {a b : List Ft} (h : less x y = true) : uni (x :: a) (y :: b) = (uni a (y :: b)).map (x :: ·) := by
  rw [uni, if_pos h]
theorem uni_more {x y : Ft} {a b : List Ft} (h : less x y = false) (h' : less y x = true) : uni (x :: a) (y :: b) = (uni (x :: a) b).map (y :: ·) := by
  rw [uni, if_neg (by rw [h]; simp), if_pos h']
theorem uni_same {x y : Ft} {a b : List Ft} (h : less x y = false) (h' : less y x = false) (hv : x.2.toList = y.2.toList) : uni (x :: a) (y :: b) = (uni a b).map (x :: ·) := by
  rw [uni, if_neg (by rw [h]; simp), if_neg (by rw [h']; simp), if_pos hv]
theorem uni_clash {x y : Ft} {a b : List Ft} (h : less x y = false) (h' : less y x = false) (hv : ¬ x.2.toList = y.2.toList) : uni (x :: a) (y :: b) = none := by
  rw [uni, if_neg (by rw [h]; simp), if_neg (by rw [h']; simp), if_neg hv]
/-- what is left to unify, and what is there -/
def unify (l m : List Ft) : Option (List Ft) := if incr l = true ∧ incr m = true then uni l m else none
theorem map_cons (o : Option (List Ft)) (lo : List Ft) (x : Ft) : (o.map (x :: ·)).map (lo ++ ·) = o.map ((lo ++ [x]) ++ ·) := by cases o <;> simp
theorem uni_length {l m r : List Ft} (h : uni l m = some r) : r.length ≤ l.length + m.length := by
  induction l, m using uni.induct generalizing r with
  | case1 b => rw [uni_left] at h; cases h; simp
  | case2 a _ => rw [uni_right] at h; cases h; simp
  | case3 x a y b hl ih =>
    rw [uni_less hl] at h
    cases hu : uni a (y :: b) with
    | none => rw [hu] at h; cases h
    | some r' => rw [hu] at h; cases h; have := ih hu; simp at this ⊢; omega
  | case4 x a y b hl hm ih =>
    rw [uni_more (by simpa using hl) hm] at h
    cases hu : uni (x :: a) b with
    | none => rw [hu] at h; cases h
    | some r' => rw [hu] at h; cases h; have := ih hu; simp at this ⊢; omega
  | case5 x a y b hl hm hv ih =>
    rw [uni_same (by simpa using hl) (by simpa using hm) hv] at h
    cases hu : uni a b with
    | none => rw [hu] at h; cases h
    | some r' => rw [hu] at h; cases h; have := ih hu; simp at this ⊢; omega
  | case6 x a y b hl hm hv => rw [uni_clash (by simpa using hl) (by simpa using hm) hv] at h; cases h
end Go.Proofs.YtdfhciijpcgicaaGreatDoor
