/- Slices of features: Subsumes, as the program and as the specification tells it. -/
import Derived.Test.YtdfhciijpcgicaaGreatDoorFeats2
namespace Go.Proofs.YtdfhciijpcgicaaGreatDoor
open Go Go.RowKit
def subs (l m : List Ft) : Bool := l.all fun x => has m x
def allIn (l m : List Ft) (k : Nat) : Prop := ∀ i (h : i < l.length), i < k → has m l[i] = true
theorem allIn_succ {l m : List Ft} {k : Nat} (h : allIn l m k) (hk : k < l.length) (hx : has m l[k] = true) : allIn l m (k + 1) := by
  intro i hi hik
  by_cases e : i = k
  · subst e; exact hx
  · exact h i hi (by omega)
theorem subs_true {l m : List Ft} {k : Nat} (h : allIn l m k) (hk : l.length ≤ k) : subs l m = true := by
  unfold subs
  rw [List.all_eq_true]
  intro y hy
  obtain ⟨i, hi, rfl⟩ := List.getElem_of_mem hy
  exact h i hi (by omega)
theorem subs_false {l m : List Ft} {k : Nat} (hk : k < l.length) (h : has m l[k] = false) : subs l m = false := by
  unfold subs
  rw [List.all_eq_false]
  exact ⟨l[k], List.getElem_mem _, by rw [h]; simp⟩
set_option maxHeartbeats 1000000 in
theorem subsumes_row (a : Addr) (l m : List Ft) (cap : Nat) (v : Value) (w : World) (hl : l.length ≤ cap) (hc : cap ≤ maxLen) (H : RowAt w a l) (hb : a.block < w.heap.size) (hm : ReadsIn w.heap.size w v m) :
    Calls Tryz.prog 18 #[.slice (some a) l.length cap, v] w fun e w' => e = .returned (.bool (subs l m)) ∧ Below w.heap.size w w' := by
  unfold maxLen at hc
  have HH := Lib.hid H; clear H
  have HM := Lib.hid hm; clear hm
  go_enter Tryz.func18, Tryz.ntmps18
  go_wp2
  go_loopw [9] (fun i wr => ∃ k : Nat, k ≤ l.length ∧ i = .int .i64 k ∧ allIn l m k ∧ Below w.heap.size w wr) (fun i _ => l.length - (intOf i).toNat)
  case atStart => exact ⟨0, by omega, rfl, fun i _ h2 => by omega, Below.refl _ _⟩
  case round =>
    obtain ⟨k, hk, rfl, hr, hB⟩ := hrel
    have HR := Lib.hid hr; clear hr
    by_cases hlt : k < l.length
    · obtain ⟨c11, c12⟩ := HH.out k hlt
      have HB := Lib.hid hB; clear hB
      rename World => wr
      have e1 : wr.cell? (a.add (k * 2)) = some (.string l[k].1) := by rw [HB.out.cell (p := a.add (k * 2)) (by rw [add_block]; exact hb)]; exact c11
      have e2 : wr.cell? { block := (a.add (k * 2)).block, off := (a.add (k * 2)).off + 1 } = some (.string l[k].2) := by
        rw [HB.out.cell (p := ⟨(a.add (k * 2)).block, (a.add (k * 2)).off + 1, none⟩) (by show (a.add (k * 2)).block < _; rw [add_block]; exact hb)]; exact cell_next c12
      have a66 := Tryz.isAgg66
      have z66 := Tryz.sizeOf66
      clear c11 c12
      have HC : Hid (Below w.heap.size w (wr.alloc (.cells #[.string l[k].1, .string l[k].2] 66))) := Lib.hid (HB.out.alloc HB.out.size _)
      have HN := Lib.hid (readsIn_mono HC.out.size (readsIn_below HC.out HM.out))
      cases hx : has m l[k]
      · have HX := Lib.hid hx
        go_wp2_with (go_at_call 40; refine (contains_any l[k] _ HN.out).mono ?_; rintro e w' ⟨rfl, hb'⟩)
        go_ret
        exact ⟨f_ret_bool (subs_false hlt HX.out).symm, HC.out.trans (hb'.mono HC.out.size)⟩
      · have HX := Lib.hid hx
        go_wp2_with (go_at_call 40; refine (contains_any l[k] _ HN.out).mono ?_; rintro e w' ⟨rfl, hb'⟩)
        go_roundw
        case rel => exact ⟨k + 1, by omega, by go_num, allIn_succ HR.out hlt HX.out, HC.out.trans (hb'.mono HC.out.size)⟩
        case measure => simp [intOf]; omega
    · go_wp2
      go_ret
      exact ⟨f_ret_bool (subs_true HR.out (by omega)).symm, hB⟩
set_option maxHeartbeats 400000 in
theorem subsumes_nil (v : Value) (m : List Ft) (w : World) :
    Calls Tryz.prog 18 #[.slice none 0 0, v] w fun e w' => e = .returned (.bool (subs [] m)) ∧ Below w.heap.size w w' := by
  go_enter Tryz.func18, Tryz.ntmps18
  go_wp2
  go_loop [9] (fun i => i = .int .i64 0) (fun _ => 0)
  case atStart => rfl
  case round =>
    subst hrel
    go_wp2
    go_ret
    exact ⟨rfl, Below.refl _ _⟩
theorem subsumes_any {u v : Value} {l m : List Ft} (w : World) (h : ReadsIn w.heap.size w u l) (hm : ReadsIn w.heap.size w v m) :
    Calls Tryz.prog 18 #[u, v] w fun e w' => e = .returned (.bool (subs l m)) ∧ Below w.heap.size w w' := by
  rcases h with ⟨rfl, rfl⟩ | ⟨a, cap, rfl, hl, hc, hb, H⟩
  · exact subsumes_nil v m w
  · exact subsumes_row a l m cap v w hl hc H hb hm
/-- among the first k -/
def hasTo (m : List Ft) (x : Ft) (k : Nat) : Bool := (m.take k).any fun y => decide (y = x)
theorem hasTo_zero (m : List Ft) (x : Ft) : hasTo m x 0 = false := by simp [hasTo]
theorem hasTo_all {m : List Ft} {x : Ft} {k : Nat} (h : m.length ≤ k) : hasTo m x k = has m x := by unfold hasTo has; rw [List.take_of_length_le h]
theorem hasTo_on {m : List Ft} {x : Ft} {k : Nat} (h : hasTo m x k = true) (hk : k < m.length) : hasTo m x (k + 1) = true := by
  unfold hasTo at h ⊢
  rw [List.take_succ_eq_append_getElem hk, List.any_append, h]; rfl
theorem hasTo_hit {m : List Ft} {x : Ft} {k : Nat} (hk : k < m.length) (h : x = m[k]) : hasTo m x (k + 1) = true := by
  unfold hasTo
  rw [List.take_succ_eq_append_getElem hk, List.any_append]; simp [h]
theorem hasTo_miss {m : List Ft} {x : Ft} {k : Nat} (h0 : hasTo m x k = false) (hk : k < m.length) (h : x ≠ m[k]) : hasTo m x (k + 1) = false := by
  unfold hasTo at h0 ⊢
  rw [List.take_succ_eq_append_getElem hk, List.any_append, h0]; simpa using fun e => h e.symm
def HasAt (m : List Ft) (x : Ft) (w : World) (o i : Value) (wr : World) : Prop :=
  ∃ k n : Nat, k ≤ m.length ∧ i = .int .i64 k ∧ o = .bool (hasTo m x k) ∧ wr = w.drewN n
def SubsAt (l m : List Ft) (w : World) (i : Value) (wr : World) : Prop :=
  ∃ k n : Nat, k ≤ l.length ∧ i = .int .i64 k ∧ allIn l m k ∧ wr = w.drewN n
set_option maxHeartbeats 1000000 in
theorem refSubsumes_rows (a b : Addr) (l m : List Ft) (cap cap' : Nat) (w : World) (hl : l.length ≤ cap) (hc : cap ≤ maxLen) (hl' : m.length ≤ cap') (hc' : cap' ≤ maxLen) (H : RowAt w a l) (H' : RowAt w b m) :
    Calls Tryz.prog 19 #[.slice (some a) l.length cap, .slice (some b) m.length cap'] w fun e w' => e = .returned (.bool (subs l m)) ∧ (∃ n, w' = w.drewN n) := by
  unfold maxLen at hc hc'
  have HH := Lib.hid H; clear H
  have HK := Lib.hid H'; clear H'
  go_enter Tryz.func19, Tryz.ntmps19
  go_wp2
  go_loopw [5] (fun i wr => SubsAt l m w i wr) (fun i _ => l.length - (intOf i).toNat)
  case atStart => exact ⟨0, 0, by omega, rfl, fun i _ h2 => by omega, rfl⟩
  case round =>
    obtain ⟨i, n, hi, rfl, hr, rfl⟩ := hrel
    have HR := Lib.hid hr; clear hr
    by_cases hlt : i < l.length
    · obtain ⟨c11, c12⟩ := HH.out i hlt
      have d12 := cell_next c12
      clear c12
      go_wp2
      go_loopw [6, 7] (fun o k wr => HasAt m l[i] w o k wr) (fun _ k _ => m.length - (intOf k).toNat)
      case atStart => exact ⟨0, _, by omega, rfl, by rw [hasTo_zero], rfl⟩
      case round =>
        obtain ⟨k, n2, hk, rfl, rfl, rfl⟩ := hrel
        by_cases hlt' : k < m.length
        · obtain ⟨c21, c22⟩ := HK.out k hlt'
          have d22 := cell_next c22
          clear c22
          have a66 := Tryz.isAgg66
          have z66 := Tryz.sizeOf66
          cases ho : hasTo m l[i] k
          · have HO := Lib.hid ho; clear ho
            by_cases h1 : l[i].1.toList = m[k].1.toList <;> by_cases h2 : l[i].2.toList = m[k].2.toList
            · have HE := Lib.hid (hasTo_hit hlt' (ft_ext h1 h2))
              go_wp2
              go_quiet (fail)
              go_wp2
              go_roundw
              case rel => exact ⟨k + 1, _, by omega, by go_num, by rw [HE.out], by first | exact World.drewN_drewN _ _ _ | rfl⟩
              case measure => simp [intOf]; omega
            all_goals
              have HE := Lib.hid (hasTo_miss HO.out hlt' (ft_ne (x := l[i]) (y := m[k]) (by first | exact .inl h1 | exact .inr h2)))
              go_wp2
              go_quiet (fail)
              go_wp2
              go_roundw
              case rel => exact ⟨k + 1, _, by omega, by go_num, by rw [HE.out], by first | exact World.drewN_drewN _ _ _ | rfl⟩
              case measure => simp [intOf]; omega
          · have HE := Lib.hid (hasTo_on ho hlt'); clear ho
            go_wp2
            go_quiet (fail)
            go_wp2
            go_roundw
            case rel => exact ⟨k + 1, _, by omega, by go_num, by rw [HE.out], by first | exact World.drewN_drewN _ _ _ | rfl⟩
            case measure => simp [intOf]; omega
        · have HA := Lib.hid (hasTo_all (m := m) (x := l[i]) (k := k) (by omega))
          cases ho : hasTo m l[i] k
          · have HO := Lib.hid ho; clear ho
            go_wp2
            go_ret
            exact ⟨f_ret_bool (subs_false hlt (by rw [← HA.out, HO.out])).symm, ⟨_, by first | exact World.drewN_drewN _ _ _ | rfl⟩⟩
          · have HO := Lib.hid ho; clear ho
            go_wp2
            go_roundw
            case rel => exact ⟨i + 1, _, by omega, by go_num, allIn_succ HR.out hlt (by rw [← HA.out, HO.out]), by first | exact World.drewN_drewN _ _ _ | rfl⟩
            case measure => simp [intOf]; omega
    · go_wp2
      go_ret
      exact ⟨f_ret_bool (subs_true HR.out (by omega)).symm, ⟨_, rfl⟩⟩
end Go.Proofs.YtdfhciijpcgicaaGreatDoor
