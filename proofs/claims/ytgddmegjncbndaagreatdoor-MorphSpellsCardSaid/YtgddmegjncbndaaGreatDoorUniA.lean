/- What two lists of features unify to, as a plain recursion. Unify, as the program does it. -/
import Derived.Test.YtgddmegjncbndaaGreatDoorFeatsA
import Derived.StillTactics
import Derived.OwnWalk
import Derived.Laws.AppendOwnNone
import Derived.Laws.Pointers
import Derived.Deep.RegionHeld3
import Derived.Deep.AppendLies
import Derived.Deep.DrawnRows
import Derived.KernelRfl
import Derived.Sort.Walk0
namespace Go.Proofs.YtgddmegjncbndaaGreatDoor
open Go Go.RowKit
/-- Two rising lists, merged; none, where a name has two values. -/
def uni : List Ft → List Ft → Option (List Ft)
  | [], b => some b
  | a, [] => some a
  | x :: a, y :: b =>
    if less x y = true then (uni a (y :: b)).map (x :: ·)
    else if less y x = true then (uni (x :: a) b).map (y :: ·)
    else if x.2.toList = y.2.toList then (uni a b).map (x :: ·)
    else none
termination_by a b => a.length + b.length
theorem uni_left (b : List Ft) : uni [] b = some b := by unfold uni; rfl
theorem uni_right (a : List Ft) : uni a [] = some a := by cases a <;> (unfold uni; rfl)
theorem uni_less {x y : Ft} {a b : List Ft} (h : less x y = true) : uni (x :: a) (y :: b) = (uni a (y :: b)).map (x :: ·) := by
  rw [uni, if_pos h]
theorem uni_more {x y : Ft} {a b : List Ft} (h : less x y = false) (h' : less y x = true) : uni (x :: a) (y :: b) = (uni (x :: a) b).map (y :: ·) := by
  rw [uni, if_neg (by rw [h]; simp), if_pos h']
theorem uni_same {x y : Ft} {a b : List Ft} (h : less x y = false) (h' : less y x = false) (hv : x.2.toList = y.2.toList) : uni (x :: a) (y :: b) = (uni a b).map (x :: ·) := by
  rw [uni, if_neg (by rw [h]; simp), if_neg (by rw [h']; simp), if_pos hv]
theorem uni_clash {x y : Ft} {a b : List Ft} (h : less x y = false) (h' : less y x = false) (hv : ¬ x.2.toList = y.2.toList) : uni (x :: a) (y :: b) = none := by
  rw [uni, if_neg (by rw [h]; simp), if_neg (by rw [h']; simp), if_neg hv]
/-- what is left to unify, and what is there -/
def unify (l m : List Ft) : Option (List Ft) := if incr l = true ∧ incr m = true then uni l m else none
theorem map_cons (o : Option (List Ft)) (lo : List Ft) (x : Ft) : (o.map (x :: ·)).map (lo ++ ·) = o.map ((lo ++ [x]) ++ ·) := by cases o <;> simp
theorem uni_length {l m r : List Ft} (h : uni l m = some r) : r.length ≤ l.length + m.length := by
  induction l, m using uni.induct generalizing r with
  | case1 b => rw [uni_left] at h; cases h; simp
  | case2 a _ => rw [uni_right] at h; cases h; simp
  | case3 x a y b hl ih =>
    rw [uni_less hl] at h
    cases hu : uni a (y :: b) with
    | none => rw [hu] at h; cases h
    | some r' => rw [hu] at h; cases h; have := ih hu; simp at this ⊢; omega
  | case4 x a y b hl hm ih =>
    rw [uni_more (by simpa using hl) hm] at h
    cases hu : uni (x :: a) b with
    | none => rw [hu] at h; cases h
    | some r' => rw [hu] at h; cases h; have := ih hu; simp at this ⊢; omega
  | case5 x a y b hl hm hv ih =>
    rw [uni_same (by simpa using hl) (by simpa using hm) hv] at h
    cases hu : uni a b with
    | none => rw [hu] at h; cases h
    | some r' => rw [hu] at h; cases h; have := ih hu; simp at this ⊢; omega
  | case6 x a y b hl hm hv => rw [uni_clash (by simpa using hl) (by simpa using hm) hv] at h; cases h
end Go.Proofs.YtgddmegjncbndaaGreatDoor
namespace Go.Proofs.YtgddmegjncbndaaGreatDoor
open Go Go.RowKit
def cellsF (l : List Ft) : List Value := l.flatMap fun x => [.string x.1, .string x.2]
def sliceLen : Value → Nat
  | .slice _ n _ => n
  | _ => 0
/-- at each round's head: what is left of both, what is out -/
def UniAt (l m : List Ft) (w : World) (va vb vo : Value) (wr : World) : Prop :=
  ∃ la lb lo : List Ft, la.length + lb.length + lo.length ≤ 200 ∧ ReadsIn w.heap.size w va la ∧ ReadsIn w.heap.size w vb lb ∧
    wr.ownsRow w.heap.size 61 2 vo lo.length (cellsF lo) ∧ Below w.heap.size w wr ∧ uni l m = (uni la lb).map (lo ++ ·)
theorem more_of {x y : Ft} (h : Op.bytesLess x.1.toList y.1.toList = false) (he : (x.1.toList == y.1.toList) = false) : less y x = true := by
  unfold less
  rw [bytesLess_eq] at h ⊢
  rw [decide_eq_true_eq]
  rw [decide_eq_false_iff_not] at h
  have he' : x.1.toList ≠ y.1.toList := by simpa using he
  rcases List.le_iff_lt_or_eq.1 (List.not_lt.1 h) with h1 | h1
  · exact h1
  · exact absurd h1.symm he'
theorem info66 : (Tryz.prog.info? 61).map (fun i => (i.zero, i.size, i.bytes)) = some (some (.agg #[.string ⟨#[]⟩, .string ⟨#[]⟩]), 2, 32) := by kernel_rfl
theorem reads_of_in {B : Nat} {w : World} {v : Value} {l : List Ft} (h : ReadsIn B w v l) : Reads w v l := by
  rcases h with h | ⟨a, cap, e, hl, hc, hb, H⟩
  · exact .inl h
  · exact .inr ⟨a, cap, e, hl, hc, H⟩
theorem readsIn_tail {B : Nat} {w : World} {A : Addr} {l : List Ft} {cap : Nat} (hc : l.length ≤ cap) (hm : cap ≤ maxLen) (hb : A.block < B) (h : RowAt w A l) (hl : 0 < l.length) :
    ReadsIn B w (.slice (some { block := A.block, off := A.off + 2 }) (l.length - 1) (cap - 1)) (l.drop 1) := by
  refine .inr ⟨{ block := A.block, off := A.off + 2 }, cap - 1, by rw [List.length_drop], by rw [List.length_drop]; omega, by unfold maxLen at hm ⊢; omega, fun _ => hb, ?_⟩
  intro i hi
  rw [List.length_drop] at hi
  obtain ⟨h1, h2⟩ := h (i + 1) (by omega)
  have e : ∀ n, (⟨A.block, A.off + 2, none⟩ : Addr).add n = A.add (n + 2) := by
    intro n
    unfold Addr.add
    by_cases h0 : n = 0
    · subst h0; simp
    · simp [h0]; omega
  refine ⟨?_, ?_⟩
  · rw [e, show i * 2 + 2 = (i + 1) * 2 by omega, h1, List.getElem_drop]; congr 3; simp [Nat.add_comm]
  · rw [e, show i * 2 + 1 + 2 = (i + 1) * 2 + 1 by omega, h2, List.getElem_drop]; congr 3; simp [Nat.add_comm]
theorem readsIn_last {B : Nat} {w : World} {A : Addr} {l : List Ft} (h1 : l.length ≤ 1) (hb : A.block < B) (n : Nat) (hn : n = 0) :
    ReadsIn B w (.slice (some A) n 0) (l.drop 1) := by
  subst hn
  have e : l.drop 1 = [] := List.drop_eq_nil_of_le h1
  rw [e]
  exact .inr ⟨A, 0, rfl, by simp, by unfold maxLen; omega, fun _ => hb, fun i hi => by simp at hi⟩
theorem UniAt.take_a {l m la lb lo : List Ft} {w W w1 : World} {cap gg : Nat} {va vb vo : Value} (HA : ReadsIn w.heap.size w va (la.drop 1))
    (hna : 0 < la.length) (hnb : 0 < lb.length) (hlen : la.length + lb.length + lo.length ≤ 200) (HB : ReadsIn w.heap.size w vb lb) (hW : Below w.heap.size w W) (hless : less la[0] lb[0] = true)
    (hown : w1.ownsRow w.heap.size 61 2 (.slice (some ⟨gg, 0, none⟩) (lo.length + 1) cap) (lo.length + 1) (cellsF lo ++ [.string la[0].1, .string la[0].2])) (hg : W.grownBy w1 vo.ownBlock)
    (hlt : ∀ k, vo.ownBlock = some k → w.heap.size ≤ k) (hu : uni l m = (uni la lb).map (lo ++ ·)) :
    UniAt l m w va vb (.slice (some ⟨gg, 0, none⟩) (lo.length + 1) cap) w1 := by
  refine ⟨la.drop 1, lb, lo ++ [la[0]], by simp; omega, HA, HB, ?_, hW.grown hg hW.size hlt, ?_⟩
  · have : cellsF (lo ++ [la[0]]) = cellsF lo ++ [.string la[0].1, .string la[0].2] := by simp [cellsF]
    rw [this, List.length_append]; exact hown
  · rw [hu]
    match la, lb, hna, hnb, hless with
    | x :: a, y :: b, _, _, hless => rw [uni_less (show less x y = true from hless), map_cons]; rfl
theorem UniAt.take_b {l m la lb lo : List Ft} {w W w1 : World} {cap gg : Nat} {va vb vo : Value} (HB : ReadsIn w.heap.size w vb (lb.drop 1))
    (hna : 0 < la.length) (hnb : 0 < lb.length) (hlen : la.length + lb.length + lo.length ≤ 200) (HA : ReadsIn w.heap.size w va la) (hW : Below w.heap.size w W) (hless : less la[0] lb[0] = false) (hmore : less lb[0] la[0] = true)
    (hown : w1.ownsRow w.heap.size 61 2 (.slice (some ⟨gg, 0, none⟩) (lo.length + 1) cap) (lo.length + 1) (cellsF lo ++ [.string lb[0].1, .string lb[0].2])) (hg : W.grownBy w1 vo.ownBlock)
    (hlt : ∀ k, vo.ownBlock = some k → w.heap.size ≤ k) (hu : uni l m = (uni la lb).map (lo ++ ·)) :
    UniAt l m w va vb (.slice (some ⟨gg, 0, none⟩) (lo.length + 1) cap) w1 := by
  refine ⟨la, lb.drop 1, lo ++ [lb[0]], by simp; omega, HA, HB, ?_, hW.grown hg hW.size hlt, ?_⟩
  · have : cellsF (lo ++ [lb[0]]) = cellsF lo ++ [.string lb[0].1, .string lb[0].2] := by simp [cellsF]
    rw [this, List.length_append]; exact hown
  · rw [hu]
    match la, lb, hna, hnb, hless, hmore with
    | x :: a, y :: b, _, _, hless, hmore => rw [uni_more (show less x y = false from hless) (show less y x = true from hmore), map_cons]; rfl
theorem owns_drewN {w : World} {base : Nat} {e : TypeId} {size : Nat} {v : Value} {n : Nat} {xs : List Value} (k : Nat) (h : w.ownsRow base e size v n xs) : (w.drewN k).ownsRow base e size v n xs := h
def Unified (l m : List Ft) (w : World) (e : Ending) (w' : World) : Prop :=
  Below w.heap.size w w' ∧ ((unify l m = none ∧ e = .returned (.tuple #[.slice none 0 0, .bool false])) ∨
    ∃ r v, unify l m = some r ∧ e = .returned (.tuple #[v, .bool true]) ∧ w'.ownsRow w.heap.size 61 2 v r.length (cellsF r))
attribute [local go_sem ↓] Go.wp_at_zero Go.wp_at_succ
theorem UniAt.take_ab {l m la lb lo : List Ft} {w W w1 : World} {cap gg : Nat} {va vb vo : Value} (HA : ReadsIn w.heap.size w va (la.drop 1)) (HB : ReadsIn w.heap.size w vb (lb.drop 1))
    (hna : 0 < la.length) (hnb : 0 < lb.length) (hlen : la.length + lb.length + lo.length ≤ 200) (hW : Below w.heap.size w W) (hless : less la[0] lb[0] = false) (hmore : less lb[0] la[0] = false) (hv : la[0].2.toList = lb[0].2.toList)
    (hown : w1.ownsRow w.heap.size 61 2 (.slice (some ⟨gg, 0, none⟩) (lo.length + 1) cap) (lo.length + 1) (cellsF lo ++ [.string la[0].1, .string la[0].2])) (hg : W.grownBy w1 vo.ownBlock)
    (hlt : ∀ k, vo.ownBlock = some k → w.heap.size ≤ k) (hu : uni l m = (uni la lb).map (lo ++ ·)) :
    UniAt l m w va vb (.slice (some ⟨gg, 0, none⟩) (lo.length + 1) cap) w1 := by
  refine ⟨la.drop 1, lb.drop 1, lo ++ [la[0]], by simp; omega, HA, HB, ?_, hW.grown hg hW.size hlt, ?_⟩
  · have : cellsF (lo ++ [la[0]]) = cellsF lo ++ [.string la[0].1, .string la[0].2] := by simp [cellsF]
    rw [this, List.length_append]; exact hown
  · rw [hu]
    match la, lb, hna, hnb, hless, hmore, hv with
    | x :: a, y :: b, _, _, hless, hmore, hv => rw [uni_same (show less x y = false from hless) (show less y x = false from hmore) (show x.2.toList = y.2.toList from hv), map_cons]; rfl
theorem uni_none {l m la lb lo : List Ft} (hna : 0 < la.length) (hnb : 0 < lb.length) (hless : less la[0] lb[0] = false) (hmore : less lb[0] la[0] = false) (hv : ¬ la[0].2.toList = lb[0].2.toList) (hu : uni l m = (uni la lb).map (lo ++ ·)) : uni l m = none := by
  rw [hu]
  match la, lb, hna, hnb, hless, hmore, hv with
  | x :: a, y :: b, _, _, hless, hmore, hv => rw [uni_clash (show less x y = false from hless) (show less y x = false from hmore) (show ¬ x.2.toList = y.2.toList from hv)]; rfl
theorem less_irrefl {x y : Ft} (h : x.1.toList = y.1.toList) : less y x = false := by
  unfold less
  rw [bytesLess_eq, decide_eq_false_iff_not, h]
  exact List.lt_irrefl _
theorem uni_end {l m la lb lo : List Ft} (h : ¬ (0 < la.length ∧ 0 < lb.length)) (hu : uni l m = (uni la lb).map (lo ++ ·)) : uni l m = some (lo ++ la ++ lb) := by
  rw [hu]
  match la, lb, h with
  | [], lb, _ => rw [uni_left]; simp
  | x :: a, [], _ => rw [uni_right]; simp
  | x :: a, y :: b, h => exact absurd ⟨by simp, by simp⟩ h
theorem row_news {w : World} {A : Addr} {l : List Ft} (h : RowAt w A l) : ∀ j u, (cellsF l)[j]? = some u → w.cell? (A.add j) = some u := by
  induction l generalizing A with
  | nil => intro j u hj; simp [cellsF] at hj
  | cons x l ih =>
    intro j u hj
    have e : cellsF (x :: l) = .string x.1 :: .string x.2 :: cellsF l := by simp [cellsF]
    rw [e] at hj
    match j, hj with
    | 0, hj => simp at hj; subst hj; exact (h 0 (by simp)).1
    | 1, hj => simp at hj; subst hj; exact (h 0 (by simp)).2
    | j + 2, hj =>
      have h' : RowAt w (A.add 2) l := by
        intro i hi
        obtain ⟨h1, h2⟩ := h (i + 1) (by simp; omega)
        have e2 : ∀ n, (A.add 2).add n = A.add (n + 2) := by
          intro n
          rw [Addr.add_add]; congr 1; omega
        refine ⟨?_, ?_⟩
        · rw [e2, show i * 2 + 2 = (i + 1) * 2 by omega, h1]; simp
        · rw [e2, show i * 2 + 1 + 2 = (i + 1) * 2 + 1 by omega, h2]; simp
      have := ih h' j u (by simpa using hj)
      rwa [Addr.add_add, show 2 + j = j + 2 by omega] at this
theorem cells_length (l : List Ft) : (cellsF l).length = l.length * 2 := by
  induction l with
  | nil => rfl
  | cons x l ih => simp [cellsF] at ih ⊢; omega
theorem cells_one (l : List Ft) : ∀ u ∈ cellsF l, u.oneCell' = true := by
  intro u hu
  simp [cellsF] at hu
  obtain ⟨a, b, _, rfl | rfl⟩ := hu <;> rfl
set_option maxRecDepth 100000 in
set_option maxHeartbeats 1600000 in
theorem unify_any (u v : Value) (l m : List Ft) (w : World) (hl : l.length ≤ 100) (hm : m.length ≤ 100) (h : ReadsIn w.heap.size w u l) (h' : ReadsIn w.heap.size w v m) :
    Calls Tryz.prog 86 #[u, v] w (Unified l m w) := by
  obtain ⟨i0, hi0, hz0, hz1, hz2⟩ := info_parts info66
  have HU := Lib.hid h; clear h
  have HV := Lib.hid h'; clear h'
  cases hi : incr l
  · have HI := Lib.hid hi
    go_enter Tryz.func86, Tryz.ntmps86
    go_wp2_with fail
    go_wp2_with (go_at_call 114; ((with_reducible refine (increasing_any (v := u) (l := l) w (reads_of_in HU.out)).mono ?_); rintro e w' ⟨rfl, n, rfl⟩))
    go_wp2
    go_ret2
    exact ⟨by repeat (first | exact Below.refl _ _ | exact HBEL.out | apply below_drewN), .inl ⟨by unfold unify; rw [HI.out]; simp, rfl⟩⟩
  · cases hj : incr m
    · have HI := Lib.hid hi
      have HJ := Lib.hid hj
      go_enter Tryz.func86, Tryz.ntmps86
      go_wp2_with fail
      go_wp2_with (go_at_call 114; ((with_reducible refine (increasing_any (v := u) (l := l) w (reads_of_in HU.out)).mono ?_); rintro e w' ⟨rfl, n, rfl⟩))
      have HV' := Lib.hid (reads_of_in (readsIn_below (below_drewN n (Below.refl w.heap.size w)) HV.out))
      go_wp2_with (go_at_call 114; ((with_reducible refine (increasing_any (v := v) (l := m) (w.drewN n) HV'.out).mono ?_); rintro e w' ⟨rfl, n', rfl⟩))
      go_wp2
      go_ret2
      exact ⟨by repeat (first | exact Below.refl _ _ | exact HBEL.out | apply below_drewN), .inl ⟨by unfold unify; rw [HJ.out]; simp, rfl⟩⟩
    · have HI := Lib.hid hi
      have HJ := Lib.hid hj
      go_enter Tryz.func86, Tryz.ntmps86
      go_wp2_with fail
      go_wp2_with (go_at_call 114; ((with_reducible refine (increasing_any (v := u) (l := l) w (reads_of_in HU.out)).mono ?_); rintro e w' ⟨rfl, n, rfl⟩))
      have HV' := Lib.hid (reads_of_in (readsIn_below (below_drewN n (Below.refl w.heap.size w)) HV.out))
      go_wp2_with (go_at_call 114; ((with_reducible refine (increasing_any (v := v) (l := m) (w.drewN n) HV'.out).mono ?_); rintro e w' ⟨rfl, n', rfl⟩))
      go_loopw [0, 1, 6] (fun va vb vo wr => UniAt l m w va vb vo wr) (fun va vb _ _ => sliceLen va + sliceLen vb)
      case atStart => exact ⟨l, m, [], by simp; omega, HU.out, HV.out, World.ownsRow_nil _ _ _ _, below_drewN _ (Below.refl _ _), by simp⟩
      case round =>
        obtain ⟨la, lb, lo, hlen, hA, hB, hown, hbel, huni⟩ := hrel
        have HUNI := Lib.hid huni; clear huni
        have HOWN := Lib.hid hown; clear hown
        have HBEL := Lib.hid hbel; clear hbel
        have HA' := Lib.hid hA
        have HB' := Lib.hid hB
        by_cases hne : 0 < la.length ∧ 0 < lb.length
        · obtain ⟨hna, hnb⟩ := hne
          rcases hA with ⟨rfl, rfl⟩ | ⟨A, capA, rfl, hcA, hmA, hbA, HA⟩
          · simp at hna
          rcases hB with ⟨rfl, rfl⟩ | ⟨B, capB, rfl, hcB, hmB, hbB, HB⟩
          · simp at hnb
          replace hbA := hbA hna
          replace hbB := hbB hnb
          have HAw := Lib.hid HA
          have HBw := Lib.hid HB
          have HA := Lib.hid (rowAt_below HBEL.out (fun _ => hbA) HA)
          have HB := Lib.hid (rowAt_below HBEL.out (fun _ => hbB) HB)
          obtain ⟨x1, x2⟩ := HA.out 0 hna
          obtain ⟨y1, y2⟩ := HB.out 0 hnb
          rename World => wr
          replace x1 : wr.cell? A = some (.string la[0].1) := x1
          replace y1 : wr.cell? B = some (.string lb[0].1) := y1
          replace x2 : wr.cell? { block := A.block, off := A.off + 1 } = some (.string la[0].2) := cell_next x2
          replace y2 : wr.cell? { block := B.block, off := B.off + 1 } = some (.string lb[0].2) := cell_next y2
          have hna0 : (0 : Int) < (la.length : Int) := by omega
          have hnb0 : (0 : Int) < (lb.length : Int) := by omega
          have hna1 : (1 : Int) ≤ (la.length : Int) := by omega
          have hnb1 : (1 : Int) ≤ (lb.length : Int) := by omega
          have hca : (la.length : Int) ≤ (capA : Int) := by omega
          have hcb : (lb.length : Int) ≤ (capB : Int) := by omega
          have hca1 : (1 : Int) ≤ (capA : Int) := by omega
          have hcb1 : (1 : Int) ≤ (capB : Int) := by omega
          have hsz := HBEL.out.size
          have a66 := Tryz.isAgg61
          have z66 := Tryz.sizeOf61
          unfold maxLen at hmA hmB
          cases hless : Op.bytesLess la[0].1.toList lb[0].1.toList
          · cases heq : (la[0].1.toList == lb[0].1.toList)
            · have HMORE := Lib.hid (more_of hless heq)
              go_wp2
              go_quiet (fail)
              go_wp2
              go_quiet (fail)
              go_wp2
              by_cases hqB : capB = 1
              · subst hqB
                have ag : u6.ownBlock ≠ some B.block := by
                  intro h
                  have := (HOWN.out.lt _ h).1
                  omega
                have ag2 : u6.ownBlock ≠ some ({ block := B.block, off := B.off + 1 } : Addr).block := ag
                have lA := World.block_lt_of_cell? wr _ y1
                go_region_held3 (fun w' => w'.cell? B = some (.string lb[0].1) ∧ w'.cell? { block := B.block, off := B.off + 1 } = some (.string lb[0].2))
                  (first
                    | go_keep
                    | (go_split_ands
                       refine ⟨?_, ?_⟩
                       · (rw [hgrow.cell_far _ (by simp; omega) (Ne.symm ag)]; assumption)
                       · (rw [hgrow.cell_far _ (by simp; omega) (Ne.symm ag2)]; assumption)))
                  ((refine step_append_lies _ (by rfl) _ _ _ (by rfl) w.heap.size 61 i0 _ 2 32 Tryz.underlying29 hi0 hz0 hz1 hz2 rfl (by omega) u6 lo.length (cellsF lo) (by rfl) (((owns_drewN _ HOWN.out).alloc _).drew)
                      ⟨wr.heap.size, 0, none⟩ 1 1 [.string lb[0].1, .string lb[0].2] (by rfl) (by rfl) (World.news_of_block (cs := #[.string lb[0].1, .string lb[0].2]) (t := 61) (fr := (0, 0)) (heap_alloc_new _ _)) (by simp [Value.oneCell'])
                      (by omega) (by unfold maxLen; omega) (by omega) (by simp; omega) (wr.heap.size + 1) (by simp) ?_; intro gg cap w1 hown1 hgrow hat hlt))
                go_roundw
                case rel =>
                  have HT := UniAt.take_b (readsIn_last (A := B) (l := lb) (by omega) hbB 0 rfl) hna hnb hlen HA'.out (by first | exact ((below_drewN _ HBEL.out).alloc hsz _).drew | exact (below_drewN _ HBEL.out).alloc hsz _) hless HMORE.out hown1 hgrow (fun k hk => (HOWN.out.lt k hk).1) HUNI.out
                  repeat apply Exists.intro
                  exact ⟨HT, rfl⟩
                case measure => simp [sliceLen]; omega
              · have hqB1 : ¬ ((capB : Int) = 1) := by omega
                have ag : u6.ownBlock ≠ some B.block := by
                  intro h
                  have := (HOWN.out.lt _ h).1
                  omega
                have ag2 : u6.ownBlock ≠ some ({ block := B.block, off := B.off + 1 } : Addr).block := ag
                have lA := World.block_lt_of_cell? wr _ y1
                go_region_held3 (fun w' => w'.cell? B = some (.string lb[0].1) ∧ w'.cell? { block := B.block, off := B.off + 1 } = some (.string lb[0].2))
                  (first
                    | go_keep
                    | (go_split_ands
                       refine ⟨?_, ?_⟩
                       · (rw [hgrow.cell_far _ (by simp; omega) (Ne.symm ag)]; assumption)
                       · (rw [hgrow.cell_far _ (by simp; omega) (Ne.symm ag2)]; assumption)))
                  ((refine step_append_lies _ (by rfl) _ _ _ (by rfl) w.heap.size 61 i0 _ 2 32 Tryz.underlying29 hi0 hz0 hz1 hz2 rfl (by omega) u6 lo.length (cellsF lo) (by rfl) (((owns_drewN _ HOWN.out).alloc _).drew)
                      ⟨wr.heap.size, 0, none⟩ 1 1 [.string lb[0].1, .string lb[0].2] (by rfl) (by rfl) (World.news_of_block (cs := #[.string lb[0].1, .string lb[0].2]) (t := 61) (fr := (0, 0)) (heap_alloc_new _ _)) (by simp [Value.oneCell'])
                      (by omega) (by unfold maxLen; omega) (by omega) (by simp; omega) (wr.heap.size + 1) (by simp) ?_; intro gg cap w1 hown1 hgrow hat hlt))
                go_roundw
                case rel =>
                  have HT := UniAt.take_b (readsIn_tail hcB hmB hbB HBw.out hnb) hna hnb hlen HA'.out (by first | exact ((below_drewN _ HBEL.out).alloc hsz _).drew | exact (below_drewN _ HBEL.out).alloc hsz _) hless HMORE.out hown1 hgrow (fun k hk => (HOWN.out.lt k hk).1) HUNI.out
                  repeat apply Exists.intro
                  exact ⟨HT, rfl⟩
                case measure => simp [sliceLen]; omega
            · have HNM := Lib.hid (less_irrefl (x := la[0]) (y := lb[0]) (by simpa using heq))
              cases hvb : (la[0].2.toList == lb[0].2.toList)
              · have hvv : ¬ la[0].2.toList = lb[0].2.toList := by simpa using hvb
                have HNO := Lib.hid (uni_none hna hnb hless HNM.out hvv HUNI.out); clear hvv
                go_wp2
                go_quiet (fail)
                go_wp2
                go_quiet (fail)
                go_wp2
                go_quiet (fail)
                go_wp2
                go_ret2
                exact ⟨by repeat (first | exact Below.refl _ _ | exact HBEL.out | apply below_drewN), .inl ⟨by unfold unify; rw [if_pos ⟨HI.out, HJ.out⟩]; exact HNO.out, rfl⟩⟩
              · have hvv : la[0].2.toList = lb[0].2.toList := by simpa using hvb
                have HVV := Lib.hid hvv; clear hvv
                go_wp2
                go_quiet (fail)
                go_wp2
                go_quiet (fail)
                go_wp2
                go_quiet (fail)
                go_wp2
                by_cases hqA : capA = 1
                · subst hqA
                  by_cases hqB : capB = 1
                  · subst hqB
                    have ag : u6.ownBlock ≠ some A.block := by
                      intro h
                      have := (HOWN.out.lt _ h).1
                      omega
                    have ag2 : u6.ownBlock ≠ some ({ block := A.block, off := A.off + 1 } : Addr).block := ag
                    have lA := World.block_lt_of_cell? wr _ x1
                    go_region_held3 (fun w' => w'.cell? A = some (.string la[0].1) ∧ w'.cell? { block := A.block, off := A.off + 1 } = some (.string la[0].2))
                      (first
                        | go_keep
                        | (go_split_ands
                           refine ⟨?_, ?_⟩
                           · (rw [hgrow.cell_far _ (by simp; omega) (Ne.symm ag)]; assumption)
                           · (rw [hgrow.cell_far _ (by simp; omega) (Ne.symm ag2)]; assumption)))
                      ((refine step_append_lies _ (by rfl) _ _ _ (by rfl) w.heap.size 61 i0 _ 2 32 Tryz.underlying29 hi0 hz0 hz1 hz2 rfl (by omega) u6 lo.length (cellsF lo) (by rfl) (((owns_drewN _ HOWN.out).alloc _).drew)
                          ⟨wr.heap.size, 0, none⟩ 1 1 [.string la[0].1, .string la[0].2] (by rfl) (by rfl) (World.news_of_block (cs := #[.string la[0].1, .string la[0].2]) (t := 61) (fr := (0, 0)) (heap_alloc_new _ _)) (by simp [Value.oneCell'])
                          (by omega) (by unfold maxLen; omega) (by omega) (by simp; omega) (wr.heap.size + 1) (by simp) ?_; intro gg cap w1 hown1 hgrow hat hlt))
                    go_roundw
                    case rel =>
                      have HT := UniAt.take_ab (readsIn_last (A := A) (l := la) (by omega) hbA 0 rfl) (readsIn_last (A := B) (l := lb) (by omega) hbB 0 rfl) hna hnb hlen (by first | exact ((below_drewN _ HBEL.out).alloc hsz _).drew | exact (below_drewN _ HBEL.out).alloc hsz _) hless HNM.out HVV.out hown1 hgrow (fun k hk => (HOWN.out.lt k hk).1) HUNI.out
                      repeat apply Exists.intro
                      exact ⟨HT, rfl⟩
                    case measure => simp [sliceLen]; omega
                  · have hqB1 : ¬ ((capB : Int) = 1) := by omega
                    have ag : u6.ownBlock ≠ some A.block := by
                      intro h
                      have := (HOWN.out.lt _ h).1
                      omega
                    have ag2 : u6.ownBlock ≠ some ({ block := A.block, off := A.off + 1 } : Addr).block := ag
                    have lA := World.block_lt_of_cell? wr _ x1
                    go_region_held3 (fun w' => w'.cell? A = some (.string la[0].1) ∧ w'.cell? { block := A.block, off := A.off + 1 } = some (.string la[0].2))
                      (first
                        | go_keep
                        | (go_split_ands
                           refine ⟨?_, ?_⟩
                           · (rw [hgrow.cell_far _ (by simp; omega) (Ne.symm ag)]; assumption)
                           · (rw [hgrow.cell_far _ (by simp; omega) (Ne.symm ag2)]; assumption)))
                      ((refine step_append_lies _ (by rfl) _ _ _ (by rfl) w.heap.size 61 i0 _ 2 32 Tryz.underlying29 hi0 hz0 hz1 hz2 rfl (by omega) u6 lo.length (cellsF lo) (by rfl) (((owns_drewN _ HOWN.out).alloc _).drew)
                          ⟨wr.heap.size, 0, none⟩ 1 1 [.string la[0].1, .string la[0].2] (by rfl) (by rfl) (World.news_of_block (cs := #[.string la[0].1, .string la[0].2]) (t := 61) (fr := (0, 0)) (heap_alloc_new _ _)) (by simp [Value.oneCell'])
                          (by omega) (by unfold maxLen; omega) (by omega) (by simp; omega) (wr.heap.size + 1) (by simp) ?_; intro gg cap w1 hown1 hgrow hat hlt))
                    go_roundw
                    case rel =>
                      have HT := UniAt.take_ab (readsIn_last (A := A) (l := la) (by omega) hbA 0 rfl) (readsIn_tail hcB hmB hbB HBw.out hnb) hna hnb hlen (by first | exact ((below_drewN _ HBEL.out).alloc hsz _).drew | exact (below_drewN _ HBEL.out).alloc hsz _) hless HNM.out HVV.out hown1 hgrow (fun k hk => (HOWN.out.lt k hk).1) HUNI.out
                      repeat apply Exists.intro
                      exact ⟨HT, rfl⟩
                    case measure => simp [sliceLen]; omega
                · have hqA1 : ¬ ((capA : Int) = 1) := by omega
                  by_cases hqB : capB = 1
                  · subst hqB
                    have ag : u6.ownBlock ≠ some A.block := by
                      intro h
                      have := (HOWN.out.lt _ h).1
                      omega
                    have ag2 : u6.ownBlock ≠ some ({ block := A.block, off := A.off + 1 } : Addr).block := ag
                    have lA := World.block_lt_of_cell? wr _ x1
                    go_region_held3 (fun w' => w'.cell? A = some (.string la[0].1) ∧ w'.cell? { block := A.block, off := A.off + 1 } = some (.string la[0].2))
                      (first
                        | go_keep
                        | (go_split_ands
                           refine ⟨?_, ?_⟩
                           · (rw [hgrow.cell_far _ (by simp; omega) (Ne.symm ag)]; assumption)
                           · (rw [hgrow.cell_far _ (by simp; omega) (Ne.symm ag2)]; assumption)))
                      ((refine step_append_lies _ (by rfl) _ _ _ (by rfl) w.heap.size 61 i0 _ 2 32 Tryz.underlying29 hi0 hz0 hz1 hz2 rfl (by omega) u6 lo.length (cellsF lo) (by rfl) (((owns_drewN _ HOWN.out).alloc _).drew)
                          ⟨wr.heap.size, 0, none⟩ 1 1 [.string la[0].1, .string la[0].2] (by rfl) (by rfl) (World.news_of_block (cs := #[.string la[0].1, .string la[0].2]) (t := 61) (fr := (0, 0)) (heap_alloc_new _ _)) (by simp [Value.oneCell'])
                          (by omega) (by unfold maxLen; omega) (by omega) (by simp; omega) (wr.heap.size + 1) (by simp) ?_; intro gg cap w1 hown1 hgrow hat hlt))
                    go_roundw
                    case rel =>
                      have HT := UniAt.take_ab (readsIn_tail hcA hmA hbA HAw.out hna) (readsIn_last (A := B) (l := lb) (by omega) hbB 0 rfl) hna hnb hlen (by first | exact ((below_drewN _ HBEL.out).alloc hsz _).drew | exact (below_drewN _ HBEL.out).alloc hsz _) hless HNM.out HVV.out hown1 hgrow (fun k hk => (HOWN.out.lt k hk).1) HUNI.out
                      repeat apply Exists.intro
                      exact ⟨HT, rfl⟩
                    case measure => simp [sliceLen]; omega
                  · have hqB1 : ¬ ((capB : Int) = 1) := by omega
                    have ag : u6.ownBlock ≠ some A.block := by
                      intro h
                      have := (HOWN.out.lt _ h).1
                      omega
                    have ag2 : u6.ownBlock ≠ some ({ block := A.block, off := A.off + 1 } : Addr).block := ag
                    have lA := World.block_lt_of_cell? wr _ x1
                    go_region_held3 (fun w' => w'.cell? A = some (.string la[0].1) ∧ w'.cell? { block := A.block, off := A.off + 1 } = some (.string la[0].2))
                      (first
                        | go_keep
                        | (go_split_ands
                           refine ⟨?_, ?_⟩
                           · (rw [hgrow.cell_far _ (by simp; omega) (Ne.symm ag)]; assumption)
                           · (rw [hgrow.cell_far _ (by simp; omega) (Ne.symm ag2)]; assumption)))
                      ((refine step_append_lies _ (by rfl) _ _ _ (by rfl) w.heap.size 61 i0 _ 2 32 Tryz.underlying29 hi0 hz0 hz1 hz2 rfl (by omega) u6 lo.length (cellsF lo) (by rfl) (((owns_drewN _ HOWN.out).alloc _).drew)
                          ⟨wr.heap.size, 0, none⟩ 1 1 [.string la[0].1, .string la[0].2] (by rfl) (by rfl) (World.news_of_block (cs := #[.string la[0].1, .string la[0].2]) (t := 61) (fr := (0, 0)) (heap_alloc_new _ _)) (by simp [Value.oneCell'])
                          (by omega) (by unfold maxLen; omega) (by omega) (by simp; omega) (wr.heap.size + 1) (by simp) ?_; intro gg cap w1 hown1 hgrow hat hlt))
                    go_roundw
                    case rel =>
                      have HT := UniAt.take_ab (readsIn_tail hcA hmA hbA HAw.out hna) (readsIn_tail hcB hmB hbB HBw.out hnb) hna hnb hlen (by first | exact ((below_drewN _ HBEL.out).alloc hsz _).drew | exact (below_drewN _ HBEL.out).alloc hsz _) hless HNM.out HVV.out hown1 hgrow (fun k hk => (HOWN.out.lt k hk).1) HUNI.out
                      repeat apply Exists.intro
                      exact ⟨HT, rfl⟩
                    case measure => simp [sliceLen]; omega
          · go_wp2
            go_quiet (fail)
            go_wp2
            by_cases hqA : capA = 1
            · subst hqA
              have ag : u6.ownBlock ≠ some A.block := by
                intro h
                have := (HOWN.out.lt _ h).1
                omega
              have ag2 : u6.ownBlock ≠ some ({ block := A.block, off := A.off + 1 } : Addr).block := ag
              have lA := World.block_lt_of_cell? wr _ x1
              go_region_held3 (fun w' => w'.cell? A = some (.string la[0].1) ∧ w'.cell? { block := A.block, off := A.off + 1 } = some (.string la[0].2))
                (first
                  | go_keep
                  | (go_split_ands
                     refine ⟨?_, ?_⟩
                     · (rw [hgrow.cell_far _ (by simp; omega) (Ne.symm ag)]; assumption)
                     · (rw [hgrow.cell_far _ (by simp; omega) (Ne.symm ag2)]; assumption)))
                ((refine step_append_lies _ (by rfl) _ _ _ (by rfl) w.heap.size 61 i0 _ 2 32 Tryz.underlying29 hi0 hz0 hz1 hz2 rfl (by omega) u6 lo.length (cellsF lo) (by rfl) (((owns_drewN _ HOWN.out).alloc _).drew)
                    ⟨wr.heap.size, 0, none⟩ 1 1 [.string la[0].1, .string la[0].2] (by rfl) (by rfl) (World.news_of_block (cs := #[.string la[0].1, .string la[0].2]) (t := 61) (fr := (0, 0)) (heap_alloc_new _ _)) (by simp [Value.oneCell'])
                    (by omega) (by unfold maxLen; omega) (by omega) (by simp; omega) (wr.heap.size + 1) (by simp) ?_; intro gg cap w1 hown1 hgrow hat hlt))
              go_roundw
              case rel =>
                have HT := UniAt.take_a (readsIn_last (A := A) (l := la) (by omega) hbA 0 rfl) hna hnb hlen HB'.out (by first | exact ((below_drewN _ HBEL.out).alloc hsz _).drew | exact (below_drewN _ HBEL.out).alloc hsz _) hless hown1 hgrow (fun k hk => (HOWN.out.lt k hk).1) HUNI.out
                repeat apply Exists.intro
                exact ⟨HT, rfl⟩
              case measure => simp [sliceLen]; omega
            · have hqA1 : ¬ ((capA : Int) = 1) := by omega
              have ag : u6.ownBlock ≠ some A.block := by
                intro h
                have := (HOWN.out.lt _ h).1
                omega
              have ag2 : u6.ownBlock ≠ some ({ block := A.block, off := A.off + 1 } : Addr).block := ag
              have lA := World.block_lt_of_cell? wr _ x1
              go_region_held3 (fun w' => w'.cell? A = some (.string la[0].1) ∧ w'.cell? { block := A.block, off := A.off + 1 } = some (.string la[0].2))
                (first
                  | go_keep
                  | (go_split_ands
                     refine ⟨?_, ?_⟩
                     · (rw [hgrow.cell_far _ (by simp; omega) (Ne.symm ag)]; assumption)
                     · (rw [hgrow.cell_far _ (by simp; omega) (Ne.symm ag2)]; assumption)))
                ((refine step_append_lies _ (by rfl) _ _ _ (by rfl) w.heap.size 61 i0 _ 2 32 Tryz.underlying29 hi0 hz0 hz1 hz2 rfl (by omega) u6 lo.length (cellsF lo) (by rfl) (((owns_drewN _ HOWN.out).alloc _).drew)
                    ⟨wr.heap.size, 0, none⟩ 1 1 [.string la[0].1, .string la[0].2] (by rfl) (by rfl) (World.news_of_block (cs := #[.string la[0].1, .string la[0].2]) (t := 61) (fr := (0, 0)) (heap_alloc_new _ _)) (by simp [Value.oneCell'])
                    (by omega) (by unfold maxLen; omega) (by omega) (by simp; omega) (wr.heap.size + 1) (by simp) ?_; intro gg cap w1 hown1 hgrow hat hlt))
              go_roundw
              case rel =>
                have HT := UniAt.take_a (readsIn_tail hcA hmA hbA HAw.out hna) hna hnb hlen HB'.out (by first | exact ((below_drewN _ HBEL.out).alloc hsz _).drew | exact (below_drewN _ HBEL.out).alloc hsz _) hless hown1 hgrow (fun k hk => (HOWN.out.lt k hk).1) HUNI.out
                repeat apply Exists.intro
                exact ⟨HT, rfl⟩
              case measure => simp [sliceLen]; omega
        · have HEND := Lib.hid (uni_end hne HUNI.out)
          rename World => wr
          have hsz := HBEL.out.size
          rcases hA with ⟨rfl, rfl⟩ | ⟨A, capA, rfl, hcA, hmA, hbA, HA⟩
          · rcases hB with ⟨rfl, rfl⟩ | ⟨B, capB, rfl, hcB, hmB, hbB, HB⟩
            · try clear hne
              go_wp2_with (first | (at_builtin; refine wpList_append_own_none rfl (.tmp 79) (.tmp 80) 29 rfl w.heap.size 61 i0 2 Tryz.underlying29 hi0 _ _ _ rfl HOWN.out rfl ?_) | (at_builtin; refine wpList_append_own_none rfl (.tmp 82) (.tmp 83) 29 rfl w.heap.size 61 i0 2 Tryz.underlying29 hi0 _ _ _ rfl HOWN.out rfl ?_))
              go_ret2
              exact ⟨HBEL.out, .inr ⟨_, _, by unfold unify; rw [if_pos ⟨HI.out, HJ.out⟩]; exact HEND.out, rfl, by have := HOWN.out; simpa [cellsF, Nat.add_assoc] using this⟩⟩
            · have HBw := Lib.hid HB; clear HB hne
              unfold maxLen at hmB
              go_wp2_with (first | (at_builtin; refine wpList_append_own_none rfl (.tmp 79) (.tmp 80) 29 rfl w.heap.size 61 i0 2 Tryz.underlying29 hi0 _ _ _ rfl HOWN.out rfl ?_) | (at_builtin; refine wpList_append_own _ rfl (.tmp 82) (.tmp 83) 29 rfl w.heap.size 61 i0 _ 2 32 Tryz.underlying29 hi0 hz0 hz1 hz2 rfl (by omega) _ _ _ rfl HOWN.out B lb.length capB (cellsF lb) rfl (cells_length _) (row_news (rowAt_below HBEL.out hbB HBw.out)) (cells_one _) (by unfold maxLen; omega) (by omega) (by first | exact HBEL.out.size | omega) ?_; intro q w2 hOq hGq hNq; have HOWN2 := Lib.hid hOq; have HBEL2 := Lib.hid (HBEL.out.grown hGq HBEL.out.size (fun k hk => (HOWN.out.lt k hk).1)); clear hOq hGq hNq))
              go_ret2
              exact ⟨HBEL2.out, .inr ⟨_, _, by unfold unify; rw [if_pos ⟨HI.out, HJ.out⟩]; exact HEND.out, rfl, by have := HOWN2.out; simpa [cellsF, Nat.add_assoc] using this⟩⟩
          · have HAw := Lib.hid HA; clear HA
            have HA := Lib.hid (rowAt_below HBEL.out hbA HAw.out)
            unfold maxLen at hmA
            rcases hB with ⟨rfl, rfl⟩ | ⟨B, capB, rfl, hcB, hmB, hbB, HB⟩
            · by_cases hna : 0 < (la.length : Int)
              · clear hne
                go_wp2_with (first | (at_builtin; refine wpList_append_own _ rfl (.tmp 79) (.tmp 80) 29 rfl w.heap.size 61 i0 _ 2 32 Tryz.underlying29 hi0 hz0 hz1 hz2 rfl (by omega) _ _ _ rfl HOWN.out A la.length capA (cellsF la) rfl (cells_length _) (row_news HA.out) (cells_one _) (by unfold maxLen; omega) (by omega) (by first | exact HBEL.out.size | omega) ?_; intro p w1 hOp hGp hNp; have HOWN1 := Lib.hid hOp; have HBEL1 := Lib.hid (HBEL.out.grown hGp HBEL.out.size (fun k hk => (HOWN.out.lt k hk).1)); clear hOp hGp hNp) | (at_builtin; refine wpList_append_own_none rfl (.tmp 82) (.tmp 83) 29 rfl w.heap.size 61 i0 2 Tryz.underlying29 hi0 _ _ _ rfl HOWN1.out rfl ?_))
                go_ret2
                exact ⟨HBEL1.out, .inr ⟨_, _, by unfold unify; rw [if_pos ⟨HI.out, HJ.out⟩]; exact HEND.out, rfl, by have := HOWN1.out; simpa [cellsF, Nat.add_assoc] using this⟩⟩
              · clear hne
                go_wp2_with (first | (at_builtin; refine wpList_append_own _ rfl (.tmp 79) (.tmp 80) 29 rfl w.heap.size 61 i0 _ 2 32 Tryz.underlying29 hi0 hz0 hz1 hz2 rfl (by omega) _ _ _ rfl HOWN.out A la.length capA (cellsF la) rfl (cells_length _) (row_news HA.out) (cells_one _) (by unfold maxLen; omega) (by omega) (by first | exact HBEL.out.size | omega) ?_; intro p w1 hOp hGp hNp; have HOWN1 := Lib.hid hOp; have HBEL1 := Lib.hid (HBEL.out.grown hGp HBEL.out.size (fun k hk => (HOWN.out.lt k hk).1)); clear hOp hGp hNp) | (at_builtin; refine wpList_append_own_none rfl (.tmp 82) (.tmp 83) 29 rfl w.heap.size 61 i0 2 Tryz.underlying29 hi0 _ _ _ rfl HOWN1.out rfl ?_))
                go_ret2
                exact ⟨HBEL1.out, .inr ⟨_, _, by unfold unify; rw [if_pos ⟨HI.out, HJ.out⟩]; exact HEND.out, rfl, by have := HOWN1.out; simpa [cellsF, Nat.add_assoc] using this⟩⟩
            · have HBw := Lib.hid HB; clear HB
              unfold maxLen at hmB
              by_cases hna : 0 < (la.length : Int)
              · have hnb : ¬ (0 : Int) < (lb.length : Int) := by omega
                clear hne
                go_wp2_with (first | (at_builtin; refine wpList_append_own _ rfl (.tmp 79) (.tmp 80) 29 rfl w.heap.size 61 i0 _ 2 32 Tryz.underlying29 hi0 hz0 hz1 hz2 rfl (by omega) _ _ _ rfl HOWN.out A la.length capA (cellsF la) rfl (cells_length _) (row_news HA.out) (cells_one _) (by unfold maxLen; omega) (by omega) (by first | exact HBEL.out.size | omega) ?_; intro p w1 hOp hGp hNp; have HOWN1 := Lib.hid hOp; have HBEL1 := Lib.hid (HBEL.out.grown hGp HBEL.out.size (fun k hk => (HOWN.out.lt k hk).1)); clear hOp hGp hNp) | (at_builtin; refine wpList_append_own _ rfl (.tmp 82) (.tmp 83) 29 rfl w.heap.size 61 i0 _ 2 32 Tryz.underlying29 hi0 hz0 hz1 hz2 rfl (by omega) _ _ _ rfl HOWN1.out B lb.length capB (cellsF lb) rfl (cells_length _) (row_news (rowAt_below HBEL1.out hbB HBw.out)) (cells_one _) (by unfold maxLen; omega) (by omega) (by first | exact HBEL1.out.size | omega) ?_; intro q w2 hOq hGq hNq; have HOWN2 := Lib.hid hOq; have HBEL2 := Lib.hid (HBEL1.out.grown hGq HBEL1.out.size (fun k hk => (HOWN1.out.lt k hk).1)); clear hOq hGq hNq))
                go_ret2
                exact ⟨HBEL2.out, .inr ⟨_, _, by unfold unify; rw [if_pos ⟨HI.out, HJ.out⟩]; exact HEND.out, rfl, by have := HOWN2.out; simpa [cellsF, Nat.add_assoc] using this⟩⟩
              · clear hne
                go_wp2_with (first | (at_builtin; refine wpList_append_own _ rfl (.tmp 79) (.tmp 80) 29 rfl w.heap.size 61 i0 _ 2 32 Tryz.underlying29 hi0 hz0 hz1 hz2 rfl (by omega) _ _ _ rfl HOWN.out A la.length capA (cellsF la) rfl (cells_length _) (row_news HA.out) (cells_one _) (by unfold maxLen; omega) (by omega) (by first | exact HBEL.out.size | omega) ?_; intro p w1 hOp hGp hNp; have HOWN1 := Lib.hid hOp; have HBEL1 := Lib.hid (HBEL.out.grown hGp HBEL.out.size (fun k hk => (HOWN.out.lt k hk).1)); clear hOp hGp hNp) | (at_builtin; refine wpList_append_own _ rfl (.tmp 82) (.tmp 83) 29 rfl w.heap.size 61 i0 _ 2 32 Tryz.underlying29 hi0 hz0 hz1 hz2 rfl (by omega) _ _ _ rfl HOWN1.out B lb.length capB (cellsF lb) rfl (cells_length _) (row_news (rowAt_below HBEL1.out hbB HBw.out)) (cells_one _) (by unfold maxLen; omega) (by omega) (by first | exact HBEL1.out.size | omega) ?_; intro q w2 hOq hGq hNq; have HOWN2 := Lib.hid hOq; have HBEL2 := Lib.hid (HBEL1.out.grown hGq HBEL1.out.size (fun k hk => (HOWN1.out.lt k hk).1)); clear hOq hGq hNq))
                go_ret2
                exact ⟨HBEL2.out, .inr ⟨_, _, by unfold unify; rw [if_pos ⟨HI.out, HJ.out⟩]; exact HEND.out, rfl, by have := HOWN2.out; simpa [cellsF, Nat.add_assoc] using this⟩⟩
end Go.Proofs.YtgddmegjncbndaaGreatDoor
