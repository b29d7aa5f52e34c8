/- Unify, as the specification does it. -/
import Derived.Test.YtgddmegjncbndaaGreatDoorUniA
namespace Go.Proofs.YtgddmegjncbndaaGreatDoor
open Go Go.RowKit
theorem open_in {B : Nat} {w : World} {v : Value} {l : List Ft} (h : ReadsIn B w v l) :
    ∃ (p : Option Addr) (cap : Nat), v = .slice p l.length cap ∧ l.length ≤ cap ∧ cap ≤ maxLen ∧ (0 < l.length → ∃ A, p = some A ∧ A.block < B ∧ RowAt w A l) := by
  rcases h with ⟨rfl, rfl⟩ | ⟨A, cap, rfl, h1, h2, h3, h4⟩
  · exact ⟨none, 0, rfl, by simp, by simp, fun h => by simp at h⟩
  · exact ⟨some A, cap, rfl, h1, h2, fun h0 => ⟨A, rfl, h3 h0, h4⟩⟩
section
variable {l m lo : List Ft} {i k : Nat}
theorem drop_get (h : i < l.length) : l.drop i = l[i] :: l.drop (i + 1) := List.drop_eq_getElem_cons h
def Left (l m lo : List Ft) (i k : Nat) : Prop := uni l m = (uni (l.drop i) (m.drop k)).map (lo ++ ·)
theorem Left.aEnd (h : Left l m lo i k) (hi : i < l.length) (hk : ¬ k < m.length) : Left l m (lo ++ [l[i]]) (i + 1) k := by
  unfold Left at h ⊢
  rw [h, drop_get hi, List.drop_eq_nil_of_le (show m.length ≤ k by omega), uni_right, uni_right]; simp
theorem Left.bEnd (h : Left l m lo i k) (hi : ¬ i < l.length) (hk : k < m.length) : Left l m (lo ++ [m[k]]) i (k + 1) := by
  unfold Left at h ⊢
  rw [h, drop_get hk, List.drop_eq_nil_of_le (show l.length ≤ i by omega), uni_left, uni_left]; simp
theorem Left.aLess (h : Left l m lo i k) (hi : i < l.length) (hk : k < m.length) (hs : less l[i] m[k] = true) : Left l m (lo ++ [l[i]]) (i + 1) k := by
  unfold Left at h ⊢
  rw [h, drop_get hi, drop_get hk, uni_less hs, map_cons]
theorem Left.bLess (h : Left l m lo i k) (hi : i < l.length) (hk : k < m.length) (hs : less l[i] m[k] = false) (ht : less m[k] l[i] = true) : Left l m (lo ++ [m[k]]) i (k + 1) := by
  unfold Left at h ⊢
  rw [h, drop_get hi, drop_get hk, uni_more hs ht, map_cons]
theorem Left.both (h : Left l m lo i k) (hi : i < l.length) (hk : k < m.length) (hs : less l[i] m[k] = false) (ht : less m[k] l[i] = false) (hv : l[i].2.toList = m[k].2.toList) : Left l m (lo ++ [l[i]]) (i + 1) (k + 1) := by
  unfold Left at h ⊢
  rw [h, drop_get hi, drop_get hk, uni_same hs ht hv, map_cons]
theorem Left.clash (h : Left l m lo i k) (hi : i < l.length) (hk : k < m.length) (hs : less l[i] m[k] = false) (ht : less m[k] l[i] = false) (hv : ¬ l[i].2.toList = m[k].2.toList) : uni l m = none := by
  unfold Left at h
  rw [h, drop_get hi, drop_get hk, uni_clash hs ht hv]; rfl
theorem Left.ends (h : Left l m lo i k) (hi : ¬ i < l.length) (hk : ¬ k < m.length) : uni l m = some lo := by
  unfold Left at h
  rw [h, List.drop_eq_nil_of_le (by omega), List.drop_eq_nil_of_le (by omega), uni_left]; simp
end
theorem eq_of_less {x y : List UInt8} (h : Op.bytesLess x y = false) (h' : Op.bytesLess y x = false) : x = y := by
  rw [bytesLess_eq, decide_eq_false_iff_not] at h h'
  rcases List.le_iff_lt_or_eq.1 (List.not_lt.1 h) with h1 | h1
  · exact absurd h1 h'
  · exact h1.symm
def RefAt (l m : List Ft) (w : World) (vo vi vk : Value) (wr : World) : Prop :=
  ∃ (lo : List Ft) (i k : Nat), i ≤ l.length ∧ k ≤ m.length ∧ lo.length ≤ i + k ∧ vi = .int .i64 i ∧ vk = .int .i64 k ∧
    wr.ownsRow w.heap.size 61 2 vo lo.length (cellsF lo) ∧ Below w.heap.size w wr ∧ Left l m lo i k
theorem RefAt.next {l m lo : List Ft} {i k i' k' : Nat} {x : Ft} {w W w1 : World} {v0 v : Value} (hi : i' ≤ l.length) (hk : k' ≤ m.length) (hl : lo.length ≤ i + k) (hik : i + k + 1 ≤ i' + k')
    (hown : w1.ownsRow w.heap.size 61 2 v (lo.length + 1) (cellsF lo ++ [.string x.1, .string x.2])) (hW : Below w.heap.size w W) (hg : W.grownBy w1 v0.ownBlock)
    (hlt : ∀ k, v0.ownBlock = some k → w.heap.size ≤ k) (hu : Left l m (lo ++ [x]) i' k') : RefAt l m w v (.int .i64 i') (.int .i64 k') w1 := by
  refine ⟨lo ++ [x], i', k', hi, hk, by simp; omega, rfl, rfl, ?_, hW.grown hg hW.size hlt, hu⟩
  have : cellsF (lo ++ [x]) = cellsF lo ++ [.string x.1, .string x.2] := by simp [cellsF]
  rw [this, List.length_append]; exact hown
set_option maxRecDepth 100000 in
set_option maxHeartbeats 4000000 in
theorem refUnify_any (u v : Value) (l m : List Ft) (w : World) (hl : l.length ≤ 100) (hm : m.length ≤ 100) (h : ReadsIn w.heap.size w u l) (h' : ReadsIn w.heap.size w v m) :
    Calls Tryz.prog 54 #[u, v] w (Unified l m w) := by
  obtain ⟨i0, hi0, hz0, hz1, hz2⟩ := info_parts info66
  obtain ⟨p, capA, rfl, hcA, hmA, HA0⟩ := open_in h
  obtain ⟨q, capB, rfl, hcB, hmB, HB0⟩ := open_in h'
  have HA := Lib.hid HA0; clear HA0 h
  have HB := Lib.hid HB0; clear HB0 h'
  unfold maxLen at hmA hmB
  go_enter Tryz.func54, Tryz.ntmps54
  go_wp2
  go_loopw [6] (fun i wr => ∃ k n : Nat, 1 ≤ k ∧ (k ≤ l.length ∨ k = 1) ∧ i = .int .i64 k ∧ risen l k ∧ wr = w.drewN n) (fun i _ => l.length - (intOf i).toNat)
  case atStart => exact ⟨1, 0, by omega, .inr rfl, rfl, fun i _ h1 h2 => by omega, rfl⟩
  case round =>
    obtain ⟨k, n, hk1, hk, rfl, hr, rfl⟩ := hrel
    have HR := Lib.hid hr; clear hr
    by_cases hlt : k < l.length
    · obtain ⟨A, rfl, hbA, RA⟩ := HA.out (by omega)
      have c1 := (RA (k - 1) (by omega)).1
      have c2 := (RA k hlt).1
      clear RA
      cases hb : Op.bytesLess l[k - 1].1.toList l[k].1.toList
      · have HN := Lib.hid (incr_false hk1 hlt hb)
        go_wp2
        go_quiet (fail)
        go_wp2
        go_ret2
        exact ⟨by repeat (first | exact Below.refl _ _ | apply below_drewN), .inl ⟨by unfold unify; rw [HN.out]; simp, rfl⟩⟩
      · have HG := Lib.hid (risen_succ HR.out hlt (fun _ => hb))
        go_wp2
        go_quiet (fail)
        go_wp2
        go_roundw
        case rel => exact ⟨k + 1, _, by omega, .inl (by omega), by go_num, HG.out, by first | exact World.drewN_drewN _ _ _ | rfl⟩
        case measure => simp [intOf]; omega
    · have HI := Lib.hid (incr_true HR.out (by omega)); clear HR
      go_wp2
      go_loopw [7] (fun i wr => ∃ k n : Nat, 1 ≤ k ∧ (k ≤ m.length ∨ k = 1) ∧ i = .int .i64 k ∧ risen m k ∧ wr = w.drewN n) (fun i _ => m.length - (intOf i).toNat)
      case atStart => exact ⟨1, _, by omega, .inr rfl, rfl, fun i _ h1 h2 => by omega, rfl⟩
      case round =>
        clear hlt hk hk1
        obtain ⟨k, n, hk1, hk, rfl, hr, rfl⟩ := hrel
        have HR := Lib.hid hr; clear hr
        by_cases hlt : k < m.length
        · obtain ⟨B, rfl, hbB, RB⟩ := HB.out (by omega)
          have c1 := (RB (k - 1) (by omega)).1
          have c2 := (RB k hlt).1
          clear RB
          cases hb : Op.bytesLess m[k - 1].1.toList m[k].1.toList
          · have HN := Lib.hid (incr_false hk1 hlt hb)
            go_wp2
            go_quiet (fail)
            go_wp2
            go_ret2
            exact ⟨by repeat (first | exact Below.refl _ _ | apply below_drewN), .inl ⟨by unfold unify; rw [HN.out]; simp, rfl⟩⟩
          · have HG := Lib.hid (risen_succ HR.out hlt (fun _ => hb))
            go_wp2
            go_quiet (fail)
            go_wp2
            go_roundw
            case rel => exact ⟨k + 1, _, by omega, .inl (by omega), by go_num, HG.out, by first | exact World.drewN_drewN _ _ _ | rfl⟩
            case measure => simp [intOf]; omega
        · have HJ := Lib.hid (incr_true HR.out (by omega)); clear HR
          go_wp2
          go_loopw [8, 9, 10] (fun vo vi vk wr => RefAt l m w vo vi vk wr) (fun _ vi vk _ => l.length + m.length - (intOf vi).toNat - (intOf vk).toNat)
          case atStart => exact ⟨[], 0, 0, by omega, by omega, by simp, rfl, rfl, World.ownsRow_nil _ _ _ _, by repeat (first | exact Below.refl _ _ | apply below_drewN), by unfold Left; simp⟩
          case round =>
            clear hlt hk hk1
            obtain ⟨lo, i, k, hi, hk, hlo, rfl, rfl, hown, hbel, hleft⟩ := hrel
            have HLO := Lib.hid hlo
            have HOWN := Lib.hid hown; clear hown
            have HBEL := Lib.hid hbel; clear hbel
            have HLEFT := Lib.hid hleft; clear hleft
            rename World => wr
            have a66 := Tryz.isAgg61
            have z66 := Tryz.sizeOf61
            by_cases h1 : i < l.length
            · obtain ⟨A, rfl, hbA, RA⟩ := HA.out (by omega)
              obtain ⟨x1, x2⟩ := rowAt_below HBEL.out (fun _ => hbA) RA i h1
              clear RA
              replace x2 := cell_next x2
              by_cases h2 : k < m.length
              · obtain ⟨B, rfl, hbB, RB⟩ := HB.out (by omega)
                obtain ⟨y1, y2⟩ := rowAt_below HBEL.out (fun _ => hbB) RB k h2
                clear RB
                replace y2 := cell_next y2
                have n1 : ¬ ((k : Int) = (m.length : Int)) := by omega
                have n2 : ¬ ((i : Int) = (l.length : Int)) := by omega
                cases hless : Op.bytesLess l[i].1.toList m[k].1.toList
                · cases hmore : Op.bytesLess m[k].1.toList l[i].1.toList
                  · have E1 := Lib.hid (eq_of_less hless hmore)
                    by_cases e2 : l[i].2.toList = m[k].2.toList
                    · have HL := Lib.hid (HLEFT.out.both h1 h2 hless hmore e2)
                      have E2 := Lib.hid e2; clear e2
                      go_wp2
                      go_quiet (fail)
                      go_wp2
                      go_quiet (fail)
                      go_wp2
                      have e1 := E1.out
                      have e2 := E2.out
                      go_quiet (fail)
                      go_wp2_with (at_builtin; refine wpList_append_own _ rfl (.tmp 57) (.tmp 62) 29 rfl w.heap.size 61 i0 _ 2 32 Tryz.underlying29 hi0 hz0 hz1 hz2 rfl (by omega) _ _ _ rfl ((owns_drewN _ HOWN.out).alloc _) ⟨wr.heap.size, 0, none⟩ 1 1 [.string l[i].1, .string l[i].2] rfl rfl (World.news_of_block (cs := #[.string l[i].1, .string l[i].2]) (t := 61) (fr := (0, 0)) (heap_alloc_new _ _)) (by simp [Value.oneCell']) (by unfold maxLen; omega) (by omega) (by have := HBEL.out.size; simp; omega) ?_; intro v1 w1 hO hG hN)
                      go_roundw
                      case rel =>
                        have HT := RefAt.next (i' := i + 1) (k' := k + 1) (by omega) (by omega) HLO.out (by omega) hO (by first | exact (below_drewN _ HBEL.out).alloc HBEL.out.size _ | exact HBEL.out.alloc HBEL.out.size _) hG (fun k hk => (HOWN.out.lt k hk).1) HL.out
                        simpa using HT
                      case measure => simp [intOf]; omega
                    · have HNO := Lib.hid (HLEFT.out.clash h1 h2 hless hmore e2)
                      have E2 := Lib.hid e2; clear e2
                      go_wp2
                      go_quiet (fail)
                      go_wp2
                      go_quiet (fail)
                      go_wp2
                      have e1 := E1.out
                      have e2 := E2.out
                      go_quiet (fail)
                      go_wp2
                      go_ret2
                      exact ⟨by repeat (first | exact HBEL.out | apply below_drewN), .inl ⟨by unfold unify; rw [if_pos ⟨HI.out, HJ.out⟩]; exact HNO.out, rfl⟩⟩
                  · have HL := Lib.hid (HLEFT.out.bLess h1 h2 hless hmore)
                    go_wp2
                    go_quiet (fail)
                    go_wp2
                    go_quiet (fail)
                    go_wp2_with (at_builtin; refine wpList_append_own _ rfl (.tmp 119) (.tmp 124) 29 rfl w.heap.size 61 i0 _ 2 32 Tryz.underlying29 hi0 hz0 hz1 hz2 rfl (by omega) _ _ _ rfl ((owns_drewN _ HOWN.out).alloc _) ⟨wr.heap.size, 0, none⟩ 1 1 [.string m[k].1, .string m[k].2] rfl rfl (World.news_of_block (cs := #[.string m[k].1, .string m[k].2]) (t := 61) (fr := (0, 0)) (heap_alloc_new _ _)) (by simp [Value.oneCell']) (by unfold maxLen; omega) (by omega) (by have := HBEL.out.size; simp; omega) ?_; intro v1 w1 hO hG hN)
                    go_roundw
                    case rel =>
                      have HT := RefAt.next (i' := _) (k' := k + 1) (by omega) (by omega) HLO.out (by omega) hO (by first | exact (below_drewN _ HBEL.out).alloc HBEL.out.size _ | exact HBEL.out.alloc HBEL.out.size _) hG (fun k hk => (HOWN.out.lt k hk).1) HL.out
                      simpa using HT
                    case measure => simp [intOf]; omega
                · have HL := Lib.hid (HLEFT.out.aLess h1 h2 hless)
                  go_wp2
                  go_quiet (fail)
                  go_wp2_with (at_builtin; refine wpList_append_own _ rfl (.tmp 92) (.tmp 97) 29 rfl w.heap.size 61 i0 _ 2 32 Tryz.underlying29 hi0 hz0 hz1 hz2 rfl (by omega) _ _ _ rfl ((owns_drewN _ HOWN.out).alloc _) ⟨wr.heap.size, 0, none⟩ 1 1 [.string l[i].1, .string l[i].2] rfl rfl (World.news_of_block (cs := #[.string l[i].1, .string l[i].2]) (t := 61) (fr := (0, 0)) (heap_alloc_new _ _)) (by simp [Value.oneCell']) (by unfold maxLen; omega) (by omega) (by have := HBEL.out.size; simp; omega) ?_; intro v1 w1 hO hG hN)
                  go_roundw
                  case rel =>
                    have HT := RefAt.next (i' := i + 1) (k' := _) (by omega) (by omega) HLO.out (by omega) hO (by first | exact (below_drewN _ HBEL.out).alloc HBEL.out.size _ | exact HBEL.out.alloc HBEL.out.size _) hG (fun k hk => (HOWN.out.lt k hk).1) HL.out
                    simpa using HT
                  case measure => simp [intOf]; omega
              · have HL0 := HLEFT.out.aEnd h1 h2
                obtain rfl : k = m.length := by omega
                have HL := Lib.hid HL0; clear HL0
                go_wp2
                go_quiet (fail)
                go_wp2_with (at_builtin; refine wpList_append_own _ rfl (.tmp 92) (.tmp 97) 29 rfl w.heap.size 61 i0 _ 2 32 Tryz.underlying29 hi0 hz0 hz1 hz2 rfl (by omega) _ _ _ rfl ((owns_drewN _ HOWN.out).alloc _) ⟨wr.heap.size, 0, none⟩ 1 1 [.string l[i].1, .string l[i].2] rfl rfl (World.news_of_block (cs := #[.string l[i].1, .string l[i].2]) (t := 61) (fr := (0, 0)) (heap_alloc_new _ _)) (by simp [Value.oneCell']) (by unfold maxLen; omega) (by omega) (by have := HBEL.out.size; simp; omega) ?_; intro v1 w1 hO hG hN)
                go_roundw
                case rel =>
                  have HT := RefAt.next (i' := i + 1) (k' := _) (by omega) (by omega) HLO.out (by omega) hO (by first | exact (below_drewN _ HBEL.out).alloc HBEL.out.size _ | exact HBEL.out.alloc HBEL.out.size _) hG (fun k hk => (HOWN.out.lt k hk).1) HL.out
                  simpa using HT
                case measure => simp [intOf]; omega
            · by_cases h2 : k < m.length
              · obtain ⟨B, rfl, hbB, RB⟩ := HB.out (by omega)
                obtain ⟨y1, y2⟩ := rowAt_below HBEL.out (fun _ => hbB) RB k h2
                clear RB
                replace y2 := cell_next y2
                have n1 : ¬ ((k : Int) = (m.length : Int)) := by omega
                have d1 : ((k : Int) == (m.length : Int)) = false := by simpa using n1
                have d3 : decide ((i : Int) < (l.length : Int)) = false := decide_eq_false (by omega)
                have d4 : ((i : Int) == (l.length : Int)) = true := by have : (i : Int) = l.length := by omega
                                                                       simpa using this
                have HL := Lib.hid (HLEFT.out.bEnd h1 h2)
                have HIL := Lib.hid (show i = l.length by omega)
                go_wp2
                go_quiet (fail)
                go_wp2
                go_quiet (fail)
                go_wp2_with (at_builtin; refine wpList_append_own _ rfl (.tmp 119) (.tmp 124) 29 rfl w.heap.size 61 i0 _ 2 32 Tryz.underlying29 hi0 hz0 hz1 hz2 rfl (by omega) _ _ _ rfl ((owns_drewN _ HOWN.out).alloc _) ⟨wr.heap.size, 0, none⟩ 1 1 [.string m[k].1, .string m[k].2] rfl rfl (World.news_of_block (cs := #[.string m[k].1, .string m[k].2]) (t := 61) (fr := (0, 0)) (heap_alloc_new _ _)) (by simp [Value.oneCell']) (by unfold maxLen; omega) (by omega) (by have := HBEL.out.size; simp; omega) ?_; intro v1 w1 hO hG hN)
                go_roundw
                case rel =>
                  have HT := RefAt.next (i' := _) (k' := k + 1) (by omega) (by omega) HLO.out (by omega) hO (by first | exact (below_drewN _ HBEL.out).alloc HBEL.out.size _ | exact HBEL.out.alloc HBEL.out.size _) hG (fun k hk => (HOWN.out.lt k hk).1) HL.out
                  simpa using HT
                case measure => simp [intOf]; omega
              · have HE := Lib.hid (HLEFT.out.ends h1 h2)
                go_wp2
                go_ret2
                exact ⟨by repeat (first | exact HBEL.out | apply below_drewN), .inr ⟨_, _, by unfold unify; rw [if_pos ⟨HI.out, HJ.out⟩]; exact HE.out, rfl, HOWN.out⟩⟩
end Go.Proofs.YtgddmegjncbndaaGreatDoor
