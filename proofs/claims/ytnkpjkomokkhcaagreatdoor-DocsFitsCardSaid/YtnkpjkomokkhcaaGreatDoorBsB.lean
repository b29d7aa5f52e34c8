/- The specification's units of a list, with what they are. The specification's items of a pattern. Whether items fit the units behind a place, by the specification. The first error of break rules, by the specification. -/
import Derived.Test.YtnkpjkomokkhcaaGreatDoorBsA
namespace Go.Proofs.YtnkpjkomokkhcaaGreatDoor
open Go Go.RowKit Go.Lib
set_option maxRecDepth 100000
theorem own_at {B sz n : Nat} {t : TypeId} {v : Value} {xs : List Value} {w : World} {f : Nat → Nat → Value} (h : w.ownsRow B t sz v n xs) (hx : ∀ i j, i < n → j < sz → xs[i * sz + j]? = some (f i j)) : SliceAt w.heap.size w v n sz f := by
  have hc := h
  rcases h.2 with ⟨rfl, h0⟩ | ⟨g, cap, cur, rfl, hg, hh, hn, hm, _⟩
  · exact ⟨none, 0, by rw [h0], by omega, by unfold maxLen; omega, fun h => by omega⟩
  · exact ⟨some ⟨g, 0, none⟩, cap, rfl, hn, hm, fun _ => ⟨_, rfl, lt_of_block hh, fun i j hi hj => World.ownsRow.cells hc (g := g) rfl _ _ (hx i j hi hj)⟩⟩
theorem flat_get {α : Type} (g : α → List Value) (sz : Nat) (hg : ∀ a, (g a).length = sz) (d : α) : ∀ (us : List α) (i j : Nat), i < us.length → j < sz → (us.flatMap g)[i * sz + j]? = (g (us.getD i d))[j]?
  | [], i, j, hi, hj => by cases hi
  | u :: us, 0, j, _, hj => by
    rw [List.flatMap_cons, Nat.zero_mul, Nat.zero_add, List.getElem?_append_left (by rw [hg]; exact hj)]
    rfl
  | u :: us, i + 1, j, hi, hj => by
    have h := flat_get g sz hg d us i j (by rw [List.length_cons] at hi; omega) hj
    have e : (i + 1) * sz + j = sz + (i * sz + j) := by rw [Nat.succ_mul]; omega
    rw [List.flatMap_cons, List.getElem?_append_right (by rw [hg]; omega), hg, e, show sz + (i * sz + j) - sz = i * sz + j by omega, h]
    rfl
def cellsSu (L : List Un) : List Value := L.flatMap fun u => [.int .i32 (u.r : Int), .bool u.h]
theorem cellsSu_app (L : List Un) (r : Nat) (h : Bool) : cellsSu (L ++ [⟨r, h⟩]) = cellsSu L ++ [.int .i32 (r : Int), .bool h] := by unfold cellsSu; rw [List.flatMap_append]; rfl
/-- a row of units that the call owns -/
def OwnSu (B : Nat) (v : Value) (L : List Un) (w : World) : Prop := w.ownsRow B 147 2 v L.length (cellsSu L)
theorem OwnSu.step {B : Nat} {v : Value} {L : List Un} {w w' : World} (hb : Below w.heap.size w w') (h : OwnSu B v L w) : OwnSu B v L w' := ownsRow_step hb h
theorem OwnSu.form {B : Nat} {v : Value} {L : List Un} {w : World} (h : OwnSu B v L w) : ∃ ao cap, v = .slice ao L.length cap := by
  rcases h.2 with ⟨hv, h0⟩ | ⟨g, cap, cur, hv, _⟩
  · exact ⟨none, 0, by rw [hv, h0]⟩
  · exact ⟨_, _, hv⟩
theorem OwnSu.more {B : Nat} {v : Value} {L : List Un} {r : Nat} {h : Bool} {w : World} (hr : w.ownsRow B 147 2 v (L.length + 1) (cellsSu L ++ [.int .i32 (r : Int), .bool h])) : OwnSu B v (L ++ [⟨r, h⟩]) w := by
  unfold OwnSu
  rw [cellsSu_app, List.length_append, List.length_singleton]
  exact hr
theorem OwnSu.at {B : Nat} {v : Value} {L : List Un} {w : World} (h : OwnSu B v L w) : SuAt w v L := by
  refine own_at h fun i j hi hj => ?_
  unfold cellsSu
  rw [flat_get _ 2 (fun _ => rfl) nilU L i j hi hj]
  match j, hj with
  | 0, _ => rfl
  | 1, _ => rfl
def unsTo (l : List Pc) (k : Nat) : List Un := (l.take k).flatMap unsP
def unR (r : Nat) : Un := ⟨r, false⟩
end Go.Proofs.YtnkpjkomokkhcaaGreatDoor
namespace Go.Proofs.YtnkpjkomokkhcaaGreatDoor
open Go Go.RowKit Go.Lib
set_option maxRecDepth 100000
theorem fts_end {rs : List Nat} {X : List Ft} {k : Nat} (hk : rs.length ≤ k) (h : ftsL rs = (ftsL (rs.drop k)).map (X ++ ·)) : ftsL rs = some X := by
  rw [h, List.drop_of_length_le hk]
  simp [ftsL]
theorem drop_rune {rs : List Nat} {k r : Nat} (hr : rs[k]? = some r) : rs.drop k = r :: rs.drop (k + 1) := by
  obtain ⟨hk, e⟩ := List.getElem?_eq_some_iff.1 hr
  rw [List.drop_eq_getElem_cons hk, e]
theorem fts_lit {rs : List Nat} {X : List Ft} {k r : Nat} (hr : rs[k]? = some r) (hn : r ≠ 37) (h : ftsL rs = (ftsL (rs.drop k)).map (X ++ ·)) : ftsL rs = (ftsL (rs.drop (k + 1))).map ((X ++ [⟨false, r⟩]) ++ ·) := by
  have e : ∀ l : List Nat, ftsL (r :: l) = (ftsL l).map (⟨false, r⟩ :: ·) := by
    intro l
    cases l with
    | nil => simp [ftsL, hn]
    | cons s l => simp [ftsL, hn]
  rw [h, drop_rune hr, e, Option.map_map]
  congr 1
  funext Y
  simp
theorem fts_pc {rs : List Nat} {X : List Ft} {k s : Nat} (hr : rs[k]? = some 37) (hs : rs[k + 1]? = some s) (hb : symB s = true) (h : ftsL rs = (ftsL (rs.drop k)).map (X ++ ·)) : ftsL rs = (ftsL (rs.drop (k + 2))).map ((X ++ [⟨true, s⟩]) ++ ·) := by
  rw [h, drop_rune hr, drop_rune hs]
  rw [ftsL, if_pos rfl, if_pos hb, Option.map_map]
  congr 1
  funext Y
  simp
theorem fts_bad {rs : List Nat} {X : List Ft} {k s : Nat} (hr : rs[k]? = some 37) (hs : rs[k + 1]? = some s) (hb : symB s = false) (h : ftsL rs = (ftsL (rs.drop k)).map (X ++ ·)) : ftsL rs = none := by
  rw [h, drop_rune hr, drop_rune hs]
  rw [ftsL, if_pos rfl, if_neg (by simp [hb])]
  rfl
theorem fts_half {rs : List Nat} {X : List Ft} {k : Nat} (hr : rs[k]? = some 37) (hl : rs.length ≤ k + 1) (h : ftsL rs = (ftsL (rs.drop k)).map (X ++ ·)) : ftsL rs = none := by
  rw [h, drop_rune hr, List.drop_of_length_le hl]
  simp [ftsL]
theorem info_fit : (Tryz.prog.info? 157).map (fun i => (i.zero, i.size, i.bytes)) = some (some (.agg #[.bool false, .int .i32 0]), 2, 8) := by kernel_rfl
theorem info_parts2 {t : TypeId} {z : Value} {s b : Nat} (h : (Tryz.prog.info? t).map (fun i => (i.zero, i.size, i.bytes)) = some (some z, s, b)) : ∃ i, Tryz.prog.info? t = some i ∧ i.zero = some z ∧ i.size = s ∧ i.bytes = b := by
  cases hq : Tryz.prog.info? t with
  | none => rw [hq] at h; cases h
  | some i => rw [hq] at h; simp only [Option.map_some, Option.some.injEq, Prod.mk.injEq] at h; exact ⟨i, rfl, h.1, h.2.1, h.2.2⟩
def cellsFs (X : List Ft) : List Value := X.flatMap fun x => [.bool x.c, .int .i32 (x.r : Int)]
theorem cellsFs_app (X : List Ft) (c : Bool) (r : Nat) : cellsFs (X ++ [⟨c, r⟩]) = cellsFs X ++ [.bool c, .int .i32 (r : Int)] := by unfold cellsFs; rw [List.flatMap_append]; rfl
/-- a row of items that the call owns -/
def OwnFs (B : Nat) (v : Value) (X : List Ft) (w : World) : Prop := w.ownsRow B 157 2 v X.length (cellsFs X)
theorem OwnFs.form {B : Nat} {v : Value} {X : List Ft} {w : World} (h : OwnFs B v X w) : ∃ ao cap, v = .slice ao X.length cap := by
  rcases h.2 with ⟨hv, h0⟩ | ⟨g, cap, cur, hv, _⟩
  · exact ⟨none, 0, by rw [hv, h0]⟩
  · exact ⟨_, _, hv⟩
theorem OwnFs.more {B : Nat} {v : Value} {X : List Ft} {c : Bool} {r : Nat} {w : World} (hr : w.ownsRow B 157 2 v (X.length + 1) (cellsFs X ++ [.bool c, .int .i32 (r : Int)])) : OwnFs B v (X ++ [⟨c, r⟩]) w := by
  unfold OwnFs
  rw [cellsFs_app, List.length_append, List.length_singleton]
  exact hr
theorem OwnFs.at {B : Nat} {v : Value} {X : List Ft} {w : World} (h : OwnFs B v X w) : FsAt w v X := by
  refine own_at h fun i j hi hj => ?_
  unfold cellsFs
  rw [flat_get _ 2 (fun _ => rfl) nilF X i j hi hj]
  match j, hj with
  | 0, _ => rfl
  | 1, _ => rfl
theorem fs_nil (w : World) : FsAt w (.slice none 0 0) [] := ⟨none, 0, rfl, by simp, by simp, fun h => absurd h (by simp)⟩
theorem one2f (a : Bool) (c : Int) : ∀ u ∈ ([.bool a, .int .i32 c] : List Value), u.oneCell' = true := by intro u hu; simp at hu; rcases hu with rfl | rfl <;> rfl
theorem cell_new2' {w : World} {n : Nat} (hs : w.heap.size = n) (a b : Value) (t : TypeId) : ∀ j u, [a, b][j]? = some u → (w.alloc (.cells #[a, b] t)).cell? ((⟨n, 0, none⟩ : Addr).add j) = some u := by
  subst hs
  exact cell_new2 _ _ _ _
def FtsEnd (s : ByteArray) (w : World) (e : Ending) (w' : World) : Prop := (∃ u, e = .returned (.tuple #[u, .bool (patOf s).isSome]) ∧ FsAt w' u (items s)) ∧ Below w.heap.size w w'
set_option maxHeartbeats 32000000 in
theorem sFits_any (s : ByteArray) (w : World) (hs : s.size ≤ 100000) : Calls Tryz.prog 54 #[.string s] w fun e w' => FtsEnd s w e w' := by
  obtain ⟨i0, hi0, hz0, hz1, hz2⟩ := info_parts2 info_fit
  have af := Tryz.isAgg157
  have zf := Tryz.sizeOf157
  obtain ⟨capR, W1, cur, hcv, hb1, hbl1, hcur, hcap⟩ := toRunes2 s w hs
  have hrl : (runesOf s).length ≤ s.size := runesG_length _ _
  have HCU := Lib.hid hcur
  have HB1 := Lib.hid hb1
  have HBL := Lib.hid hbl1
  have hrs : (runesOf s).length ≤ 100000 := by omega
  have HP := Lib.hid (show patOf s = ftsL (runesOf s) from rfl)
  have HI := Lib.hid (show items s = (ftsL (runesOf s)).getD [] from rfl)
  clear hcur hbl1 hrl hb1
  generalize hrn : runesOf s = rs at *
  clear hrn
  go_enter Tryz.func54, Tryz.ntmps54
  go_wp2
  go_loopw [5, 6] (fun o i wr => ∃ (k : Nat) (X : List Ft), k ≤ rs.length ∧ i = .int .i64 k ∧ X.length ≤ k ∧ Hid (ftsL rs = (ftsL (rs.drop k)).map (X ++ ·)) ∧ Hid (OwnFs w.heap.size o X wr) ∧ Hid (wr.heap[w.heap.size]? = some (.cells cur 21 (0, 0))) ∧ Hid (Below w.heap.size w wr)) (fun _ i _ => rs.length - (RowKit.intOf i).toNat)
  case atStart => exact ⟨0, [], Nat.zero_le _, rfl, Nat.le_refl _, show ftsL rs = _ by simp, show OwnFs _ _ _ _ from World.ownsRow_nil _ _ _ _, HBL.out, HB1.out⟩
  case round =>
    obtain ⟨k, X, hk, rfl, hXk, HF, HO, HR, HB⟩ := hrel
    have hszw := HB.out.size
    have hbk := lt_of_block HR.out
    by_cases hlt : k < rs.length
    · have hr : rs[k]? = some rs[k] := List.getElem?_eq_getElem hlt
      have ck := (Lib.cell_of_heap HR.out k).trans (HCU.out k _ hr)
      have HRR := Lib.hid hr
      have hki : (k : Int) < (rs.length : Int) := by omega
      have hk0 : (0 : Int) ≤ (k : Int) := by omega
      generalize rs[k] = r at hr ck HRR
      clear hr
      obtain ⟨ao, ca, hfo⟩ := HO.out.form
      subst hfo
      have hown2 := HO.out
      unfold OwnFs at hown2
      have HK2 := Lib.hid hown2
      have q1 := Lib.hid (show X.length + 1 ≤ maxLen by unfold maxLen; omega)
      have q2 := Lib.hid (show (X.length + 1) * 8 ≤ 140737488355328 by omega)
      clear hown2 HO
      by_cases h37 : r = 37
      · subst h37
        by_cases hl2 : k + 1 < rs.length
        · have hr2 : rs[k + 1]? = some rs[k + 1] := List.getElem?_eq_getElem hl2
          have ck2 := (Lib.cell_of_heap HR.out (k + 1)).trans (HCU.out (k + 1) _ hr2)
          have HR2 := Lib.hid hr2
          have hk2 : ((k + 1 : Nat) : Int) < (rs.length : Int) := by omega
          have hk20 : (0 : Int) ≤ ((k + 1 : Nat) : Int) := by omega
          have hkn : ¬ ((k + 1 : Nat) : Int) = (rs.length : Int) := by omega
          have hq : IntKind.i64.wrap ((k : Int) + 1) = ((k + 1 : Nat) : Int) := by rw [IntKind.wrap_i64]; omega
          have hq2 : IntKind.i64.wrap (((k + 1 : Nat) : Int) + 1) = ((k + 2 : Nat) : Int) := by rw [IntKind.wrap_i64]; omega
          generalize hk1 : k + 1 = k1 at *
          generalize rs[k1] = s1 at hr2 ck2 HR2
          clear hr2
          by_cases hs1 : symB s1 = true
          · have HF2 := Lib.hid (fts_pc HRR.out (hk1 ▸ HR2.out) hs1 HF.out)
            unfold symB at hs1
            simp only [Bool.or_eq_true, decide_eq_true_eq] at hs1
            have hs2 : s1 = 97 ∨ s1 = 117 ∨ s1 = 108 ∨ s1 = 100 ∨ s1 = 115 ∨ s1 = 112 ∨ s1 = 104 ∨ s1 = 46 ∨ s1 = 37 ∨ s1 = 98 := by omega
            clear hs1
            rcases hs2 with rfl | rfl | rfl | rfl | rfl | rfl | rfl | rfl | rfl | rfl
            · go_wp2_with (first
                | (at_builtin; refine wpList_append_own _ rfl _ _ 102 rfl w.heap.size 157 i0 _ 2 8 Tryz.underlying102 hi0 hz0 hz1 hz2 rfl (by decide) _ _ _ rfl ((HK2.out.alloc _).alloc _) ⟨wr.heap.size + 1, 0, none⟩ 1 1 [.bool true, .int .i32 97] rfl rfl (cell_new2' (by simp) _ _ _) (one2f _ _) q1.out q2.out (by simp; omega) ?_; intro v3 w3 hown3 hgrow3 hnil3
                   have HR6 := Lib.hid (show w3.heap[w.heap.size]? = some (.cells cur 21 (0, 0)) by
                     have d3 := (Below.heap_alloc wr (.cells #[.bool true, .int .i32 97] 157) _ (lt_of_block HR.out)).trans HR.out
                     have d4 := (Below.heap_alloc (wr.alloc (.cells #[.bool true, .int .i32 97] 157)) (.cells #[.bool true, .int .i32 97] 157) _ (lt_of_block d3)).trans d3
                     rw [hgrow3.block w.heap.size (lt_of_block d4) (fun e => own_cells ((HK2.out.alloc _).alloc _) d4 (by decide) e.symm)]
                     exact d4)
                   have HB3 := Lib.hid (((HB.out.alloc hszw _).alloc (by simp; omega) _).grown hgrow3 (by simp; omega) (fun k hk => (HK2.out.lt k hk).1))
                   have HK3 := Lib.hid (OwnFs.more (r := 97) hown3)
                   clear hown3 hgrow3 hnil3))
              go_roundw
              case rel => exact ⟨k + 2, X ++ [(⟨true, 97⟩ : Ft)], by omega, by go_num, by simp; omega, HF2.out, HK3.out, HR6.out, HB3.out⟩
              case measure => simp [RowKit.intOf]; omega
            · go_wp2_with (first
                | (at_builtin; refine wpList_append_own _ rfl _ _ 102 rfl w.heap.size 157 i0 _ 2 8 Tryz.underlying102 hi0 hz0 hz1 hz2 rfl (by decide) _ _ _ rfl ((HK2.out.alloc _).alloc _) ⟨wr.heap.size + 1, 0, none⟩ 1 1 [.bool true, .int .i32 117] rfl rfl (cell_new2' (by simp) _ _ _) (one2f _ _) q1.out q2.out (by simp; omega) ?_; intro v3 w3 hown3 hgrow3 hnil3
                   have HR6 := Lib.hid (show w3.heap[w.heap.size]? = some (.cells cur 21 (0, 0)) by
                     have d3 := (Below.heap_alloc wr (.cells #[.bool true, .int .i32 117] 157) _ (lt_of_block HR.out)).trans HR.out
                     have d4 := (Below.heap_alloc (wr.alloc (.cells #[.bool true, .int .i32 117] 157)) (.cells #[.bool true, .int .i32 117] 157) _ (lt_of_block d3)).trans d3
                     rw [hgrow3.block w.heap.size (lt_of_block d4) (fun e => own_cells ((HK2.out.alloc _).alloc _) d4 (by decide) e.symm)]
                     exact d4)
                   have HB3 := Lib.hid (((HB.out.alloc hszw _).alloc (by simp; omega) _).grown hgrow3 (by simp; omega) (fun k hk => (HK2.out.lt k hk).1))
                   have HK3 := Lib.hid (OwnFs.more (r := 117) hown3)
                   clear hown3 hgrow3 hnil3))
              go_roundw
              case rel => exact ⟨k + 2, X ++ [(⟨true, 117⟩ : Ft)], by omega, by go_num, by simp; omega, HF2.out, HK3.out, HR6.out, HB3.out⟩
              case measure => simp [RowKit.intOf]; omega
            · go_wp2_with (first
                | (at_builtin; refine wpList_append_own _ rfl _ _ 102 rfl w.heap.size 157 i0 _ 2 8 Tryz.underlying102 hi0 hz0 hz1 hz2 rfl (by decide) _ _ _ rfl ((HK2.out.alloc _).alloc _) ⟨wr.heap.size + 1, 0, none⟩ 1 1 [.bool true, .int .i32 108] rfl rfl (cell_new2' (by simp) _ _ _) (one2f _ _) q1.out q2.out (by simp; omega) ?_; intro v3 w3 hown3 hgrow3 hnil3
                   have HR6 := Lib.hid (show w3.heap[w.heap.size]? = some (.cells cur 21 (0, 0)) by
                     have d3 := (Below.heap_alloc wr (.cells #[.bool true, .int .i32 108] 157) _ (lt_of_block HR.out)).trans HR.out
                     have d4 := (Below.heap_alloc (wr.alloc (.cells #[.bool true, .int .i32 108] 157)) (.cells #[.bool true, .int .i32 108] 157) _ (lt_of_block d3)).trans d3
                     rw [hgrow3.block w.heap.size (lt_of_block d4) (fun e => own_cells ((HK2.out.alloc _).alloc _) d4 (by decide) e.symm)]
                     exact d4)
                   have HB3 := Lib.hid (((HB.out.alloc hszw _).alloc (by simp; omega) _).grown hgrow3 (by simp; omega) (fun k hk => (HK2.out.lt k hk).1))
                   have HK3 := Lib.hid (OwnFs.more (r := 108) hown3)
                   clear hown3 hgrow3 hnil3))
              go_roundw
              case rel => exact ⟨k + 2, X ++ [(⟨true, 108⟩ : Ft)], by omega, by go_num, by simp; omega, HF2.out, HK3.out, HR6.out, HB3.out⟩
              case measure => simp [RowKit.intOf]; omega
            · go_wp2_with (first
                | (at_builtin; refine wpList_append_own _ rfl _ _ 102 rfl w.heap.size 157 i0 _ 2 8 Tryz.underlying102 hi0 hz0 hz1 hz2 rfl (by decide) _ _ _ rfl ((HK2.out.alloc _).alloc _) ⟨wr.heap.size + 1, 0, none⟩ 1 1 [.bool true, .int .i32 100] rfl rfl (cell_new2' (by simp) _ _ _) (one2f _ _) q1.out q2.out (by simp; omega) ?_; intro v3 w3 hown3 hgrow3 hnil3
                   have HR6 := Lib.hid (show w3.heap[w.heap.size]? = some (.cells cur 21 (0, 0)) by
                     have d3 := (Below.heap_alloc wr (.cells #[.bool true, .int .i32 100] 157) _ (lt_of_block HR.out)).trans HR.out
                     have d4 := (Below.heap_alloc (wr.alloc (.cells #[.bool true, .int .i32 100] 157)) (.cells #[.bool true, .int .i32 100] 157) _ (lt_of_block d3)).trans d3
                     rw [hgrow3.block w.heap.size (lt_of_block d4) (fun e => own_cells ((HK2.out.alloc _).alloc _) d4 (by decide) e.symm)]
                     exact d4)
                   have HB3 := Lib.hid (((HB.out.alloc hszw _).alloc (by simp; omega) _).grown hgrow3 (by simp; omega) (fun k hk => (HK2.out.lt k hk).1))
                   have HK3 := Lib.hid (OwnFs.more (r := 100) hown3)
                   clear hown3 hgrow3 hnil3))
              go_roundw
              case rel => exact ⟨k + 2, X ++ [(⟨true, 100⟩ : Ft)], by omega, by go_num, by simp; omega, HF2.out, HK3.out, HR6.out, HB3.out⟩
              case measure => simp [RowKit.intOf]; omega
            · go_wp2_with (first
                | (at_builtin; refine wpList_append_own _ rfl _ _ 102 rfl w.heap.size 157 i0 _ 2 8 Tryz.underlying102 hi0 hz0 hz1 hz2 rfl (by decide) _ _ _ rfl ((HK2.out.alloc _).alloc _) ⟨wr.heap.size + 1, 0, none⟩ 1 1 [.bool true, .int .i32 115] rfl rfl (cell_new2' (by simp) _ _ _) (one2f _ _) q1.out q2.out (by simp; omega) ?_; intro v3 w3 hown3 hgrow3 hnil3
                   have HR6 := Lib.hid (show w3.heap[w.heap.size]? = some (.cells cur 21 (0, 0)) by
                     have d3 := (Below.heap_alloc wr (.cells #[.bool true, .int .i32 115] 157) _ (lt_of_block HR.out)).trans HR.out
                     have d4 := (Below.heap_alloc (wr.alloc (.cells #[.bool true, .int .i32 115] 157)) (.cells #[.bool true, .int .i32 115] 157) _ (lt_of_block d3)).trans d3
                     rw [hgrow3.block w.heap.size (lt_of_block d4) (fun e => own_cells ((HK2.out.alloc _).alloc _) d4 (by decide) e.symm)]
                     exact d4)
                   have HB3 := Lib.hid (((HB.out.alloc hszw _).alloc (by simp; omega) _).grown hgrow3 (by simp; omega) (fun k hk => (HK2.out.lt k hk).1))
                   have HK3 := Lib.hid (OwnFs.more (r := 115) hown3)
                   clear hown3 hgrow3 hnil3))
              go_roundw
              case rel => exact ⟨k + 2, X ++ [(⟨true, 115⟩ : Ft)], by omega, by go_num, by simp; omega, HF2.out, HK3.out, HR6.out, HB3.out⟩
              case measure => simp [RowKit.intOf]; omega
            · go_wp2_with (first
                | (at_builtin; refine wpList_append_own _ rfl _ _ 102 rfl w.heap.size 157 i0 _ 2 8 Tryz.underlying102 hi0 hz0 hz1 hz2 rfl (by decide) _ _ _ rfl ((HK2.out.alloc _).alloc _) ⟨wr.heap.size + 1, 0, none⟩ 1 1 [.bool true, .int .i32 112] rfl rfl (cell_new2' (by simp) _ _ _) (one2f _ _) q1.out q2.out (by simp; omega) ?_; intro v3 w3 hown3 hgrow3 hnil3
                   have HR6 := Lib.hid (show w3.heap[w.heap.size]? = some (.cells cur 21 (0, 0)) by
                     have d3 := (Below.heap_alloc wr (.cells #[.bool true, .int .i32 112] 157) _ (lt_of_block HR.out)).trans HR.out
                     have d4 := (Below.heap_alloc (wr.alloc (.cells #[.bool true, .int .i32 112] 157)) (.cells #[.bool true, .int .i32 112] 157) _ (lt_of_block d3)).trans d3
                     rw [hgrow3.block w.heap.size (lt_of_block d4) (fun e => own_cells ((HK2.out.alloc _).alloc _) d4 (by decide) e.symm)]
                     exact d4)
                   have HB3 := Lib.hid (((HB.out.alloc hszw _).alloc (by simp; omega) _).grown hgrow3 (by simp; omega) (fun k hk => (HK2.out.lt k hk).1))
                   have HK3 := Lib.hid (OwnFs.more (r := 112) hown3)
                   clear hown3 hgrow3 hnil3))
              go_roundw
              case rel => exact ⟨k + 2, X ++ [(⟨true, 112⟩ : Ft)], by omega, by go_num, by simp; omega, HF2.out, HK3.out, HR6.out, HB3.out⟩
              case measure => simp [RowKit.intOf]; omega
            · go_wp2_with (first
                | (at_builtin; refine wpList_append_own _ rfl _ _ 102 rfl w.heap.size 157 i0 _ 2 8 Tryz.underlying102 hi0 hz0 hz1 hz2 rfl (by decide) _ _ _ rfl ((HK2.out.alloc _).alloc _) ⟨wr.heap.size + 1, 0, none⟩ 1 1 [.bool true, .int .i32 104] rfl rfl (cell_new2' (by simp) _ _ _) (one2f _ _) q1.out q2.out (by simp; omega) ?_; intro v3 w3 hown3 hgrow3 hnil3
                   have HR6 := Lib.hid (show w3.heap[w.heap.size]? = some (.cells cur 21 (0, 0)) by
                     have d3 := (Below.heap_alloc wr (.cells #[.bool true, .int .i32 104] 157) _ (lt_of_block HR.out)).trans HR.out
                     have d4 := (Below.heap_alloc (wr.alloc (.cells #[.bool true, .int .i32 104] 157)) (.cells #[.bool true, .int .i32 104] 157) _ (lt_of_block d3)).trans d3
                     rw [hgrow3.block w.heap.size (lt_of_block d4) (fun e => own_cells ((HK2.out.alloc _).alloc _) d4 (by decide) e.symm)]
                     exact d4)
                   have HB3 := Lib.hid (((HB.out.alloc hszw _).alloc (by simp; omega) _).grown hgrow3 (by simp; omega) (fun k hk => (HK2.out.lt k hk).1))
                   have HK3 := Lib.hid (OwnFs.more (r := 104) hown3)
                   clear hown3 hgrow3 hnil3))
              go_roundw
              case rel => exact ⟨k + 2, X ++ [(⟨true, 104⟩ : Ft)], by omega, by go_num, by simp; omega, HF2.out, HK3.out, HR6.out, HB3.out⟩
              case measure => simp [RowKit.intOf]; omega
            · go_wp2_with (first
                | (at_builtin; refine wpList_append_own _ rfl _ _ 102 rfl w.heap.size 157 i0 _ 2 8 Tryz.underlying102 hi0 hz0 hz1 hz2 rfl (by decide) _ _ _ rfl ((HK2.out.alloc _).alloc _) ⟨wr.heap.size + 1, 0, none⟩ 1 1 [.bool true, .int .i32 46] rfl rfl (cell_new2' (by simp) _ _ _) (one2f _ _) q1.out q2.out (by simp; omega) ?_; intro v3 w3 hown3 hgrow3 hnil3
                   have HR6 := Lib.hid (show w3.heap[w.heap.size]? = some (.cells cur 21 (0, 0)) by
                     have d3 := (Below.heap_alloc wr (.cells #[.bool true, .int .i32 46] 157) _ (lt_of_block HR.out)).trans HR.out
                     have d4 := (Below.heap_alloc (wr.alloc (.cells #[.bool true, .int .i32 46] 157)) (.cells #[.bool true, .int .i32 46] 157) _ (lt_of_block d3)).trans d3
                     rw [hgrow3.block w.heap.size (lt_of_block d4) (fun e => own_cells ((HK2.out.alloc _).alloc _) d4 (by decide) e.symm)]
                     exact d4)
                   have HB3 := Lib.hid (((HB.out.alloc hszw _).alloc (by simp; omega) _).grown hgrow3 (by simp; omega) (fun k hk => (HK2.out.lt k hk).1))
                   have HK3 := Lib.hid (OwnFs.more (r := 46) hown3)
                   clear hown3 hgrow3 hnil3))
              go_roundw
              case rel => exact ⟨k + 2, X ++ [(⟨true, 46⟩ : Ft)], by omega, by go_num, by simp; omega, HF2.out, HK3.out, HR6.out, HB3.out⟩
              case measure => simp [RowKit.intOf]; omega
            · go_wp2_with (first
                | (at_builtin; refine wpList_append_own _ rfl _ _ 102 rfl w.heap.size 157 i0 _ 2 8 Tryz.underlying102 hi0 hz0 hz1 hz2 rfl (by decide) _ _ _ rfl ((HK2.out.alloc _).alloc _) ⟨wr.heap.size + 1, 0, none⟩ 1 1 [.bool true, .int .i32 37] rfl rfl (cell_new2' (by simp) _ _ _) (one2f _ _) q1.out q2.out (by simp; omega) ?_; intro v3 w3 hown3 hgrow3 hnil3
                   have HR6 := Lib.hid (show w3.heap[w.heap.size]? = some (.cells cur 21 (0, 0)) by
                     have d3 := (Below.heap_alloc wr (.cells #[.bool true, .int .i32 37] 157) _ (lt_of_block HR.out)).trans HR.out
                     have d4 := (Below.heap_alloc (wr.alloc (.cells #[.bool true, .int .i32 37] 157)) (.cells #[.bool true, .int .i32 37] 157) _ (lt_of_block d3)).trans d3
                     rw [hgrow3.block w.heap.size (lt_of_block d4) (fun e => own_cells ((HK2.out.alloc _).alloc _) d4 (by decide) e.symm)]
                     exact d4)
                   have HB3 := Lib.hid (((HB.out.alloc hszw _).alloc (by simp; omega) _).grown hgrow3 (by simp; omega) (fun k hk => (HK2.out.lt k hk).1))
                   have HK3 := Lib.hid (OwnFs.more (r := 37) hown3)
                   clear hown3 hgrow3 hnil3))
              go_roundw
              case rel => exact ⟨k + 2, X ++ [(⟨true, 37⟩ : Ft)], by omega, by go_num, by simp; omega, HF2.out, HK3.out, HR6.out, HB3.out⟩
              case measure => simp [RowKit.intOf]; omega
            · go_wp2_with (first
                | (at_builtin; refine wpList_append_own _ rfl _ _ 102 rfl w.heap.size 157 i0 _ 2 8 Tryz.underlying102 hi0 hz0 hz1 hz2 rfl (by decide) _ _ _ rfl ((HK2.out.alloc _).alloc _) ⟨wr.heap.size + 1, 0, none⟩ 1 1 [.bool true, .int .i32 98] rfl rfl (cell_new2' (by simp) _ _ _) (one2f _ _) q1.out q2.out (by simp; omega) ?_; intro v3 w3 hown3 hgrow3 hnil3
                   have HR6 := Lib.hid (show w3.heap[w.heap.size]? = some (.cells cur 21 (0, 0)) by
                     have d3 := (Below.heap_alloc wr (.cells #[.bool true, .int .i32 98] 157) _ (lt_of_block HR.out)).trans HR.out
                     have d4 := (Below.heap_alloc (wr.alloc (.cells #[.bool true, .int .i32 98] 157)) (.cells #[.bool true, .int .i32 98] 157) _ (lt_of_block d3)).trans d3
                     rw [hgrow3.block w.heap.size (lt_of_block d4) (fun e => own_cells ((HK2.out.alloc _).alloc _) d4 (by decide) e.symm)]
                     exact d4)
                   have HB3 := Lib.hid (((HB.out.alloc hszw _).alloc (by simp; omega) _).grown hgrow3 (by simp; omega) (fun k hk => (HK2.out.lt k hk).1))
                   have HK3 := Lib.hid (OwnFs.more (r := 98) hown3)
                   clear hown3 hgrow3 hnil3))
              go_roundw
              case rel => exact ⟨k + 2, X ++ [(⟨true, 98⟩ : Ft)], by omega, by go_num, by simp; omega, HF2.out, HK3.out, HR6.out, HB3.out⟩
              case measure => simp [RowKit.intOf]; omega
          · have hs1' : symB s1 = false := by simpa using hs1
            have HN := Lib.hid (fts_bad HRR.out (hk1 ▸ HR2.out) hs1' HF.out)
            unfold symB at hs1'
            simp only [Bool.or_eq_false_iff, decide_eq_false_iff_not] at hs1'
            have n1 : ¬ (s1 : Int) = 97 := by omega
            have n2 : ¬ (s1 : Int) = 117 := by omega
            have n3 : ¬ (s1 : Int) = 108 := by omega
            have n4 : ¬ (s1 : Int) = 100 := by omega
            have n5 : ¬ (s1 : Int) = 115 := by omega
            have n6 : ¬ (s1 : Int) = 112 := by omega
            have n7 : ¬ (s1 : Int) = 104 := by omega
            have n8 : ¬ (s1 : Int) = 46 := by omega
            have n9 : ¬ (s1 : Int) = 37 := by omega
            have n10 : ¬ (s1 : Int) = 98 := by omega
            clear hs1 hs1'
            go_wp2
            go_ret2
            exact ⟨⟨_, by rw [HP.out, HN.out]; rfl, by rw [HI.out, HN.out]; exact fs_nil _⟩, HB.out.alloc hszw _⟩
        · have hq : IntKind.i64.wrap ((k : Int) + 1) = (rs.length : Int) := by rw [IntKind.wrap_i64]; omega
          have HN := Lib.hid (fts_half HRR.out (by omega) HF.out)
          go_wp2
          go_ret2
          exact ⟨⟨_, by rw [HP.out, HN.out]; rfl, by rw [HI.out, HN.out]; exact fs_nil _⟩, HB.out.alloc hszw _⟩
      · have h37I : ¬ (r : Int) = 37 := by omega
        have HF2 := Lib.hid (fts_lit HRR.out h37 HF.out)
        have hX2 : (X ++ [(⟨false, r⟩ : Ft)]).length ≤ k + 1 := by rw [List.length_append, List.length_singleton]; omega
        have HX2 := Lib.hid hX2
        clear hX2
        go_wp2_with (first
          | (at_builtin; refine wpList_append_own _ rfl _ _ 102 rfl w.heap.size 157 i0 _ 2 8 Tryz.underlying102 hi0 hz0 hz1 hz2 rfl (by decide) _ _ _ rfl ((HK2.out.alloc _).alloc _) ⟨wr.heap.size + 1, 0, none⟩ 1 1 [.bool false, .int .i32 (r : Int)] rfl rfl (cell_new2' (by simp) _ _ _) (one2f _ _) q1.out q2.out (by simp; omega) ?_; intro v3 w3 hown3 hgrow3 hnil3
             have HR6 := Lib.hid (show w3.heap[w.heap.size]? = some (.cells cur 21 (0, 0)) by
               have d3 := (Below.heap_alloc wr (.cells #[.bool false, .int .i32 (r : Int)] 157) _ (lt_of_block HR.out)).trans HR.out
               have d4 := (Below.heap_alloc (wr.alloc (.cells #[.bool false, .int .i32 (r : Int)] 157)) (.cells #[.bool false, .int .i32 (r : Int)] 157) _ (lt_of_block d3)).trans d3
               rw [hgrow3.block w.heap.size (lt_of_block d4) (fun e => own_cells ((HK2.out.alloc _).alloc _) d4 (by decide) e.symm)]
               exact d4)
             have HB3 := Lib.hid (((HB.out.alloc hszw _).alloc (by simp; omega) _).grown hgrow3 (by simp; omega) (fun k hk => (HK2.out.lt k hk).1))
             have HK3 := Lib.hid (OwnFs.more hown3)
             clear hown3 hgrow3 hnil3))
        go_roundw
        case rel => exact ⟨k + 1, X ++ [(⟨false, r⟩ : Ft)], by omega, by go_num, HX2.out, HF2.out, HK3.out, HR6.out, HB3.out⟩
        case measure => simp [RowKit.intOf]; omega
    · have hki : ¬ (k : Int) < (rs.length : Int) := by omega
      have HE := Lib.hid (fts_end (by omega) HF.out)
      have HA := Lib.hid HO.out.at
      obtain ⟨ao, ca, hfo⟩ := HO.out.form
      subst hfo
      go_wp2
      go_ret2
      exact ⟨⟨_, by rw [HP.out, HE.out]; rfl, by rw [HI.out, HE.out]; exact HA.out⟩, HB.out⟩
end Go.Proofs.YtnkpjkomokkhcaaGreatDoor
namespace Go.Proofs.YtnkpjkomokkhcaaGreatDoor
open Go Go.RowKit Go.Lib
set_option maxRecDepth 100000
theorem below_drawn (w : World) (n : Nat) : Below w.heap.size w (w.drewN n) := ⟨rfl, rfl, rfl, Nat.le_refl _, fun _ _ => rfl⟩
end Go.Proofs.YtnkpjkomokkhcaaGreatDoor
namespace Go.Proofs.YtnkpjkomokkhcaaGreatDoor
open Go Go.RowKit Go.Lib
set_option maxRecDepth 100000
theorem pat_none {s : ByteArray} (h : patOf s = none) : patE s = 4 := by
  unfold patE
  split
  · rfl
  · rw [h]
theorem pat_untext {s : ByteArray} (h : textB s = false) : patE s = 4 := by unfold patE; rw [if_pos h]
theorem pat_long {s : ByteArray} {X : List Ft} (ht : textB s = true) (h : patOf s = some X) (hl : 32 < X.length) : patE s = 3 := by
  unfold patE
  rw [if_neg (by simp [ht]), h]
  dsimp only
  rw [if_pos hl]
theorem pat_fine {s : ByteArray} {X : List Ft} (ht : textB s = true) (h : patOf s = some X) (hl : ¬ 32 < X.length) : patE s = 0 := by
  unfold patE
  rw [if_neg (by simp [ht]), h]
  dsimp only
  rw [if_neg hl]
theorem items_some {s : ByteArray} {X : List Ft} (h : patOf s = some X) : items s = X := by unfold items; rw [h]; rfl
def two (b a : ByteArray) (j : Nat) : ByteArray := if j = 0 then b else a
theorem two_cell {w : World} {g t : Nat} {b a : ByteArray} (h : w.heap[g]? = some (.cells #[.string b, .string a] t (0, 0))) {j : Nat} (hj : j < 2) : w.cell? ⟨g, j, none⟩ = some (.string (two b a j)) := by
  obtain rfl | rfl : j = 0 ∨ j = 1 := by omega
  · exact (Lib.cell_of_heap h 0).trans rfl
  · exact (Lib.cell_of_heap h 1).trans rfl
theorem two_err {b a : ByteArray} {k : Bool} {j : Nat} (hj : j < 2) (h : ∀ i, i < j → patE (two b a i) = 0) (he : patE (two b a j) ≠ 0) : rlE ⟨b, a, k⟩ = patE (two b a j) := by
  obtain rfl | rfl : j = 0 ∨ j = 1 := by omega
  · have he' : patE b ≠ 0 := he
    unfold rlE; dsimp only; rw [if_pos he']; rfl
  · have h0 : patE b = 0 := h 0 (by omega)
    unfold rlE; dsimp only; rw [if_neg (by simp [h0])]; rfl
theorem two_fine {b a : ByteArray} {k : Bool} (h : ∀ i, i < 2 → patE (two b a i) = 0) : rlE ⟨b, a, k⟩ = 0 := by
  have h0 : patE b = 0 := h 0 (by omega)
  have h1 : patE a = 0 := h 1 (by omega)
  unfold rlE; dsimp only; rw [if_neg (by simp [h0])]; exact h1
set_option maxHeartbeats 32000000 in
theorem sCheckBreaks_any (R : List Rl) (v : Value) (w : World) (hv : RulesAt w v R) (hz : SzR R) : Calls Tryz.prog 20 #[v] w fun e w' => e = .returned (.int .u8 (rlsE R)) ∧ Below w.heap.size w w' := by
  have ar := Tryz.isAgg47
  have zr := Tryz.sizeOf47
  have HV := Lib.hid hv
  obtain ⟨p, cap, rfl, hl, hc, hrow⟩ := hv
  clear hrow
  unfold maxLen at hc
  by_cases hE : 64 < R.length
  · have hEI : (64 : Int) < (R.length : Int) := by omega
    have HE := Lib.hid (show rlsE R = 3 by unfold rlsE; rw [if_pos hE])
    go_enter Tryz.func20, Tryz.ntmps20
    go_wp2
    go_ret
    exact ⟨by rw [HE.out]; rfl, Below.refl _ _⟩
  · have hEI : ¬ (64 : Int) < (R.length : Int) := by omega
    have hE64 : R.length ≤ 64 := by omega
    have HZ := Lib.hid (hz hE64)
    clear hz
    go_enter Tryz.func20, Tryz.ntmps20
    go_wp2
    go_loopw [3] (fun i wr => ∃ k : Nat, i = .int .i64 k ∧ k ≤ R.length ∧ Hid (rlsTo R k = 0) ∧ Hid (Below w.heap.size w wr)) (fun i _ => R.length - (RowKit.intOf i).toNat)
    case atStart => exact ⟨0, rfl, Nat.zero_le _, rfl, Below.refl _ _⟩
    case round =>
      obtain ⟨k, rfl, hk, HS, HB⟩ := hrel
      by_cases hlt : k < R.length
      · have hki : (k : Int) < (R.length : Int) := by omega
        have hk0 : (0 : Int) ≤ (k : Int) := by omega
        obtain ⟨A, rfl, x0, x1, x2⟩ := (HV.out.step HB.out).get hlt
        have hsz := HZ.out (R.getD k nilR) (by rw [List.getD_eq_getElem?_getD, List.getElem?_eq_getElem hlt]; exact List.getElem_mem hlt)
        have HRN := Lib.hid (rls_next HS.out)
        have HRE := Lib.hid (rls_err hE64 hlt HS.out)
        generalize R.getD k nilR = x at *
        obtain ⟨xb, xa, xk⟩ := x
        dsimp only at x0 x1 x2 hsz
        have HSZ := Lib.hid (show ∀ j, (two xb xa j).size ≤ 100000 from fun j => by unfold two; split; exact hsz.1; exact hsz.2)
        obtain ⟨wo, hwo⟩ : ∃ wo, wo = wr := ⟨_, rfl⟩
        subst hwo
        clear HS
        go_wp2
        have hA : A.block < wo.heap.size := by have := World.block_lt_of_cell? wo _ x0; rwa [add_block] at this
        have hAk : (A.add (k * 3)).block < wo.heap.size := by rw [add_block]; exact hA
        have y0 := ((below_box (w := wo) (.cells #[.string ⟨#[]⟩, .string ⟨#[]⟩] 101)).cell (p := A.add (k * 3)) hAk).trans x0
        have y1 := ((below_box (w := wo) (.cells #[.string ⟨#[]⟩, .string ⟨#[]⟩] 101)).cell (p := { block := (A.add (k * 3)).block, off := (A.add (k * 3)).off + 1 }) hAk).trans x1
        go_region
        have HBA := Lib.hid (below_next HB.out (below_box (w := wo) (.cells #[.string xb, .string xa] 101)).drew)
        have HAN := Lib.hid (show (wo.alloc (.cells #[.string xb, .string xa] 101)).drew.heap[wo.heap.size]? = some (.cells #[.string xb, .string xa] 101 (0, 0)) from heap_alloc_new wo _)
        go_wp2
        go_loopw [5] (fun i wr => ∃ j : Nat, i = .int .i64 j ∧ j ≤ 2 ∧ Hid (∀ i, i < j → patE (two xb xa i) = 0) ∧ Hid (wr.heap[wo.heap.size]? = some (.cells #[.string xb, .string xa] 101 (0, 0))) ∧ Hid (Below w.heap.size w wr)) (fun i _ => 2 - (RowKit.intOf i).toNat)
        case atStart => exact ⟨0, rfl, Nat.zero_le _, (fun i hi => absurd hi (Nat.not_lt_zero i)), HAN.out, HBA.out⟩
        case round =>
          clear HB HBA HAN
          obtain ⟨j, rfl, hj, HP, HA, HB⟩ := hrel
          by_cases hj2 : j < 2
          · have hji : (j : Int) < 2 := by omega
            have hj0 : (0 : Int) ≤ (j : Int) := by omega
            have y0 := two_cell HA.out hj2
            have hss := HSZ.out j
            have HEJ := Lib.hid (fun h => (HRE.out (by rw [two_err (k := xk) hj2 HP.out h]; exact h)).trans (two_err (k := xk) hj2 HP.out h))
            have HNX := Lib.hid (fun (h : patE (two xb xa j) = 0) (i : Nat) (hi : i < j + 1) => (show patE (two xb xa i) = 0 from if e : i = j then by rw [e]; exact h else HP.out i (by omega)))
            have cF := sFits_any (two xb xa j) wr hss
            unfold FtsEnd at cF
            have cT := fun w' => refText_any (two xb xa j) w' hss
            generalize two xb xa j = s at *
            cases hp : patOf s with
            | none =>
              have HE := Lib.hid (show rlsE R = 4 by rw [HEJ.out (by rw [pat_none hp]; decide), pat_none hp])
              rw [hp] at cF
              dsimp only [Option.isSome] at cF
              clear hp
              go_wp2_with (go_at_call 54; (with_reducible refine cF.mono ?_); rintro e w3 ⟨⟨u, rfl, hu⟩, hb3⟩; obtain ⟨pu, cu, rfl, hlu, hcu⟩ := hu.form; have y3 := (hb3.cell (p := ⟨wo.heap.size, j, none⟩) (lt_of_block HA.out)).trans y0; have HA3 := Lib.hid ((hb3.block _ (lt_of_block HA.out)).trans HA.out); have HB3 := Lib.hid (below_next HB.out hb3); clear hb3 hu)
              go_ret
              exact ⟨by rw [HE.out]; rfl, HB3.out⟩
            | some X =>
              rw [hp] at cF
              dsimp only [Option.isSome] at cF
              by_cases ht : textB s = true
              · rw [items_some hp] at cF
                rw [ht] at cT
                by_cases hl32 : 32 < X.length
                · have hlI : (32 : Int) < (X.length : Int) := by omega
                  have HE := Lib.hid (show rlsE R = 3 by rw [HEJ.out (by rw [pat_long ht hp hl32]; decide), pat_long ht hp hl32])
                  clear hp ht
                  go_wp2_with (first
                    | (go_at_call 54; (with_reducible refine cF.mono ?_); rintro e w3 ⟨⟨u, rfl, hu⟩, hb3⟩; obtain ⟨pu, cu, rfl, hlu, hcu⟩ := hu.form; have y3 := (hb3.cell (p := ⟨wo.heap.size, j, none⟩) (lt_of_block HA.out)).trans y0; have HA3 := Lib.hid ((hb3.block _ (lt_of_block HA.out)).trans HA.out); have HB3 := Lib.hid (below_next HB.out hb3); clear hb3 hu)
                    | (go_at_call 55; (with_reducible refine (cT _).mono ?_); rintro e w4 ⟨rfl, hb4⟩; have HA4 := Lib.hid ((hb4.block _ (lt_of_block HA3.out)).trans HA3.out); have HB4 := Lib.hid (below_next HB3.out hb4); clear hb4))
                  go_ret
                  exact ⟨by rw [HE.out]; rfl, HB4.out⟩
                · have hlI : ¬ (32 : Int) < (X.length : Int) := by omega
                  have HN2 := Lib.hid (HNX.out (pat_fine ht hp hl32))
                  clear hp ht
                  go_wp2_with (first
                    | (go_at_call 54; (with_reducible refine cF.mono ?_); rintro e w3 ⟨⟨u, rfl, hu⟩, hb3⟩; obtain ⟨pu, cu, rfl, hlu, hcu⟩ := hu.form; have y3 := (hb3.cell (p := ⟨wo.heap.size, j, none⟩) (lt_of_block HA.out)).trans y0; have HA3 := Lib.hid ((hb3.block _ (lt_of_block HA.out)).trans HA.out); have HB3 := Lib.hid (below_next HB.out hb3); clear hb3 hu)
                    | (go_at_call 55; (with_reducible refine (cT _).mono ?_); rintro e w4 ⟨rfl, hb4⟩; have HA4 := Lib.hid ((hb4.block _ (lt_of_block HA3.out)).trans HA3.out); have HB4 := Lib.hid (below_next HB3.out hb4); clear hb4))
                  go_roundw
                  case rel => exact ⟨j + 1, by go_num, by omega, HN2.out, HA4.out, HB4.out⟩
                  case measure => simp [RowKit.intOf]; omega
              · have ht' : textB s = false := by simpa using ht
                have HE := Lib.hid (show rlsE R = 4 by rw [HEJ.out (by rw [pat_untext ht']; decide), pat_untext ht'])
                rw [ht'] at cT
                clear hp ht ht'
                go_wp2_with (first
                  | (go_at_call 54; (with_reducible refine cF.mono ?_); rintro e w3 ⟨⟨u, rfl, hu⟩, hb3⟩; obtain ⟨pu, cu, rfl, hlu, hcu⟩ := hu.form; have y3 := (hb3.cell (p := ⟨wo.heap.size, j, none⟩) (lt_of_block HA.out)).trans y0; have HA3 := Lib.hid ((hb3.block _ (lt_of_block HA.out)).trans HA.out); have HB3 := Lib.hid (below_next HB.out hb3); clear hb3 hu)
                  | (go_at_call 55; (with_reducible refine (cT _).mono ?_); rintro e w4 ⟨rfl, hb4⟩; have HA4 := Lib.hid ((hb4.block _ (lt_of_block HA3.out)).trans HA3.out); have HB4 := Lib.hid (below_next HB3.out hb4); clear hb4))
                go_ret
                exact ⟨by rw [HE.out]; rfl, HB4.out⟩
          · have hji : ¬ (j : Int) < 2 := by omega
            have HS2 := Lib.hid (HRN.out.trans (two_fine (k := xk) fun i hi => HP.out i (by omega)))
            go_wp2
            go_roundw
            case rel => exact ⟨k + 1, by go_num, by omega, HS2.out, HB.out⟩
            case measure => simp [RowKit.intOf]; omega
      · have hki : ¬ (k : Int) < (R.length : Int) := by omega
        obtain rfl : k = R.length := by omega
        have HE := Lib.hid (show rlsE R = 0 by unfold rlsE; rw [if_neg hE]; exact HS.out)
        go_wp2
        go_ret
        exact ⟨by rw [HE.out]; rfl, HB.out⟩
end Go.Proofs.YtnkpjkomokkhcaaGreatDoor
