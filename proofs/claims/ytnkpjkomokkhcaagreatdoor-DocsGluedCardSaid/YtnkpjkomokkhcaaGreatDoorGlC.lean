/- Glue by the specification: what a part closes and opens between parts. Glue, by the specification. the guard on sizes, over several lists. each unit and each tag by itself, by the specification. the units of a list, by the specification. -/
import Derived.Test.YtnkpjkomokkhcaaGreatDoorGlB
import Derived.Test.YtnkpjkomokkhcaaGreatDoorDqA
namespace Go.Proofs.YtnkpjkomokkhcaaGreatDoor
open Go Go.RowKit Go.Lib
set_option maxRecDepth 100000
end Go.Proofs.YtnkpjkomokkhcaaGreatDoor
namespace Go.Proofs.YtnkpjkomokkhcaaGreatDoor
open Go Go.RowKit Go.Lib
set_option maxRecDepth 100000
end Go.Proofs.YtnkpjkomokkhcaaGreatDoor
namespace Go.Proofs.YtnkpjkomokkhcaaGreatDoor
open Go Go.RowKit Go.Lib
set_option maxRecDepth 100000
def LongsEnd (ps : List (List Pc)) (e : Ending) : Prop := ∃ b, e = .returned (.bool b) ∧ (b = false → bulkPs ps ≤ 2500)
def LsAt (ps : List (List Pc)) (i m : Nat) : Prop := (m = bulkPs (ps.take i) ∨ 5000 ≤ m) ∧ m ≤ i * 300000000000000 + 5000
def LsIn (ps : List (List Pc)) (l : List Pc) (i j m : Nat) : Prop := (m = bulkPs (ps.take i) + cnt l j ∨ 5000 ≤ m) ∧ m ≤ i * 300000000000000 + 150000000010000
theorem LsAt.in {ps : List (List Pc)} {l : List Pc} {i m : Nat} (h : LsAt ps i m) (hl : l.length ≤ 140737488355328) : LsIn ps l i 0 (m + l.length) := by
  unfold LsAt at h
  unfold LsIn
  rw [cnt_zero]
  omega
theorem LsIn.step {ps : List (List Pc)} {l : List Pc} {i j m : Nat} (h : LsIn ps l i j m) (hj : j < l.length) (hm : m < 5000) (hs : (l.getD j nil).s.size ≤ 140737488355328) : LsIn ps l i (j + 1) (m + (l.getD j nil).s.size) := by
  unfold LsIn at *
  rw [cnt_succ l j hj]
  omega
theorem LsIn.out {ps : List (List Pc)} {i m : Nat} (hi : i < ps.length) (h : LsIn ps (ps.getD i []) i (ps.getD i []).length m) : LsAt ps (i + 1) m := by
  unfold LsIn LsAt at *
  rw [cnt_all] at h
  rw [bulkPs_take_succ hi]
  omega
theorem LsIn.le {ps : List (List Pc)} {l : List Pc} {i j m : Nat} (h : LsIn ps l i j m) (hi : i ≤ 30) : m ≤ 10000000000000000 := by
  unfold LsIn at h
  omega
theorem LsAt.le {ps : List (List Pc)} {i m : Nat} (h : LsAt ps i m) (hi : i ≤ 30) : m ≤ 10000000000000000 := by
  unfold LsAt at h
  omega
end Go.Proofs.YtnkpjkomokkhcaaGreatDoor
namespace Go.Proofs.YtnkpjkomokkhcaaGreatDoor
open Go Go.RowKit Go.Lib
set_option maxRecDepth 100000
theorem enc_small (r : Int) : (Utf8.encode r).size ≤ 4 := by
  unfold Utf8.encode
  dsimp only
  split <;> (try split) <;> (try split) <;> (try split) <;> simp [ByteArray.size]
theorem toRunes2 (s : ByteArray) (w : World) (hs : s.size ≤ 100000) : ∃ cap W1 cur, (convert 9 142 (.string s)).run Tryz.prog w = .ok (.slice (some ⟨w.heap.size, 0, none⟩) (runesOf s).length cap) W1 ∧ Below w.heap.size w W1 ∧
    W1.heap[w.heap.size]? = some (.cells cur 21 (0, 0)) ∧ (∀ (k r : Nat), (runesOf s)[k]? = some r → cur[k]? = some (.int .i32 (r : Int))) ∧ (runesOf s).length ≤ cap := by
  have e : Conv.runesFrom s s.size 0 #[] = ((runesOf s).map runeV).toArray := by
    rw [runesFrom_eq]; simp [runesOf]
  have hlen : (runesOf s).length ≤ s.size := runesG_length _ _
  have hsz : (Conv.runesFrom s s.size 0 #[]).size = (runesOf s).length := by rw [e]; simp
  have h1 := run_runes_of_string (P := Tryz.prog) w 9 142 21 s Tryz.underlying9 Tryz.underlying142 Tryz.underlying21 (by rw [hsz]; omega)
  have hge := grownCap_ge w (Conv.runesFrom s s.size 0 #[]).size 0 21
  rw [hsz] at h1 hge
  refine ⟨_, _, _, h1, (Below.refl _ _).drew.alloc (Nat.le_refl _) _, heap_alloc_new w.drew _, ?_, by omega⟩
  intro k r hk
  have hkl : k < (runesOf s).length := (List.getElem?_eq_some_iff.1 hk).1
  rw [e]
  rw [Array.getElem?_append_left (by simpa using hkl)]
  simp [hk, runeV]
def runP (r : Nat) : Pc := ⟨1, Utf8.encode (r : Int), false⟩
/-- a piece, each unit by itself -/
def unP (x : Pc) : List Pc := if x.k = 1 then (runesOf x.s).map runP else [x]
def singleTo (l : List Pc) (k : Nat) : List Pc := (l.take k).flatMap unP
def singleL (l : List Pc) : List Pc := l.flatMap unP
theorem unP_len (x : Pc) : (unP x).length ≤ x.s.size + 1 := by
  unfold unP
  split
  · rw [List.length_map]
    have := runesG_length x.s.data.toList.length x.s.data.toList
    have h2 : (runesOf x.s).length ≤ x.s.size := this
    omega
  · simp
theorem flat_len : ∀ l : List Pc, (l.flatMap unP).length ≤ bulk l
  | [] => by simp
  | x :: l => by
    rw [List.flatMap_cons, List.length_append, bulk_cons]
    have h1 := flat_len l
    have h2 := unP_len x
    omega
theorem own_cells {w : World} {B b sz : Nat} {e t : TypeId} {v : Value} {n : Nat} {xs : List Value} {cs : Array Value} (hown : w.ownsRow B e sz v n xs) (hb : w.heap[b]? = some (.cells cs t (0, 0))) (hne : e ≠ t) : v.ownBlock ≠ some b := by
  rcases hown.2 with ⟨rfl, _⟩ | ⟨g, cap, cur, rfl, _, hg, _⟩
  · simp [Value.ownBlock]
  · intro e'
    simp only [Value.ownBlock, Option.some.injEq] at e'
    subst e'
    rw [hg] at hb
    injection hb with hb
    injection hb with _ ht _
    exact hne ht
end Go.Proofs.YtnkpjkomokkhcaaGreatDoor
namespace Go.Proofs.YtnkpjkomokkhcaaGreatDoor
open Go Go.RowKit Go.Lib
set_option maxRecDepth 100000
theorem info_unit : (Tryz.prog.info? 147).map (fun i => (i.zero, i.size, i.bytes)) = some (some (.agg #[.int .i32 0, .bool false]), 2, 8) := by kernel_rfl
def unN (x : Pc) : Nat := if x.k = 5 then 1 else if x.k = 1 then (runesOf x.s).length else 0
def unTo (l : List Pc) (k : Nat) : Nat := ((l.take k).map unN).sum
def nUnits (l : List Pc) : Nat := (l.map unN).sum
theorem unTo_succ {l : List Pc} {k : Nat} (h : k < l.length) : unTo l (k + 1) = unTo l k + unN (l.getD k nil) := by
  unfold unTo
  rw [take_succ_getD l k h, List.map_append, List.sum_append]
  simp
theorem unTo_all (l : List Pc) : unTo l l.length = nUnits l := by unfold unTo nUnits; rw [List.take_length]
theorem unN_le (x : Pc) : unN x ≤ x.s.size + 1 := by
  unfold unN
  split
  · omega
  · split
    · have h2 : (runesOf x.s).length ≤ x.s.size := runesG_length _ _
      omega
    · omega
theorem sum_un : ∀ l : List Pc, (l.map unN).sum ≤ bulk l
  | [] => by simp
  | x :: l => by
    rw [List.map_cons, List.sum_cons, bulk_cons]
    have h1 := sum_un l
    have h2 := unN_le x
    omega
theorem unTo_le (l : List Pc) (k : Nat) : unTo l k ≤ bulk l := Nat.le_trans (sum_un _) (bulk_take l k)
theorem cell_new2 (w : World) (a b : Value) (t : TypeId) : ∀ j u, [a, b][j]? = some u → (w.alloc (.cells #[a, b] t)).cell? ((⟨w.heap.size, 0, none⟩ : Addr).add j) = some u := by
  intro j x hj
  match j, hj with
  | 0, hj => simp at hj; subst hj; simp [Addr.add]
  | 1, hj => simp at hj; subst hj; simp [Addr.add]
theorem one2 (a : Int) (c : Bool) : ∀ u ∈ ([.int .i32 a, .bool c] : List Value), u.oneCell' = true := by intro u hu; simp at hu; rcases hu with rfl | rfl <;> rfl
/-- a row of units that the call owns; of its cells nothing is asked -/
def OwnU (B : Nat) (v : Value) (n : Nat) (w : World) : Prop := ∃ xs, w.ownsRow B 147 2 v n xs
theorem OwnU.step {B : Nat} {v : Value} {n : Nat} {w w' : World} (hb : Below w.heap.size w w') (h : OwnU B v n w) : OwnU B v n w' := by
  obtain ⟨xs, h⟩ := h
  exact ⟨xs, ownsRow_step hb h⟩
theorem OwnU.form {B : Nat} {v : Value} {n : Nat} {w : World} (h : OwnU B v n w) : ∃ ao cap, v = .slice ao n cap := by
  obtain ⟨xs, h⟩ := h
  rcases h.2 with ⟨hv, h0⟩ | ⟨g, cap, cur, hv, _⟩
  · subst h0
    exact ⟨none, 0, hv⟩
  · exact ⟨_, _, hv⟩
set_option maxHeartbeats 16000000 in
theorem units_any (l : List Pc) (v : Value) (w : World) (hv : PcsAt w v l) (hb : bulk l ≤ 10000) :
    Calls Tryz.prog 49 #[v] w fun e w' => (∃ a : Option Addr × Nat, e = .returned (.slice a.1 (nUnits l) a.2)) ∧ Below w.heap.size w w' := by
  obtain ⟨p, cap, rfl, hl, hc, hrow⟩ := hv
  unfold maxLen at hc
  obtain ⟨i0, hi, hz0, hz1, hz2⟩ := info_parts info_unit
  have ag := Tryz.isAgg52
  have zg := Tryz.sizeOf52
  have ag2 := Tryz.isAgg147
  have zg2 := Tryz.sizeOf147
  have HR := Lib.hid hrow
  clear hrow
  go_enter Tryz.func49, Tryz.ntmps49
  go_wp2
  go_loopw [3, 4] (fun o i wr => ∃ k : Nat, k ≤ l.length ∧ i = .int .i64 k ∧ Hid (OwnU w.heap.size o (unTo l k) wr) ∧ Hid (Below w.heap.size w wr)) (fun _ i _ => l.length - (RowKit.intOf i).toNat)
  case atStart => exact ⟨0, Nat.zero_le _, rfl, show OwnU _ _ _ _ from ⟨[], World.ownsRow_nil _ _ _ _⟩, Below.refl _ _⟩
  case round =>
    obtain ⟨k, hk, rfl, HK, HB⟩ := hrel
    by_cases hlt : k < l.length
    · obtain ⟨A, rfl, hA, hcell⟩ := HR.out (by omega)
      obtain ⟨x0, x1, x2⟩ := pcs_cells hA hcell hlt HB.out
      have HS := Lib.hid (unTo_succ hlt)
      have hsz := bulk_getD hlt
      have hol := unTo_le l k
      have hki : (k : Int) < (l.length : Int) := by omega
      have hk0 : (0 : Int) ≤ (k : Int) := by omega
      have HX := Lib.hid (fun (w2 : World) (h2 : Below w.heap.size w w2) => pcs_cells hA hcell hlt h2)
      clear hcell
      generalize l.getD k nil = x at x0 x1 x2 HS hsz HX
      generalize unTo l k = o1 at HK HS hol
      obtain ⟨ao, ca, rfl⟩ := HK.out.form
      have hszw := HB.out.size
      obtain ⟨xk, xs, xc⟩ := x
      dsimp only at x0 x1 x2 hsz
      by_cases h5 : xk = 5
      · subst h5
        have HS1 := Lib.hid (show unTo l (k + 1) = o1 + 1 by rw [HS.out]; rfl)
        obtain ⟨vs, hown2⟩ := HK.out
        have HK2 := Lib.hid hown2
        have q1 := Lib.hid (show o1 + 1 ≤ maxLen by unfold maxLen; omega)
        have q2 := Lib.hid (show (o1 + 1) * 8 ≤ 140737488355328 by omega)
        clear hown2 HK HS
        go_wp2_with (first
          | (at_builtin; refine wpList_append_own _ rfl _ _ 85 rfl w.heap.size 147 i0 _ 2 8 Tryz.underlying85 hi hz0 hz1 hz2 rfl (by decide) _ _ _ rfl (HK2.out.alloc (.cells #[.int .i32 0, .bool true] 147)) ⟨wr.heap.size, 0, none⟩ 1 1 [.int .i32 0, .bool true] rfl rfl (cell_new2 wr _ _ _) (one2 _ _) q1.out q2.out (by simp; omega) ?_; intro v3 w3 hown3 hgrow3 hnil3
             have HB3 := Lib.hid ((HB.out.alloc hszw (.cells #[.int .i32 0, .bool true] 147)).grown hgrow3 (by simp; omega) (fun k hk => (HK2.out.lt k hk).1))
             have HK3 := Lib.hid (show OwnU w.heap.size v3 (o1 + 1) w3 from ⟨_, hown3⟩)
             obtain ⟨y0, y1, y2⟩ := HX.out w3 HB3.out
             dsimp only at y0 y1 y2
             clear hown3 hgrow3 hnil3))
        go_roundw
        case rel => exact ⟨k + 1, hlt, by go_num, (by show OwnU _ _ _ _; rw [HS1.out]; exact HK3.out), HB3.out⟩
        case measure => simp [RowKit.intOf]; omega
      · have h5b : (xk == 5) = false := by simpa using h5
        by_cases h1 : xk = 1
        · subst h1
          obtain ⟨cap2, W1, cur, hcv, hb2, hbl2, hcur, hcap2⟩ := toRunes2 xs wr (by omega)
          have hrl : (runesOf xs).length ≤ xs.size := runesG_length _ _
          have HS1 := Lib.hid (show unTo l (k + 1) = o1 + (runesOf xs).length by rw [HS.out]; rfl)
          have HCU := Lib.hid hcur
          have HW := Lib.hid (below_next HB.out hb2)
          have HK1 := Lib.hid (HK.out.step hb2)
          have HBL := Lib.hid hbl2
          have hrs : (runesOf xs).length ≤ 10000 := by omega
          clear hcur hbl2 hrl HS
          generalize runesOf xs = rs at *
          obtain ⟨wo, hwo⟩ : ∃ wo, wo = wr := ⟨_, rfl⟩
          subst hwo
          go_wp2
          go_loopw [3, 6] (fun o i wr2 => ∃ j : Nat, j ≤ rs.length ∧ i = .int .i64 j ∧ Hid (OwnU w.heap.size o (o1 + j) wr2) ∧ Hid (wr2.heap[wo.heap.size]? = some (.cells cur 21 (0, 0))) ∧ Hid (Below w.heap.size w wr2)) (fun _ i _ => rs.length - (RowKit.intOf i).toNat)
          case atStart => exact ⟨0, Nat.zero_le _, rfl, HK1.out, HBL.out, HW.out⟩
          case round =>
            clear HB HW HK HK1 hszw
            obtain ⟨j, hj, rfl, HO, HR2, HB⟩ := hrel
            by_cases hjl : j < rs.length
            · have hr : rs[j]? = some rs[j] := List.getElem?_eq_getElem hjl
              have ck := (Lib.cell_of_heap HR2.out j).trans (HCU.out j _ hr)
              have hji : (j : Int) < (rs.length : Int) := by omega
              have hj0 : (0 : Int) ≤ (j : Int) := by omega
              generalize rs[j] = r at hr ck
              clear hr
              obtain ⟨aoj, caj, hfo⟩ := HO.out.form
              subst hfo
              obtain ⟨vs, hown2⟩ := HO.out
              have HK2 := Lib.hid hown2
              have hszw := HB.out.size
              have q1 := Lib.hid (show o1 + j + 1 ≤ maxLen by unfold maxLen; omega)
              have q2 := Lib.hid (show (o1 + j + 1) * 8 ≤ 140737488355328 by omega)
              clear hown2 HO
              go_wp2_with (first
                | (at_builtin; refine wpList_append_own _ rfl _ _ 85 rfl w.heap.size 147 i0 _ 2 8 Tryz.underlying85 hi hz0 hz1 hz2 rfl (by decide) _ _ _ rfl (HK2.out.alloc (.cells #[.int .i32 (r : Int), .bool false] 147)) ⟨wr.heap.size, 0, none⟩ 1 1 [.int .i32 (r : Int), .bool false] rfl rfl (cell_new2 wr _ _ _) (one2 _ _) q1.out q2.out (by simp; omega) ?_; intro v3 w3 hown3 hgrow3 hnil3
                   have HR6 := Lib.hid (show w3.heap[wo.heap.size]? = some (.cells cur 21 (0, 0)) by
                     have d4 := (Below.heap_alloc wr (.cells #[.int .i32 (r : Int), .bool false] 147) _ (lt_of_block HR2.out)).trans HR2.out
                     rw [hgrow3.block wo.heap.size (lt_of_block d4) (fun e => own_cells (HK2.out.alloc (.cells #[.int .i32 (r : Int), .bool false] 147)) d4 (by decide) e.symm)]
                     exact d4)
                   have HB3 := Lib.hid ((HB.out.alloc hszw (.cells #[.int .i32 (r : Int), .bool false] 147)).grown hgrow3 (by simp; omega) (fun k hk => (HK2.out.lt k hk).1))
                   have HK3 := Lib.hid (show OwnU w.heap.size v3 ((o1 + j) + 1) w3 from ⟨_, hown3⟩)
                   clear hown3 hgrow3 hnil3))
              go_roundw
              case rel => exact ⟨j + 1, hjl, by go_num, HK3.out, HR6.out, HB3.out⟩
              case measure => simp [RowKit.intOf]; omega
            · have hji : ¬ (j : Int) < (rs.length : Int) := by omega
              obtain rfl : j = rs.length := by omega
              go_wp2
              go_roundw
              case rel => exact ⟨k + 1, hlt, by go_num, (by show OwnU _ _ _ _; rw [HS1.out]; exact HO.out), HB.out⟩
              case measure => simp [RowKit.intOf]; omega
        · have h1b : (xk == 1) = false := by simpa using h1
          have HS1 := Lib.hid (show unTo l (k + 1) = o1 by rw [HS.out]; unfold unN; rw [if_neg h5, if_neg h1]; rfl)
          go_wp2
          go_roundw
          case rel => exact ⟨k + 1, hlt, by go_num, (by show OwnU _ _ _ _; rw [HS1.out]; exact HK.out), HB.out⟩
          case measure => simp [RowKit.intOf]; omega
    · have hki : ¬ (k : Int) < (l.length : Int) := by omega
      obtain rfl : k = l.length := by omega
      rw [unTo_all] at HK
      obtain ⟨ao, ca, rfl⟩ := HK.out.form
      go_wp2
      go_ret
      exact ⟨⟨ao, ca, rfl⟩, HB.out⟩
def unE (l : List Pc) : Nat := if checkE l = 0 then nUnits l else 0
set_option maxHeartbeats 4000000 in
theorem refUnits_any (l : List Pc) (v : Value) (w : World) (hv : PcsAt w v l) (hb : bulk l ≤ 10000) :
    Calls Tryz.prog 14 #[v] w fun e w' => e = .returned (.tuple #[.int .i64 (unE l : Nat), .int .u8 (checkE l)]) ∧ Below w.heap.size w w' := by
  have cC := refCheck_any l v w hv (by omega)
  have hn : nUnits l ≤ 10000 := by have := sum_un l; unfold nUnits; omega
  by_cases hE : checkE l = 0
  · have HU := Lib.hid (show unE l = nUnits l by unfold unE; rw [if_pos hE])
    have HH := Lib.hid hE
    rw [hE] at cC
    have cA := fun w1 (h1 : Below w.heap.size w w1) => units_any l v w1 (hv.step h1) hb
    generalize nUnits l = n at *
    go_enter Tryz.func14, Tryz.ntmps14
    go_wp2_with (first
      | (go_at_call 26; (with_reducible refine cC.mono ?_); rintro e w1 ⟨rfl, hb1⟩)
      | (go_at_call 49; (with_reducible refine (cA w1 hb1).mono ?_); rintro e w2 ⟨⟨⟨a, c⟩, rfl⟩, hb2⟩; dsimp only; have HB2 := Lib.hid (below_next hb1 hb2); clear hb1 hb2))
    go_ret2
    exact ⟨by rw [HU.out, HH.out]; rfl, HB2.out⟩
  · have HU := Lib.hid (show unE l = 0 by unfold unE; rw [if_neg hE])
    generalize hZ : checkE l = Z at cC hE
    have hz : (Z == 0) = false := by simpa using hE
    have hz2 : (Z != 0) = true := by simpa using hE
    clear hE hZ
    go_enter Tryz.func14, Tryz.ntmps14
    go_wp2_with (go_at_call 26; (with_reducible refine cC.mono ?_); rintro e w1 ⟨rfl, hb1⟩)
    go_ret2
    exact ⟨by rw [HU.out]; rfl, hb1⟩
end Go.Proofs.YtnkpjkomokkhcaaGreatDoor
