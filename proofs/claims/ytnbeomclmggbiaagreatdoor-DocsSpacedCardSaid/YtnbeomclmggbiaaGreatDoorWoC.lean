/- Words: the words of a list, by the specification. Words: Words of the specification. Words: the words of a text, place by place, as the program's iterator tells them. No run of any program here. -/
import Derived.Test.YtnbeomclmggbiaaGreatDoorWoB
namespace Go.Proofs.YtnbeomclmggbiaaGreatDoor
open Go Go.RowKit Go.Lib
set_option maxRecDepth 100000
def rowEnd (row : ByteArray) : List ByteArray := if isE row = true then [] else [row]
def cutStep (st : List ByteArray × ByteArray) (r : Nat) : List ByteArray × ByteArray :=
  if inN r = true then (st.1, st.2 ++ Utf8.encode (r : Int)) else (st.1 ++ rowEnd st.2 ++ (if r = 32 then [] else [Utf8.encode (r : Int)]), ByteArray.empty)
def cutRun (out : List ByteArray) (rs : List Nat) (k : Nat) : List ByteArray × ByteArray := (rs.take k).foldl cutStep (out, ByteArray.empty)
theorem cutRun_succ {out : List ByteArray} {rs : List Nat} {k r : Nat} (h : rs[k]? = some r) : cutRun out rs (k + 1) = cutStep (cutRun out rs k) r := by
  unfold cutRun
  rw [List.take_add_one, h, Option.toList_some, List.foldl_append]; rfl
def cutPc (out : List ByteArray) (x : Pc) : List ByteArray :=
  if x.k = 1 then (cutRun out (runesOf x.s) (runesOf x.s).length).1 ++ rowEnd (cutRun out (runesOf x.s) (runesOf x.s).length).2 else out ++ [bytes (wB x)]
def cutTo (l : List Pc) (k : Nat) : List ByteArray := (l.take k).foldl cutPc []
def cutL (l : List Pc) : List ByteArray := cutTo l l.length
theorem cutTo_succ {l : List Pc} {k : Nat} (h : k < l.length) : cutTo l (k + 1) = cutPc (cutTo l k) (l.getD k nil) := by
  unfold cutTo
  rw [takeP_succ h, List.foldl_append]; rfl
theorem enc_small (r : Int) : (Utf8.encode r).size ≤ 4 := by
  unfold Utf8.encode
  dsimp only
  split <;> (try split) <;> (try split) <;> (try split) <;> simp [ByteArray.size]
theorem empty_of {s : ByteArray} (h : s.toList.isEmpty = true) : s = ByteArray.empty := by
  rw [ByteArray.toList_eq] at h
  obtain ⟨d⟩ := s
  have e : d = #[] := by simpa using h
  subst e
  rfl
theorem cutStep_len (st : List ByteArray × ByteArray) (r : Nat) : (cutStep st r).1.length ≤ st.1.length + 2 ∧ (cutStep st r).2.size ≤ st.2.size + 4 := by
  have := enc_small (r : Int)
  unfold cutStep rowEnd
  split
  · simp only [ByteArray.size_append]; omega
  · refine ⟨?_, by simp⟩
    simp only [List.length_append]
    split <;> split <;> simp
theorem cutRun_len (out : List ByteArray) (rs : List Nat) : ∀ k, (cutRun out rs k).1.length ≤ out.length + 2 * k ∧ (cutRun out rs k).2.size ≤ 4 * k
  | 0 => by simp [cutRun]
  | k + 1 => by
    have ih := cutRun_len out rs k
    by_cases h : k < rs.length
    · rw [cutRun_succ (List.getElem?_eq_getElem h)]
      have := cutStep_len (cutRun out rs k) rs[k]
      omega
    · have e : cutRun out rs (k + 1) = cutRun out rs k := by unfold cutRun; rw [List.take_of_length_le (by omega), List.take_of_length_le (by omega)]
      rw [e]; omega
theorem toRunes2 (s : ByteArray) (w : World) (hs : s.size ≤ 100000) : ∃ cap W1 cur, (convert 9 148 (.string s)).run Tryz.prog w = .ok (.slice (some ⟨w.heap.size, 0, none⟩) (runesOf s).length cap) W1 ∧ Below w.heap.size w W1 ∧
    W1.heap[w.heap.size]? = some (.cells cur 21 (0, 0)) ∧ (∀ (k r : Nat), (runesOf s)[k]? = some r → cur[k]? = some (.int .i32 (r : Int))) ∧ (runesOf s).length ≤ cap := by
  have e : Conv.runesFrom s s.size 0 #[] = ((runesOf s).map runeV).toArray := by
    rw [runesFrom_eq]; simp [runesOf]
  have hlen : (runesOf s).length ≤ s.size := runesG_length _ _
  have hsz : (Conv.runesFrom s s.size 0 #[]).size = (runesOf s).length := by rw [e]; simp
  have h1 := run_runes_of_string (P := Tryz.prog) w 9 148 21 s Tryz.underlying9 Tryz.underlying148 Tryz.underlying21 (by rw [hsz]; omega)
  have hge := grownCap_ge w (Conv.runesFrom s s.size 0 #[]).size 0 21
  rw [hsz] at h1 hge
  refine ⟨_, _, _, h1, (Below.refl _ _).drew.alloc (Nat.le_refl _) _, heap_alloc_new w.drew _, ?_, by omega⟩
  intro k r hk
  have hkl : k < (runesOf s).length := (List.getElem?_eq_some_iff.1 hk).1
  rw [e]
  rw [Array.getElem?_append_left (by simpa using hkl)]
  simp [hk, runeV]
set_option maxHeartbeats 16000000 in
theorem refCut_any (l : List Pc) (v : Value) (w : World) (hv : PcsAt w v l) (hval : ∀ i, i < l.length → pieceE (l.getD i nil) = 0) (hb : bulk l ≤ 10000) (hlen : ∀ k, k ≤ l.length → (cutTo l k).length ≤ 100000) :
    Calls Tryz.prog 53 #[v] w fun e w' => (∃ u, e = .returned u ∧ OwnS w.heap.size u (cutL l) w') ∧ Below w.heap.size w w' := by
  obtain ⟨p, cap, rfl, hl, hc, hrow⟩ := hv
  unfold maxLen at hc
  obtain ⟨i0, hi, hz0, hz1, hz2⟩ := info_parts info_str
  have ag := Tryz.isAgg56
  have zg := Tryz.sizeOf56
  have HR := Lib.hid hrow
  have HV := Lib.hid hval
  have HL := Lib.hid hlen
  clear hrow hval hlen
  go_enter Tryz.func53, Tryz.ntmps53
  go_wp2
  go_loopw [3, 4] (fun o i wr => ∃ k : Nat, k ≤ l.length ∧ i = .int .i64 k ∧ Hid (OwnS w.heap.size o (cutTo l k) wr) ∧ Hid (Below w.heap.size w wr)) (fun _ i _ => l.length - (RowKit.intOf i).toNat)
  case atStart => exact ⟨0, Nat.zero_le _, rfl, World.ownsRow_nil _ _ _ _, Below.refl _ _⟩
  case round =>
    obtain ⟨k, hk, rfl, HK, HB⟩ := hrel
    by_cases hlt : k < l.length
    · obtain ⟨A, rfl, hA, hcell⟩ := HR.out (by omega)
      obtain ⟨x0, x1, x2⟩ := pcs_cells hA hcell hlt HB.out
      have hS := cutTo_succ hlt
      have hL := HL.out k hk
      have hL1 := HL.out (k + 1) hlt
      have hsz := bulk_getD hlt
      have hvx := HV.out k hlt
      clear hcell
      rw [hS] at hL1
      generalize l.getD k nil = x at x0 x1 x2 hS hsz hvx hL1
      generalize cutTo l k = o1 at HK hS hL hL1
      obtain ⟨ao, ca, rfl⟩ := HK.out.form
      by_cases h1 : x.k = 1
      · have h1b : (x.k == 1) = true := by simpa using h1
        have h1c : (x.k != 1) = false := by simpa using h1
        obtain ⟨cap2, W1, cur, hcv, hb2, hbl2, hcur, hcap2⟩ := toRunes2 x.s wr (by omega)
        have hrl : (runesOf x.s).length ≤ x.s.size := runesG_length _ _
        have hS1 : cutTo l (k + 1) = (cutRun o1 (runesOf x.s) (runesOf x.s).length).1 ++ rowEnd (cutRun o1 (runesOf x.s) (runesOf x.s).length).2 := by rw [hS]; unfold cutPc; rw [if_pos h1]
        have HS := Lib.hid hS1
        have HCR := Lib.hid (fun j => cutRun_len o1 (runesOf x.s) j)
        have HCS := Lib.hid (fun (j r : Nat) (h : (runesOf x.s)[j]? = some r) => cutRun_succ (out := o1) h)
        have HCU := Lib.hid hcur
        have HW := Lib.hid (below_next HB.out hb2)
        have HK1 := Lib.hid (HK.out.step hb2)
        have HBL := Lib.hid hbl2
        have hrs : (runesOf x.s).length ≤ 10000 := by omega
        have hlo : o1.length ≤ 100000 := hL
        have HC0 := Lib.hid (show cutRun o1 (runesOf x.s) 0 = (o1, ByteArray.empty) from rfl)
        clear hS hS1 h1 hcur hbl2 hL1 hL hrl
        generalize runesOf x.s = rs at *
        obtain ⟨wo, hwo⟩ : ∃ wo, wo = wr := ⟨_, rfl⟩
        subst hwo
        go_wp2
        go_loopw [3, 6, 7] (fun o row i wr2 => ∃ j : Nat, j ≤ rs.length ∧ i = .int .i64 j ∧ row = .string (cutRun o1 rs j).2 ∧ Hid (OwnS w.heap.size o (cutRun o1 rs j).1 wr2) ∧ Hid (wr2.heap[wo.heap.size]? = some (.cells cur 21 (0, 0))) ∧ Hid (Below w.heap.size w wr2)) (fun _ _ i _ => rs.length - (RowKit.intOf i).toNat)
        case atStart => exact ⟨0, Nat.zero_le _, rfl, rfl, HK1.out, HBL.out, HW.out⟩
        case round =>
          obtain ⟨j, hj, rfl, rfl, HO, HR2, HB2⟩ := hrel
          by_cases hjl : j < rs.length
          · have hr : rs[j]? = some rs[j] := List.getElem?_eq_getElem hjl
            have ck := (Lib.cell_of_heap HR2.out j).trans (HCU.out j _ hr)
            have hcs := HCS.out j _ hr
            have hln := HCR.out j
            generalize rs[j] = r at hr ck hcs
            have HJ := Lib.hid hr
            clear hr
            have hlw := lt_of_block HR2.out
            generalize cutRun o1 rs j = st at HO hcs hln
            obtain ⟨oj, row⟩ := st
            dsimp only at HO hcs hln
            have hoj : oj.length ≤ 200000 := by omega
            have hoj2 : (oj ++ [row]).length ≤ 200001 := by simp; omega
            have hrw : row.size ≤ 40000 := by omega
            have hen := enc_small (r : Int)
            have hno : ¬ 9223372036854775807 < row.size + (Utf8.encode (r : Int)).size := by omega
            obtain ⟨aoj, caj, hfj⟩ := HO.out.form
            subst hfj
            have HBu := Lib.hid (below_next HB2.out (below_box (w := wr) (.cells #[.int .i32 (r : Int), .bool false] 150)))
            have HOu := Lib.hid (HO.out.step (below_box (w := wr) (.cells #[.int .i32 (r : Int), .bool false] 150)))
            have HRu := Lib.hid ((Below.heap_alloc wr (.cells #[.int .i32 (r : Int), .bool false] 150) _ hlw).trans HR2.out)
            have cI := fun w2 => refInWord_any r w2
            unfold cutStep rowEnd at hcs
            clear hln hen
            cases hin : inN r
            · rw [hin] at hcs cI
              simp only [Bool.false_eq_true, if_false] at hcs
              obtain ⟨E, hE⟩ : ∃ E, row.toList.isEmpty = E := ⟨_, rfl⟩
              have hEb : isE row = E := hE
              rw [hEb] at hcs
              clear hEb hin
              by_cases h32 : r = 32
              · subst h32
                have cI2 : ∀ w2, Calls Tryz.prog 99 #[.agg #[.int .i32 32, .bool false]] w2 fun e w' => e = .returned (.bool false) ∧ Below w2.heap.size w2 w' := cI
                have HBu2 : Hid (Below w.heap.size w (wr.alloc (.cells #[.int .i32 32, .bool false] 150))) := HBu
                have HOu2 : Hid (OwnS w.heap.size (.slice aoj oj.length caj) oj (wr.alloc (.cells #[.int .i32 32, .bool false] 150))) := HOu
                have HRu2 : Hid ((wr.alloc (.cells #[.int .i32 32, .bool false] 150)).heap[wo.heap.size]? = some (.cells cur 21 (0, 0))) := HRu
                have ck2 : wr.cell? ⟨wo.heap.size, j, none⟩ = some (.int .i32 32) := ck
                clear cI HBu HOu HRu ck hno
                simp only [if_true, List.append_nil] at hcs
                cases E
                · simp only [Bool.false_eq_true, if_false] at hcs
                  have HS2 := Lib.hid hcs
                  clear hcs
                  go_wp2_with (first
                    | (go_at_call 99; (with_reducible refine (cI2 _).mono ?_); rintro e w5 ⟨rfl, hb5⟩; have HBc := Lib.hid (below_next HBu2.out hb5); have HOc := Lib.hid (HOu2.out.step hb5); have HRc := Lib.hid ((hb5.block _ (lt_of_block HRu2.out)).trans HRu2.out); have ck5 : w5.cell? ⟨wo.heap.size, j, none⟩ = some (.int .i32 32) := (Lib.cell_of_heap HRc.out j).trans (HCU.out j 32 HJ.out); obtain ⟨aoc, cac, hfo⟩ := HOc.out.form; clear hb5 hfo)
                    | (at_builtin; have hown := HOc.out; unfold OwnS at hown; have hszc := HBc.out.size; refine wpList_append_own _ rfl _ _ 36 rfl w.heap.size 9 i0 (.string ⟨#[]⟩) 1 16 Tryz.underlying36 hi hz0 hz1 hz2 rfl (by decide) _ _ _ rfl (hown.alloc (.cells #[.string (row)] 9)) _ 1 1 [.string (row)] rfl rfl (cell_new1 _ _ _) (fun x hx => by simp at hx; subst hx; rfl) (by unfold maxLen; omega) (by omega) (by simp; omega) ?_; intro v6 w6 hown6 hgrow6 hnil6; have HR6 := Lib.hid (show w6.heap[wo.heap.size]? = some (.cells cur 21 (0, 0)) by have d4 := (Below.heap_alloc _ (.cells #[.string (row)] 9) _ (lt_of_block HRc.out)).trans HRc.out; rw [hgrow6.block wo.heap.size (lt_of_block d4) (fun e => own_other (hown.alloc (.cells #[.string (row)] 9)) d4 (by decide) e.symm)]; exact d4); have HB6 := Lib.hid ((HBc.out.alloc hszc (.cells #[.string (row)] 9)).grown hgrow6 (by simp; omega) (fun k hk => (hown.lt k hk).1)); have HO6 := Lib.hid (show OwnS w.heap.size v6 ((oj) ++ [row]) w6 by unfold OwnS; rw [List.length_append, List.map_append]; exact hown6); clear hown hown6 hgrow6 hnil6 hszc; replace HBc := HB6; replace HRc := HR6; clear HOc ck5; have HOc := HO6; have ck5 : w6.cell? ⟨wo.heap.size, j, none⟩ = some (.int .i32 32) := (Lib.cell_of_heap HRc.out j).trans (HCU.out j 32 HJ.out); obtain ⟨aoc, cac, rfl⟩ := HOc.out.form; clear HB6 HR6 HO6; have h6 := HOc.out; simp only [List.length_append, List.length_cons, List.length_nil, Nat.zero_add] at h6; clear HOc; have HOc := Lib.hid h6; clear h6))
                  go_roundw
                  case rel => exact ⟨j + 1, by omega, by go_num, (by first | (rw [HS2.out]; rfl) | rw [HS2.out]), (by show OwnS _ _ _ _; rw [HS2.out]; exact HOc.out), HRc.out, HBc.out⟩
                  case measure => simp [RowKit.intOf]; omega
                · have hre : row = ByteArray.empty := empty_of hE
                  simp only [if_true, List.append_nil] at hcs

                  have HS2 := Lib.hid hcs
                  clear hcs
                  go_wp2_with (first
                    | (go_at_call 99; (with_reducible refine (cI2 _).mono ?_); rintro e w5 ⟨rfl, hb5⟩; have HBc := Lib.hid (below_next HBu2.out hb5); have HOc := Lib.hid (HOu2.out.step hb5); have HRc := Lib.hid ((hb5.block _ (lt_of_block HRu2.out)).trans HRu2.out); have ck5 : w5.cell? ⟨wo.heap.size, j, none⟩ = some (.int .i32 32) := (Lib.cell_of_heap HRc.out j).trans (HCU.out j 32 HJ.out); obtain ⟨aoc, cac, hfo⟩ := HOc.out.form; clear hb5 hfo))
                  go_roundw
                  case rel => exact ⟨j + 1, by omega, by go_num, (by first | (rw [HS2.out]; rfl) | rw [HS2.out]), (by show OwnS _ _ _ _; rw [HS2.out]; exact HOc.out), HRc.out, HBc.out⟩
                  case measure => simp [RowKit.intOf]; omega
              · have h32b : ((r : Int) == 32) = false := by simp; omega
                have h32c : ((r : Int) != 32) = true := by simp; omega
                simp only [h32, if_false] at hcs
                cases E
                · simp only [Bool.false_eq_true, if_false] at hcs
                  have HTk := Lib.hid True.intro
                  have HS2 := Lib.hid hcs
                  clear hcs
                  go_wp2_with (first
                    | (go_at_call 99; (with_reducible refine (cI _).mono ?_); rintro e w5 ⟨rfl, hb5⟩; have HBc := Lib.hid (below_next HBu.out hb5); have HOc := Lib.hid (HOu.out.step hb5); have HRc := Lib.hid ((hb5.block _ (lt_of_block HRu.out)).trans HRu.out); have ck5 := (Lib.cell_of_heap HRc.out j).trans (HCU.out j r HJ.out); obtain ⟨aoc, cac, hfo⟩ := HOc.out.form; clear hb5 hfo)
                    | (clear HTk; at_builtin; have hown := HOc.out; unfold OwnS at hown; have hszc := HBc.out.size; refine wpList_append_own _ rfl _ _ 36 rfl w.heap.size 9 i0 (.string ⟨#[]⟩) 1 16 Tryz.underlying36 hi hz0 hz1 hz2 rfl (by decide) _ _ _ rfl (hown.alloc (.cells #[.string (row)] 9)) _ 1 1 [.string (row)] rfl rfl (cell_new1 _ _ _) (fun x hx => by simp at hx; subst hx; rfl) (by unfold maxLen; omega) (by omega) (by simp; omega) ?_; intro v6 w6 hown6 hgrow6 hnil6; have HR6 := Lib.hid (show w6.heap[wo.heap.size]? = some (.cells cur 21 (0, 0)) by have d4 := (Below.heap_alloc _ (.cells #[.string (row)] 9) _ (lt_of_block HRc.out)).trans HRc.out; rw [hgrow6.block wo.heap.size (lt_of_block d4) (fun e => own_other (hown.alloc (.cells #[.string (row)] 9)) d4 (by decide) e.symm)]; exact d4); have HB6 := Lib.hid ((HBc.out.alloc hszc (.cells #[.string (row)] 9)).grown hgrow6 (by simp; omega) (fun k hk => (hown.lt k hk).1)); have HO6 := Lib.hid (show OwnS w.heap.size v6 ((oj) ++ [row]) w6 by unfold OwnS; rw [List.length_append, List.map_append]; exact hown6); clear hown hown6 hgrow6 hnil6 hszc; replace HBc := HB6; replace HRc := HR6; clear HOc ck5; have HOc := HO6; have ck5 := (Lib.cell_of_heap HRc.out j).trans (HCU.out j r HJ.out); obtain ⟨aoc, cac, rfl⟩ := HOc.out.form; clear HB6 HR6 HO6; have h6 := HOc.out; simp only [List.length_append, List.length_cons, List.length_nil, Nat.zero_add] at h6; clear HOc; have HOc := Lib.hid h6; clear h6)
                    | (at_builtin; have hown := HOc.out; unfold OwnS at hown; have hszc := HBc.out.size; refine wpList_append_own _ rfl _ _ 36 rfl w.heap.size 9 i0 (.string ⟨#[]⟩) 1 16 Tryz.underlying36 hi hz0 hz1 hz2 rfl (by decide) _ _ _ rfl (hown.alloc (.cells #[.string (Utf8.encode (r : Int))] 9)) _ 1 1 [.string (Utf8.encode (r : Int))] rfl rfl (cell_new1 _ _ _) (fun x hx => by simp at hx; subst hx; rfl) (by unfold maxLen; omega) (by omega) (by simp; omega) ?_; intro v6 w6 hown6 hgrow6 hnil6; have HR6 := Lib.hid (show w6.heap[wo.heap.size]? = some (.cells cur 21 (0, 0)) by have d4 := (Below.heap_alloc _ (.cells #[.string (Utf8.encode (r : Int))] 9) _ (lt_of_block HRc.out)).trans HRc.out; rw [hgrow6.block wo.heap.size (lt_of_block d4) (fun e => own_other (hown.alloc (.cells #[.string (Utf8.encode (r : Int))] 9)) d4 (by decide) e.symm)]; exact d4); have HB6 := Lib.hid ((HBc.out.alloc hszc (.cells #[.string (Utf8.encode (r : Int))] 9)).grown hgrow6 (by simp; omega) (fun k hk => (hown.lt k hk).1)); have HO6 := Lib.hid (show OwnS w.heap.size v6 ((oj ++ [row]) ++ [Utf8.encode (r : Int)]) w6 by unfold OwnS; rw [List.length_append, List.map_append]; exact hown6); clear hown hown6 hgrow6 hnil6 hszc; replace HBc := HB6; replace HRc := HR6; clear HOc ck5; have HOc := HO6; have ck5 := (Lib.cell_of_heap HRc.out j).trans (HCU.out j r HJ.out); obtain ⟨aoc, cac, rfl⟩ := HOc.out.form; clear HB6 HR6 HO6; have h6 := HOc.out; simp only [List.length_append, List.length_cons, List.length_nil, Nat.zero_add] at h6; clear HOc; have HOc := Lib.hid h6; clear h6))
                  go_roundw
                  case rel => exact ⟨j + 1, by omega, by go_num, (by first | (rw [HS2.out]; rfl) | rw [HS2.out]), (by show OwnS _ _ _ _; rw [HS2.out]; exact HOc.out), HRc.out, HBc.out⟩
                  case measure => simp [RowKit.intOf]; omega
                · have hre : row = ByteArray.empty := empty_of hE
                  simp only [if_true, List.append_nil] at hcs

                  have HS2 := Lib.hid hcs
                  clear hcs
                  go_wp2_with (first
                    | (go_at_call 99; (with_reducible refine (cI _).mono ?_); rintro e w5 ⟨rfl, hb5⟩; have HBc := Lib.hid (below_next HBu.out hb5); have HOc := Lib.hid (HOu.out.step hb5); have HRc := Lib.hid ((hb5.block _ (lt_of_block HRu.out)).trans HRu.out); have ck5 := (Lib.cell_of_heap HRc.out j).trans (HCU.out j r HJ.out); obtain ⟨aoc, cac, hfo⟩ := HOc.out.form; clear hb5 hfo)
                    | (at_builtin; have hown := HOc.out; unfold OwnS at hown; have hszc := HBc.out.size; refine wpList_append_own _ rfl _ _ 36 rfl w.heap.size 9 i0 (.string ⟨#[]⟩) 1 16 Tryz.underlying36 hi hz0 hz1 hz2 rfl (by decide) _ _ _ rfl (hown.alloc (.cells #[.string (Utf8.encode (r : Int))] 9)) _ 1 1 [.string (Utf8.encode (r : Int))] rfl rfl (cell_new1 _ _ _) (fun x hx => by simp at hx; subst hx; rfl) (by unfold maxLen; omega) (by omega) (by simp; omega) ?_; intro v6 w6 hown6 hgrow6 hnil6; have HR6 := Lib.hid (show w6.heap[wo.heap.size]? = some (.cells cur 21 (0, 0)) by have d4 := (Below.heap_alloc _ (.cells #[.string (Utf8.encode (r : Int))] 9) _ (lt_of_block HRc.out)).trans HRc.out; rw [hgrow6.block wo.heap.size (lt_of_block d4) (fun e => own_other (hown.alloc (.cells #[.string (Utf8.encode (r : Int))] 9)) d4 (by decide) e.symm)]; exact d4); have HB6 := Lib.hid ((HBc.out.alloc hszc (.cells #[.string (Utf8.encode (r : Int))] 9)).grown hgrow6 (by simp; omega) (fun k hk => (hown.lt k hk).1)); have HO6 := Lib.hid (show OwnS w.heap.size v6 ((oj) ++ [Utf8.encode (r : Int)]) w6 by unfold OwnS; rw [List.length_append, List.map_append]; exact hown6); clear hown hown6 hgrow6 hnil6 hszc; replace HBc := HB6; replace HRc := HR6; clear HOc ck5; have HOc := HO6; have ck5 := (Lib.cell_of_heap HRc.out j).trans (HCU.out j r HJ.out); obtain ⟨aoc, cac, rfl⟩ := HOc.out.form; clear HB6 HR6 HO6; have h6 := HOc.out; simp only [List.length_append, List.length_cons, List.length_nil, Nat.zero_add] at h6; clear HOc; have HOc := Lib.hid h6; clear h6))
                  go_roundw
                  case rel => exact ⟨j + 1, by omega, by go_num, (by first | (rw [HS2.out]; rfl) | rw [HS2.out]), (by show OwnS _ _ _ _; rw [HS2.out]; exact HOc.out), HRc.out, HBc.out⟩
                  case measure => simp [RowKit.intOf]; omega
            · rw [hin] at hcs cI
              simp only [if_true] at hcs
              clear hin
              have HS2 := Lib.hid hcs
              clear hcs
              go_wp2_with (first
                | (go_at_call 99; (with_reducible refine (cI _).mono ?_); rintro e w5 ⟨rfl, hb5⟩; have HBc := Lib.hid (below_next HBu.out hb5); have HOc := Lib.hid (HOu.out.step hb5); have HRc := Lib.hid ((hb5.block _ (lt_of_block HRu.out)).trans HRu.out); have ck5 := (Lib.cell_of_heap HRc.out j).trans (HCU.out j r HJ.out); obtain ⟨aoc, cac, hfo⟩ := HOc.out.form; clear hb5 hfo))
              go_roundw
              case rel => exact ⟨j + 1, by omega, by go_num, (by first | (rw [HS2.out]; rfl) | rw [HS2.out]), (by show OwnS _ _ _ _; rw [HS2.out]; exact HOc.out), HRc.out, HBc.out⟩
              case measure => simp [RowKit.intOf]; omega
          · have hje : j = rs.length := by omega
            subst hje
            have hS := HS.out
            have hln := HCR.out rs.length
            clear HS HCR HCS HC0
            generalize cutRun o1 rs rs.length = st at HO hS hln
            obtain ⟨oj, row⟩ := st
            dsimp only at HO hS hln
            have hoj : oj.length ≤ 200000 := by omega
            obtain ⟨aoj, caj, hfj⟩ := HO.out.form
            subst hfj
            obtain ⟨E, hE⟩ : ∃ E, row.toList.isEmpty = E := ⟨_, rfl⟩
            have hEb : isE row = E := hE
            unfold rowEnd at hS
            rw [hEb] at hS
            clear hEb hln
            cases E
            · simp only [Bool.false_eq_true, if_false] at hS
              have HS2 := Lib.hid hS
              have hown := HO.out
              unfold OwnS at hown
              have hszc := HB2.out.size
              clear hS
              go_wp2_with (first
                | (at_builtin; refine wpList_append_own _ rfl _ _ 36 rfl w.heap.size 9 i0 (.string ⟨#[]⟩) 1 16 Tryz.underlying36 hi hz0 hz1 hz2 rfl (by decide) _ _ _ rfl (hown.alloc (.cells #[.string row] 9)) _ 1 1 [.string row] rfl rfl (cell_new1 _ _ _) (fun x hx => by simp at hx; subst hx; rfl) (by unfold maxLen; omega) (by omega) (by simp; omega) ?_; intro v6 w6 hown6 hgrow6 hnil6; have HB6 := Lib.hid ((HB2.out.alloc hszc (.cells #[.string row] 9)).grown hgrow6 (by simp; omega) (fun k hk => (hown.lt k hk).1)); have HO6 := Lib.hid (show OwnS w.heap.size v6 (oj ++ [row]) w6 by unfold OwnS; rw [List.length_append, List.map_append]; exact hown6); clear hown hown6 hgrow6 hnil6 hszc))
              go_roundw
              case rel => exact ⟨k + 1, by omega, by go_num, (by show OwnS _ _ _ _; rw [HS2.out]; exact HO6.out), HB6.out⟩
              case measure => simp [RowKit.intOf]; omega
            · simp only [if_true, List.append_nil] at hS
              have HS2 := Lib.hid hS
              clear hS
              go_wp2
              go_roundw
              case rel => exact ⟨k + 1, by omega, by go_num, (by show OwnS _ _ _ _; rw [HS2.out]; exact HO.out), HB2.out⟩
              case measure => simp [RowKit.intOf]; omega
      · have h1b : (x.k == 1) = false := by simpa using h1
        have h1c : (x.k != 1) = true := by simpa using h1
        have hS1 : cutTo l (k + 1) = o1 ++ [bytes (wB x)] := by rw [hS]; unfold cutPc; rw [if_neg h1]
        have HS := Lib.hid hS1
        have cM := written_any x wr (by omega) hvx
        unfold pcV at cM
        clear hS hS1 h1
        go_wp2_with (first
          | (go_at_call 64; (with_reducible refine cM.mono ?_); rintro e w3 ⟨rfl, hb3⟩; have HB3 := Lib.hid (below_next HB.out hb3); have HK3 := Lib.hid (HK.out.step hb3); clear hb3; have hown := HK3.out; unfold OwnS at hown; have hsz3 := HB3.out.size)
          | (at_builtin; refine wpList_append_own _ rfl _ _ 36 rfl w.heap.size 9 i0 (.string ⟨#[]⟩) 1 16 Tryz.underlying36 hi hz0 hz1 hz2 rfl (by decide) _ _ _ rfl (hown.alloc _) ⟨w3.heap.size, 0, none⟩ 1 1 [.string (bytes (wB x))] rfl rfl (cell_new1 _ _ _) (fun x hx => by simp at hx; subst hx; rfl) (by unfold maxLen; omega) (by omega) (by simp; omega) ?_; intro v4 w4 hown4 hgrow4 hnil4
             have HB4 := Lib.hid ((HB3.out.alloc HB3.out.size (.cells #[.string (bytes (wB x))] 9)).grown hgrow4 (by simp; omega) (fun k hk => (hown.lt k hk).1))
             have HK4 := Lib.hid (show OwnS w.heap.size v4 (o1 ++ [bytes (wB x)]) w4 by unfold OwnS; rw [List.length_append, List.map_append]; exact hown4)
             clear hown hown4 hgrow4 hnil4))
        go_roundw
        case rel => exact ⟨k + 1, by omega, by go_num, (by show OwnS _ _ _ _; rw [HS.out]; exact HK4.out), HB4.out⟩
        case measure => simp [RowKit.intOf]; omega
    · have hkl : k = l.length := by omega
      have HK2 := Lib.hid (show OwnS w.heap.size _ (cutL l) wr by unfold cutL; rw [← hkl]; exact HK.out)
      go_wp2
      go_ret
      exact ⟨⟨_, rfl, HK2.out⟩, HB.out⟩
end Go.Proofs.YtnbeomclmggbiaaGreatDoor
namespace Go.Proofs.YtnbeomclmggbiaaGreatDoor
open Go Go.RowKit Go.Lib
set_option maxRecDepth 100000
def cutE (l : List Pc) : Int := if checkE l = 0 then (if 512 < (cutL l).length then 3 else 0) else checkE l
def cutW (l : List Pc) : List ByteArray := if cutE l = 0 then cutL l else []
theorem cutE_bad {l : List Pc} (h : checkE l ≠ 0) : cutE l = checkE l ∧ cutW l = [] := by
  have e : cutE l = checkE l := by unfold cutE; rw [if_neg h]
  exact ⟨e, by unfold cutW; rw [e, if_neg h]⟩
theorem cutE_long {l : List Pc} (h : checkE l = 0) (hl : 512 < (cutL l).length) : cutE l = 3 ∧ cutW l = [] := by
  have e : cutE l = 3 := by unfold cutE; rw [if_pos h, if_pos hl]
  exact ⟨e, by unfold cutW; rw [e]; rfl⟩
theorem cutE_fine {l : List Pc} (h : checkE l = 0) (hl : ¬ 512 < (cutL l).length) : cutE l = 0 ∧ cutW l = cutL l := by
  have e : cutE l = 0 := by unfold cutE; rw [if_pos h, if_neg hl]
  exact ⟨e, by unfold cutW; rw [e]; rfl⟩
/-- what Words returns -/
def WordsEnd (B : Nat) (l : List Pc) (e : Ending) (w' : World) : Prop := ∃ v, e = .returned (.tuple #[v, .int .u8 (cutE l)]) ∧ OwnS B v (cutW l) w'
set_option maxHeartbeats 8000000 in
theorem refWords_any (l : List Pc) (v : Value) (w : World) (hv : PcsAt w v l) (hb : bulk l ≤ 10000) (hlen : ∀ k, k ≤ l.length → (cutTo l k).length ≤ 100000) :
    Calls Tryz.prog 20 #[v] w fun e w' => WordsEnd w.heap.size l e w' ∧ Below w.heap.size w w' := by
  have cC := refCheck_any l v w hv (by omega)
  have HV := Lib.hid hv
  obtain ⟨ao, ca, rfl⟩ := pcs_form hv
  clear hv
  by_cases h0 : checkE l = 0
  · have cS := fun w2 (h : Below w.heap.size w w2) => refCut_any l _ w2 (((HV.out : PcsAt w _ l).below h).mono h.size) (all_valid h0) hb hlen
    rw [h0] at cC
    by_cases hl : 512 < (cutL l).length
    · have hlI : (512 : Int) < ((cutL l).length : Int) := by omega
      have HX := Lib.hid (cutE_long h0 hl)
      clear hl h0
      go_enter Tryz.func20, Tryz.ntmps20
      go_wp2_with (first
        | (go_at_call 31; (with_reducible refine cC.mono ?_); rintro e w2 ⟨rfl, hb2⟩; have HB2 := Lib.hid hb2; clear hb2)
        | (go_at_call 53; (with_reducible refine (cS _ HB2.out).mono ?_); rintro e w3 ⟨⟨u, rfl, hO⟩, hb3⟩; have HB3 := Lib.hid (below_next HB2.out hb3); obtain ⟨ao3, ca3, rfl⟩ := hO.form; clear hb3 hO))
      go_ret2
      exact ⟨⟨.slice none 0 0, by rw [HX.out.1]; rfl, by rw [HX.out.2]; exact World.ownsRow_nil _ _ _ _⟩, HB3.out⟩
    · have hlI : ¬ (512 : Int) < ((cutL l).length : Int) := by omega
      have HX := Lib.hid (cutE_fine h0 hl)
      clear hl h0
      go_enter Tryz.func20, Tryz.ntmps20
      go_wp2_with (first
        | (go_at_call 31; (with_reducible refine cC.mono ?_); rintro e w2 ⟨rfl, hb2⟩; have HB2 := Lib.hid hb2; clear hb2)
        | (go_at_call 53; (with_reducible refine (cS _ HB2.out).mono ?_); rintro e w3 ⟨⟨u, rfl, hO⟩, hb3⟩; have HB3 := Lib.hid (below_next HB2.out hb3); obtain ⟨ao3, ca3, rfl⟩ := hO.form; have HO := Lib.hid (show OwnS w.heap.size _ (cutL l) w3 from ⟨hO.1, hO.2.imp id fun ⟨g, cap, cur, e, hg, r⟩ => ⟨g, cap, cur, e, Nat.le_trans HB2.out.size hg, r⟩⟩); clear hb3 hO))
      go_ret2
      exact ⟨⟨_, by rw [HX.out.1]; rfl, by rw [HX.out.2]; exact HO.out⟩, HB3.out⟩
  · obtain ⟨Z, hZ⟩ : ∃ Z, checkE l = Z := ⟨_, rfl⟩
    have HX := Lib.hid (cutE_bad h0)
    rw [hZ] at cC h0
    have HZ := Lib.hid hZ
    have hz : (Z == 0) = false := by simpa using h0
    clear hZ h0
    go_enter Tryz.func20, Tryz.ntmps20
    go_wp2_with (go_at_call 31; (with_reducible refine cC.mono ?_); rintro e w2 ⟨rfl, hb2⟩; have HB2 := Lib.hid hb2; clear hb2)
    go_ret2
    exact ⟨⟨.slice none 0 0, by rw [HX.out.1, HZ.out]; rfl, by rw [HX.out.2]; exact World.ownsRow_nil _ _ _ _⟩, HB2.out⟩
end Go.Proofs.YtnbeomclmggbiaaGreatDoor
namespace Go.Proofs.YtnbeomclmggbiaaGreatDoor
open Go Go.RowKit Go.Lib
set_option maxRecDepth 100000
/-- what is told from a place on, a row having begun at another one -/
def restW (s : ByteArray) : Nat → Nat → Nat → List ByteArray
  | 0, row, _ => rowEnd (s.extract row s.size)
  | f + 1, row, pos =>
    if pos < s.size then
      (if inN (Utf8.decode s pos).1 = true then restW s f row (pos + (Utf8.decode s pos).2)
       else rowEnd (s.extract row pos) ++ ((if (Utf8.decode s pos).1 = 32 then [] else [s.extract pos (pos + 1)]) ++ restW s f (pos + 1) (pos + 1)))
    else rowEnd (s.extract row s.size)
theorem restW_in {s : ByteArray} {f row pos : Nat} (hp : pos < s.size) (h : inN (Utf8.decode s pos).1 = true) : restW s (f + 1) row pos = restW s f row (pos + (Utf8.decode s pos).2) := by
  simp only [restW, if_pos hp, if_pos h]
theorem restW_out {s : ByteArray} {f row pos : Nat} (hp : pos < s.size) (h : inN (Utf8.decode s pos).1 = false) : restW s (f + 1) row pos = rowEnd (s.extract row pos) ++ ((if (Utf8.decode s pos).1 = 32 then [] else [s.extract pos (pos + 1)]) ++ restW s f (pos + 1) (pos + 1)) := by
  simp only [restW, if_pos hp, h, Bool.false_eq_true, if_false]
theorem restW_end {s : ByteArray} {f row pos : Nat} (hp : ¬ pos < s.size) : restW s f row pos = rowEnd (s.extract row s.size) := by
  cases f with
  | zero => rfl
  | succ f => simp only [restW, if_neg hp]
theorem isE_ext {s : ByteArray} {a b : Nat} (hb : b ≤ s.size) : isE (s.extract a b) = decide (b ≤ a) := by
  unfold isE
  rw [ByteArray.toList_eq]
  have e : (s.extract a b).data.toList.length = min b s.size - a := by
    rw [bytes_len, ByteArray.size_extract]
  rw [Bool.eq_iff_iff, List.isEmpty_iff_length_eq_zero, e, decide_eq_true_iff]
  omega
theorem rowEnd_none {s : ByteArray} {a b : Nat} (hb : b ≤ s.size) (h : ¬ a < b) : rowEnd (s.extract a b) = [] := by
  unfold rowEnd
  rw [isE_ext hb, if_pos (by simp; omega)]
theorem rowEnd_some {s : ByteArray} {a b : Nat} (hb : b ≤ s.size) (h : a < b) : rowEnd (s.extract a b) = [s.extract a b] := by
  unfold rowEnd
  rw [isE_ext hb, if_neg (by simp; omega)]
theorem narrowN (n b0 b1 b2 b3 : Nat) (p : Nat × Nat) (hp : p = decodeN n b0 b1 b2 b3) (h : p.1 < 128) : p.2 = 1 := by
  unfold decodeN at hp
  by_cases c0 : b0 < 128
  · rw [if_pos c0] at hp
    subst hp; rfl
  · rw [if_neg c0] at hp
    split at hp
    · split at hp
      · subst hp; simp only at h; omega
      · subst hp; rfl
    · split at hp
      · split at hp
        · subst hp; simp only at h; omega
        · subst hp; rfl
      · split at hp
        · split at hp
          · subst hp; simp only at h; omega
          · subst hp; rfl
        · subst hp; rfl
theorem narrow {s : ByteArray} {pos : Nat} (h : (Utf8.decode s pos).1 < 128) : (Utf8.decode s pos).2 = 1 := narrowN _ _ _ _ _ _ (decode_at s pos) h
theorem inN_small {r : Nat} (h : inN r = false) : r < 128 := by
  unfold inN letN at h
  simp at h
  omega
theorem enc_ext {s : ByteArray} {pos : Nat} (hp : pos < s.size) (ht : textL (s.data.toList.drop pos) = true) :
    Utf8.encode ((Utf8.decode s pos).1 : Int) = s.extract pos (pos + (Utf8.decode s pos).2) ∧ textL (s.data.toList.drop (pos + (Utf8.decode s pos).2)) = true ∧ ctl (Utf8.decode s pos).1 = false ∧ pos + (Utf8.decode s pos).2 ≤ s.size := by
  have hne : s.data.toList.drop pos ≠ [] := by
    intro h
    have := congrArg List.length h
    rw [List.length_drop, bytes_len] at this
    simp at this; omega
  rw [textL_step _ hne] at ht
  simp only [Bool.and_eq_true, Bool.not_eq_true', decide_eq_false_iff_not] at ht
  obtain ⟨⟨h1, h2⟩, h3⟩ := ht
  have hle := decodeL_le _ hne
  have hr := roundtrip _ hne h1
  rw [decodeL_drop] at h2 h3 hle hr
  rw [List.drop_drop] at h3
  rw [List.length_drop, bytes_len] at hle
  refine ⟨?_, h3, h2, by omega⟩
  apply ByteArray.ext
  apply Array.ext'
  rw [hr, ByteArray.data_extract, Array.toList_extract, List.extract_eq_take_drop, Nat.add_sub_cancel_left]
theorem ext_app {s : ByteArray} {a b c : Nat} (h1 : a ≤ b) (h2 : b ≤ c) : s.extract a b ++ s.extract b c = s.extract a c := by
  rw [ByteArray.extract_append_extract, Nat.min_eq_left h1, Nat.max_eq_right h2]
theorem ext_nil {s : ByteArray} {a : Nat} : s.extract a a = ByteArray.empty := by
  apply ByteArray.ext
  simp
theorem cutRest (s : ByteArray) : ∀ (f row pos : Nat) (out : List ByteArray), row ≤ pos → pos ≤ s.size → s.size ≤ pos + f → textL (s.data.toList.drop pos) = true →
    ((runesG f (s.data.toList.drop pos)).foldl cutStep (out, s.extract row pos)).1 ++ rowEnd ((runesG f (s.data.toList.drop pos)).foldl cutStep (out, s.extract row pos)).2 = out ++ restW s f row pos
  | 0, row, pos, out, h1, h2, h3, _ => by
    have e : pos = s.size := by omega
    subst e
    simp only [runesG, List.foldl_nil, restW]
  | f + 1, row, pos, out, h1, h2, h3, ht => by
    by_cases hp : pos < s.size
    · have hne : s.data.toList.drop pos ≠ [] := by
        intro h
        have := congrArg List.length h
        rw [List.length_drop, bytes_len] at this
        simp at this; omega
      obtain ⟨e1, e2, e3, e4⟩ := enc_ext hp ht
      have hw := width_pos s pos
      simp only [runesG, if_neg hne, List.foldl_cons, decodeL_drop, List.drop_drop]
      cases hi : inN (Utf8.decode s pos).1
      · have hs := narrow (inN_small hi)
        rw [restW_out hp hi]
        unfold cutStep
        rw [hi, e1, hs]
        rw [hs] at e2 e4
        simp only [Bool.false_eq_true, if_false]
        have ih := cutRest s f (pos + 1) (pos + 1) (out ++ rowEnd (s.extract row pos) ++ (if (Utf8.decode s pos).1 = 32 then [] else [s.extract pos (pos + 1)])) (Nat.le_refl _) e4 (by omega) e2
        rw [ext_nil] at ih
        unfold cutStep at ih
        rw [ih]
        simp only [List.append_assoc]
      · rw [restW_in hp hi]
        unfold cutStep
        rw [hi, e1]
        simp only [if_true]
        rw [ext_app h1 (by omega)]
        have ih := cutRest s f row (pos + (Utf8.decode s pos).2) out (by omega) e4 (by omega) e2
        unfold cutStep at ih
        exact ih
    · have e : pos = s.size := by omega
      subst e
      have hz : s.data.toList.drop s.size = [] := by
        apply List.drop_eq_nil_of_le
        rw [bytes_len]; omega
      rw [hz, restW_end (by omega)]
      simp only [runesG, if_true, List.foldl_nil]
/-- the words of a piece -/
def wordsP (x : Pc) : List ByteArray := if x.k = 1 then restW x.s x.s.size 0 0 else [bytes (wB x)]
theorem cutPc_app (out : List ByteArray) (x : Pc) (h : x.k = 1 → textB x.s = true) : cutPc out x = out ++ wordsP x := by
  unfold cutPc wordsP
  by_cases h1 : x.k = 1
  · rw [if_pos h1, if_pos h1]
    have ht := h h1
    rw [textB_L] at ht
    have e := cutRest x.s x.s.size 0 0 out (Nat.le_refl _) (Nat.zero_le _) (by omega) (by rw [List.drop_zero]; exact ht)
    rw [List.drop_zero, ext_nil] at e
    unfold cutRun
    rw [List.take_length]
    exact e
  · rw [if_neg h1, if_neg h1]
end Go.Proofs.YtnbeomclmggbiaaGreatDoor
