/- Cut by the specification. whether one of the parts is too long, by the program. -/
import Derived.Test.YtnkpjkomokkhcaaGreatDoorGlD
namespace Go.Proofs.YtnkpjkomokkhcaaGreatDoor
open Go Go.RowKit Go.Lib
set_option maxRecDepth 100000
theorem own_form {w : World} {B sz n : Nat} {e : TypeId} {v : Value} {xs : List Value} (h : w.ownsRow B e sz v n xs) : ∃ ao cap, v = .slice ao n cap := by
  rcases h.2 with ⟨hv, h0⟩ | ⟨g, cap, cur, hv, _⟩
  · subst h0
    exact ⟨none, 0, hv⟩
  · exact ⟨_, _, hv⟩
theorem own_some {w : World} {B : Nat} {v : Value} {l : List ByteArray} (h : OwnS B v l w) (hl : l ≠ []) : ∃ g cap, v = .slice (some ⟨g, 0, none⟩) l.length cap := by
  rcases h.2 with ⟨hv, h0⟩ | ⟨g, cap, cur, hv, _⟩
  · exact absurd (List.eq_nil_of_length_eq_zero h0) hl
  · exact ⟨_, _, hv⟩
theorem own_cap {w : World} {B : Nat} {p : Option Addr} {n cap : Nat} {l : List ByteArray} (h : OwnS B (.slice p n cap) l w) : l.length ≤ cap ∧ cap ≤ maxLen := by
  rcases h.2 with ⟨hv, h0⟩ | ⟨g, cap', cur, hv, _, _, h1, h2, _⟩
  · simp only [Value.slice.injEq] at hv
    obtain ⟨_, _, rfl⟩ := hv
    rw [h0]
    exact ⟨Nat.le_refl _, Nat.zero_le _⟩
  · simp only [Value.slice.injEq] at hv
    obtain ⟨_, _, rfl⟩ := hv
    exact ⟨h1, h2⟩
theorem info_pcl : (Tryz.prog.info? 22).map (fun i => (i.zero, i.size, i.bytes)) = some (some (.slice none 0 0), 1, 24) := by kernel_rfl
theorem closers_len (o : List ByteArray) : (closersP o).length = o.length := by unfold closersP; simp
theorem openers_len (o : List ByteArray) : (openersP o).length = o.length := by unfold openersP; simp
theorem closers_succ {o : List ByteArray} {j : Nat} (h : j < o.length) : (closersP o).take (j + 1) = (closersP o).take j ++ [⟨3, o.getD (o.length - 1 - j) ByteArray.empty, true⟩] := by
  rw [List.take_add_one]
  congr 1
  unfold closersP
  rw [List.getElem?_map, List.getElem?_reverse h, List.getD_eq_getElem?_getD, List.getElem?_eq_getElem (by omega)]
  rfl
theorem openers_succ {o : List ByteArray} {j : Nat} (h : j < o.length) : (openersP o).take (j + 1) = (openersP o).take j ++ [⟨2, o.getD j ByteArray.empty, true⟩] := by
  rw [List.take_add_one]
  congr 1
  unfold openersP
  rw [List.getElem?_map, List.getD_eq_getElem?_getD, List.getElem?_eq_getElem h]
  rfl
theorem long_yes {Q : List (List Pc)} {j : Nat} (hj : j < Q.length) (h : 512 < (Q.getD j []).length) : longAny Q = true := by
  unfold longAny
  rw [List.any_eq_true]
  refine ⟨Q.getD j [], ?_, decide_eq_true h⟩
  rw [List.getD_eq_getElem?_getD, List.getElem?_eq_getElem hj]
  exact List.getElem_mem hj
theorem long_no {Q : List (List Pc)} (h : ∀ t, t < Q.length → ¬ 512 < (Q.getD t []).length) : longAny Q = false := by
  unfold longAny
  rw [List.any_eq_false]
  intro x hx
  obtain ⟨i, hi, rfl⟩ := List.getElem_of_mem hx
  have h1 := h i hi
  rw [List.getD_eq_getElem?_getD, List.getElem?_eq_getElem hi] at h1
  simpa using h1
theorem cut_unit {at' : List Int} {S : List Pc} : ∀ k, k ≤ S.length → (cutRunP at' S k).unit ≤ k := by
  intro k
  induction k with
  | zero => intro _; exact Nat.le_refl _
  | succ k ih =>
    intro hk
    have h1 := ih (by omega)
    rw [cutRunP_succ (by omega)]
    show cutUn _ _ ≤ _
    unfold cutUn
    split <;> omega
set_option maxHeartbeats 64000000 in
theorem refCut_any (l : List Pc) (at' : List Int) (u v : Value) (w : World) (hu : PcsAt w u l) (hv : IntsAt w v at') (hb : bulk l ≤ 2500) (hn : at'.length ≤ 30) :
    Calls Tryz.prog 10 #[u, v] w fun e w' => (∃ x, e = .returned (.tuple #[x, .int .u8 (ctE l at')]) ∧ PtsAt w' x (ctR l at')) ∧ Below w.heap.size w w' := by
  have cU := refUnits_any l u w hu (by omega)
  have HV := Lib.hid hv
  obtain ⟨p, cap, rfl, hlc, hcm⟩ := hv.form
  unfold maxLen at hcm
  clear hv
  obtain ⟨i0, hi, hz0, hz1, hz2⟩ := info_parts info_str
  have ag := Tryz.isAgg52
  have zg := Tryz.sizeOf52
  have HCE : Hid (ctE l at' = if checkE l ≠ 0 then checkE l else if cutsB (nUnits l) 0 at' = false then 1 else if longAny (cutPs at' (singleL l)) = true then 3 else 0) := rfl
  have HCR : Hid (ctR l at' = if ctE l at' = 0 then cutPs at' (singleL l) else []) := rfl
  by_cases hE : checkE l ≠ 0
  · have h1 : ctE l at' = checkE l := by rw [HCE.out, if_pos hE]
    have h2 : ctR l at' = [] := by rw [HCR.out, if_neg (by rw [h1]; exact hE)]
    rw [h1, h2]
    generalize checkE l = Z at cU hE
    have hz : (Z != 0) = true := by simpa using hE
    go_enter Tryz.func10, Tryz.ntmps10
    go_wp2_with (go_at_call 14; (with_reducible refine cU.mono ?_); rintro e w1 ⟨rfl, hb1⟩)
    go_ret2
    exact ⟨⟨_, rfl, pts_nil _⟩, hb1⟩
  have hE : checkE l = 0 := Decidable.not_not.1 hE
  rw [if_neg (by rw [hE]; simp)] at HCE
  have HOK := Lib.hid (ok_single hE)
  rw [show unE l = nUnits l by unfold unE; rw [if_pos hE], hE] at cU
  have hnu : nUnits l ≤ 2500 := Nat.le_trans (sum_un l) hb
  have cS := fun w1 (h1 : Below w.heap.size w w1) => refSingle_any l u w1 (hu.step h1) (by omega)
  have hsb := single_bulk l
  generalize nUnits l = n at cU hnu HCE
  generalize singleL l = S at cS hsb HCE HCR HOK
  clear hE hu
  go_enter Tryz.func10, Tryz.ntmps10
  go_wp2_with (go_at_call 14; (with_reducible refine cU.mono ?_); rintro e w1 ⟨rfl, hb1⟩; have HB1 := Lib.hid hb1; clear hb1)
  go_loopw [8] (fun i wr => ∃ (k : Nat) (last : Int), k ≤ at'.length ∧ i = .int .i64 k ∧ Hid (cutsB n 0 at' = cutsB n last (at'.drop k)) ∧ Hid (k = 0 → last = 0) ∧ Hid (0 < k → last = at'.getD (k - 1) 0 ∧ 0 < last) ∧ Hid (Below w1.heap.size w1 wr)) (fun i _ => at'.length - (RowKit.intOf i).toNat)
  case atStart => exact ⟨0, 0, Nat.zero_le _, rfl, rfl, fun _ => rfl, fun h => absurd h (Nat.lt_irrefl _), Below.refl _ _⟩
  case round =>
    obtain ⟨k, last, hk, rfl, HC, HL0, HL1, HB⟩ := hrel
    by_cases hlt : k < at'.length
    · have HR0 := Lib.hid (fun (h : cutsB n last (at'.drop k) = false) => show ctE l at' = 1 ∧ ctR l at' = [] by
        have h1 : ctE l at' = 1 := by rw [HCE.out, if_pos (HC.out.trans h)]
        exact ⟨h1, by rw [HCR.out, if_neg (by rw [h1]; decide)]⟩)
      have HW := Lib.hid (below_next HB1.out HB.out)
      obtain ⟨A, rfl, x0⟩ := HV.out.cell HW.out hlt
      have hki : (k : Int) < (at'.length : Int) := by omega
      have hk0 : (0 : Int) ≤ (k : Int) := by omega
      have hn1 : IntKind.i64.wrap ((n : Int) - 1) = (n : Int) - 1 := by rw [IntKind.wrap_i64] <;> omega
      by_cases h1 : at'.getD k 0 < 1
      · have HR := Lib.hid (HR0.out (cuts_no hlt (.inl (by
          rcases Nat.eq_zero_or_pos k with h | h
          · have := HL0.out h; omega
          · have := (HL1.out h).2; omega))))
        generalize at'.getD k 0 = x at x0 h1
        have d1 := decide_eq_true h1
        go_wp2
        go_quiet (fail)
        go_wp2
        go_ret2
        exact ⟨⟨.slice none 0 0, by rw [HR.out.1]; rfl, by rw [HR.out.2]; exact pts_nil _⟩, below_next HB1.out (below_next HB.out (bdN _ _))⟩
      · by_cases h2 : (n : Int) - 1 < at'.getD k 0
        · have HR := Lib.hid (HR0.out (cuts_no hlt (.inr (by omega))))
          generalize at'.getD k 0 = x at x0 h1 h2
          have d1 := decide_eq_false h1
          have d2 := decide_eq_true h2
          go_wp2
          go_quiet (fail)
          go_wp2
          go_ret2
          exact ⟨⟨.slice none 0 0, by rw [HR.out.1]; rfl, by rw [HR.out.2]; exact pts_nil _⟩, below_next HB1.out (below_next HB.out (bdN _ _))⟩
        · by_cases hk1 : 0 < k
          · have hk1i : (0 : Int) < (k : Int) := by omega
            obtain ⟨A2, e2, y0⟩ := HV.out.cell HW.out (i := k - 1) (by omega)
            obtain rfl : A = A2 := by simpa using e2
            have hq : (k : Int) - 1 = ((k - 1 : Nat) : Int) := by omega
            have hn2 : IntKind.i64.wrap ((k : Int) - 1) = ((k - 1 : Nat) : Int) := by rw [IntKind.wrap_i64] <;> omega
            have hj1 : (0 : Int) ≤ ((k - 1 : Nat) : Int) := by omega
            have hj2 : ((k - 1 : Nat) : Int) < (at'.length : Int) := by omega
            obtain ⟨rfl, hl0⟩ := HL1.out hk1
            by_cases h3 : at'.getD k 0 ≤ at'.getD (k - 1) 0
            · have HR := Lib.hid (HR0.out (cuts_no hlt (.inl h3)))
              generalize at'.getD k 0 = x at x0 h1 h2 h3
              generalize at'.getD (k - 1) 0 = y at y0 h3
              have d1 := decide_eq_false h1
              have d2 := decide_eq_false h2
              have d3 := decide_eq_true h3
              have d4 := decide_eq_true hk1i
              go_wp2
              go_quiet (fail)
              go_wp2
              go_ret2
              exact ⟨⟨.slice none 0 0, by rw [HR.out.1]; rfl, by rw [HR.out.2]; exact pts_nil _⟩, below_next HB1.out (below_next HB.out (bdN _ _))⟩
            · have HG := Lib.hid (HC.out.trans (cuts_go hlt h3 (by omega)))
              have HX : Hid (at'.getD k 0 = at'.getD (k + 1 - 1) 0 ∧ 0 < at'.getD k 0) := ⟨by rw [Nat.add_sub_cancel], by omega⟩
              generalize at'.getD k 0 = x at x0 h1 h2 h3 HG HX
              generalize at'.getD (k - 1) 0 = y at y0 h3
              have d1 := decide_eq_false h1
              have d2 := decide_eq_false h2
              have d3 := decide_eq_false h3
              have d4 := decide_eq_true hk1i
              go_wp2
              go_quiet (fail)
              go_wp2
              go_roundw
              case rel => exact ⟨k + 1, x, hlt, by go_num, HG.out, fun h => by omega, fun _ => HX.out, below_next HB.out (bdN _ _)⟩
              case measure => simp [RowKit.intOf] <;> omega
          · have hk00 : k = 0 := by omega
            obtain rfl : last = 0 := HL0.out hk00
            have hk1i : ¬ (0 : Int) < (k : Int) := by omega
            have HG := Lib.hid (HC.out.trans (cuts_go hlt (by omega) (by omega)))
            have HX : Hid (at'.getD k 0 = at'.getD (k + 1 - 1) 0 ∧ 0 < at'.getD k 0) := ⟨by rw [Nat.add_sub_cancel], by omega⟩
            generalize at'.getD k 0 = x at x0 h1 h2 HG HX
            have d1 := decide_eq_false h1
            have d2 := decide_eq_false h2
            have d4 := decide_eq_false hk1i
            clear hk00
            go_wp2
            go_quiet (fail)
            go_wp2
            go_roundw
            case rel => exact ⟨k + 1, x, hlt, by go_num, HG.out, fun h => by omega, fun _ => HX.out, below_next HB.out (bdN _ _)⟩
            case measure => simp [RowKit.intOf] <;> omega
    · obtain rfl : k = at'.length := by omega
      have hki : ¬ (at'.length : Int) < (at'.length : Int) := by omega
      rw [HC.out, cuts_end] at HCE
      rw [if_neg (by simp)] at HCE
      have cS1 := cS _ (below_next HB1.out HB.out)
      go_wp2_with (go_at_call 42; (with_reducible refine cS1.mono ?_); rintro e w2 ⟨⟨sv, rfl, hs2⟩, hb2⟩; have HB2 := Lib.hid (below_next (below_next HB1.out HB.out) hb2); have HSV := Lib.hid hs2.at; clear hs2 hb2)
      obtain ⟨ps, cs, rfl, hsl, hsc, hsrow⟩ := id HSV.out
      unfold maxLen at hsc
      have HSR := Lib.hid hsrow
      have hSl := len_bulk S
      have HVW := Lib.hid (HV.out.step HB2.out)
      clear hsrow
      go_loopw [10, 11, 12, 13, 14] (fun out part opn un i wr => ∃ (k Bp : Nat) (us : List Value) (st : Cs), k ≤ S.length ∧ i = .int .i64 k ∧ un = .int .i64 st.unit ∧ Hid (st = cutRunP at' S k) ∧ Hid (CutMem w2.heap.size Bp us out part opn st.out st.part st.opn wr) ∧ Hid (Below w2.heap.size w2 wr)) (fun _ _ _ _ i _ => S.length - (RowKit.intOf i).toNat)
      case atStart => exact ⟨0, w2.heap.size, [], cs0, Nat.zero_le _, rfl, rfl, rfl, CutMem.init, Below.refl _ _⟩
      case round =>
        clear HB HL0 HL1 HC hki
        obtain ⟨k, Bp, us, st, hk, rfl, rfl, HST, HM, HB⟩ := hrel
        by_cases hlt : k < S.length
        · obtain ⟨AS, rfl, hAS, hcell⟩ := HSR.out (by omega)
          obtain ⟨x0, x1, x2⟩ := pcs_cells hAS hcell hlt HB.out
          have HX := Lib.hid (fun (w' : World) (h' : Below w2.heap.size w2 w') => pcs_cells hAS hcell hlt h')
          have hki : (k : Int) < (S.length : Int) := by omega
          have hk0 : (0 : Int) ≤ (k : Int) := by omega
          have hsx := bulk_getD hlt
          have hok := okS_get HOK.out k hlt
          rw [← run_opnP at' S k (by omega), ← HST.out] at hok
          have hsm := cut_small (at' := at') (S := S) k (by omega)
          rw [← HST.out] at hsm
          have hbt := bulk_take S k
          have hou := cut_outs (at' := at') (S := S) k (by omega)
          rw [← HST.out] at hou
          have hun := cut_unit (at' := at') (S := S) k (by omega)
          rw [← HST.out] at hun
          have hnx := cutRunP_succ (at' := at') hlt
          rw [← HST.out] at hnx
          clear hcell HST
          generalize S.getD k nil = x at x0 x1 x2 HX hsx hok hnx
          obtain ⟨xk, xs, xc⟩ := x
          obtain ⟨o, p, op, un⟩ := st
          dsimp only at x0 x1 x2 HX hsx hok hsm hou hun HM
          obtain ⟨ao, ca, rfl⟩ := own_form HM.out.row
          obtain ⟨ap, cp, rfl⟩ := HM.out.prt.form
          obtain ⟨an, cn, rfl⟩ := HM.out.opn.form
          have hlp := len_bulk p
          have HLO := Lib.hid (show ∀ q : List Pc, bulk q ≤ 60000 → ∀ y ∈ q, y.s.size + xs.size ≤ 1000000000 from fun q hq y hy => by have := mem_bulk hy; omega)
          have hO3 := hok.1
          have HO3 := Lib.hid hO3
          have hol := hok.2
          clear hO3 hok
          by_cases hc1 : o.length < at'.length
          · have hoi : (o.length : Int) < (at'.length : Int) := by omega
            have ho0 : (0 : Int) ≤ (o.length : Int) := by omega
            obtain ⟨AT, rfl, z0⟩ := HVW.out.cell HB.out hc1
            by_cases hcu : (un : Int) = at'.getD o.length 0
            · have hcub : ((un : Int) == at'.getD o.length 0) = true := by simpa using hcu
              by_cases h3 : xk = 3
              · subst h3
                have HNX := Lib.hid (fun op2 un2 (e1 : cutOpn op ⟨3, xs, xc⟩ = op2) (e2 : cutUn un ⟨3, xs, xc⟩ = un2) => show cutRunP at' S (k + 1) = ⟨o, addP p ⟨3, xs, xc⟩, op2, un2⟩ by
                  rw [hnx]
                  unfold cutStepP
                  have : cutPre at' ⟨o, p, op, un⟩ ⟨3, xs, xc⟩ = ⟨o, p, op, un⟩ := by
                    unfold cutPre
                    rw [if_neg (by unfold cutHere; dsimp only; simp)]
                  rw [this]
                  dsimp only
                  rw [e1, e2])
                have cX := fun Bq v' w' (hO : OwnP Bq v' p w') (hB : Bq ≤ w'.heap.size) => refAdd_any Bq p ⟨3, xs, xc⟩ v' w' hO hB (by omega) (HLO.out p (by omega))
                unfold pcV at cX
                dsimp only at cX
                clear hnx
                generalize at'.getD o.length 0 = zz at z0 hcub
                clear hcu
                obtain ⟨op', y, rfl⟩ : ∃ op' y, op = op' ++ [y] := by
                  rcases List.eq_nil_or_concat op with h | ⟨a, b, h⟩
                  · exact absurd h (HO3.out rfl)
                  · exact ⟨a, b, by rw [h, List.concat_eq_append]⟩
                obtain ⟨g, ca2, hg⟩ := own_some HM.out.opn (by simp)
                simp only [Value.slice.injEq] at hg
                obtain ⟨rfl, -, rfl⟩ := hg
                have HM4 := Lib.hid (HM.out.setOpn (pop_row (x := y) (by have h := HM.out.opn; unfold OwnS at h; simpa using h)))
                have HB4 := Lib.hid HB.out
                have HN := Lib.hid (HNX.out op' un (by unfold cutOpn; rw [if_neg (by simp), if_pos rfl, List.dropLast_concat]) (by unfold cutUn; rw [if_neg (by simp)]))
                have hcap4 := own_cap HM.out.opn
                simp only [List.length_append, List.length_singleton] at *
                have hwr : IntKind.i64.wrap (op'.length : Int) = (op'.length : Int) := by rw [IntKind.wrap_i64]; omega
                have hix4 : (op'.length : Int) ≤ (cn : Int) := by omega
                go_wp2_with (go_at_call 43; (with_reducible refine (cX Bp _ _ HM4.out.prt HM4.out.lt).mono ?_); rintro e w5 ⟨v5, rfl, hO5, hb5, hbo5⟩; have HM5 := Lib.hid (HM4.out.putPart (Besd.beside hbo5 hb5) hO5); have HB5 := Lib.hid (HB4.out.trans (hb5.mono HM4.out.le)); clear hO5 hb5 hbo5)
                go_roundw
                case rel => exact ⟨k + 1, Bp, us, ⟨_, _, op', un⟩, hlt, by go_num, by go_num, HN.out.symm, HM5.out, HB5.out⟩
                case measure => simp [RowKit.intOf] <;> omega
              · have h3c : (xk != 3) = true := by simpa using h3
                have HNX := Lib.hid (fun op2 un2 (e1 : cutOpn op ⟨xk, xs, xc⟩ = op2) (e2 : cutUn un ⟨xk, xs, xc⟩ = un2) => show cutRunP at' S (k + 1) = ⟨o ++ [p ++ closersP op], addP (openersP op) ⟨xk, xs, xc⟩, op2, un2⟩ by
                  rw [hnx]
                  unfold cutStepP
                  have : cutPre at' ⟨o, p, op, un⟩ ⟨xk, xs, xc⟩ = ⟨o ++ [p ++ closersP op], openersP op, op, un⟩ := by
                    unfold cutPre
                    rw [if_pos (by unfold cutHere; simp [hc1, hcu, h3])]
                  rw [this]
                  dsimp only
                  rw [e1, e2])
                generalize at'.getD o.length 0 = zz at z0 hcub
                clear hcu hnx
                obtain ⟨j0, hj, hjz0, hjz1, hjz2⟩ := info_parts info_pc
                obtain ⟨t0, ht, htz0, htz1, htz2⟩ := info_parts info_pcl
                have hbo : bulk (openersP op) ≤ 60000 := by rw [bulk_openers]; omega
                have cX := fun Bq v' w' (hO : OwnP Bq v' (openersP op) w') (hB : Bq ≤ w'.heap.size) => refAdd_any Bq (openersP op) ⟨xk, xs, xc⟩ v' w' hO hB (by have := len_bulk (openersP op); omega) (HLO.out (openersP op) hbo)
                unfold pcV at cX
                dsimp only at cX
                have hn0 : IntKind.i64.wrap ((op.length : Int) - 1) = (op.length : Int) - 1 := by rw [IntKind.wrap_i64] <;> omega
                have hk3 := h3
                clear h3
                go_wp2
                go_loopw [11, 16] (fun part i wr2 => ∃ j : Nat, j ≤ op.length ∧ i = .int .i64 ((op.length : Int) - 1 - (j : Int)) ∧ Hid (CutMem w2.heap.size Bp us (.slice ao o.length ca) part (.slice an op.length cn) o (p ++ (closersP op).take j) op wr2) ∧ Hid (Below w2.heap.size w2 wr2)) (fun _ i _ => (RowKit.intOf i + 1).toNat)
                case atStart => exact ⟨0, Nat.zero_le _, by simp, by show CutMem _ _ _ _ _ _ _ _ _ _; simpa using HM.out, HB.out⟩
                case round =>
                  clear HM HB x0 x1 x2 z0
                  obtain ⟨j, hj2, rfl, HM, HB⟩ := hrel
                  by_cases hjl : j < op.length
                  · obtain ⟨g, rfl, c0⟩ := (WsAt.own HM.out.opn).cell (Below.refl _ _) (i := op.length - 1 - j) (by omega)
                    have hge : (0 : Int) ≤ (op.length : Int) - 1 - (j : Int) := by omega
                    have hq : (op.length : Int) - 1 - (j : Int) = ((op.length - 1 - j : Nat) : Int) := by omega
                    have hjj : ((op.length - 1 - j : Nat) : Int) < (op.length : Int) := by omega
                    have HT := Lib.hid (closers_succ hjl)
                    have hlq : (p ++ (closersP op).take j).length ≤ 30000 := by rw [List.length_append, List.length_take, closers_len]; omega
                    generalize op.getD (op.length - 1 - j) ByteArray.empty = s at c0 HT
                    obtain ⟨aq, cq, hfq⟩ := HM.out.prt.form
                    subst hfq
                    generalize (closersP op).take j = cl at *
                    have hown4 := HM.out.prt
                    unfold OwnP at hown4
                    have HW4 := Lib.hid hown4
                    have hszp := HM.out.lt
                    have hszq := HM.out.le
                    have hszw := HB.out.size
                    clear hown4
                    go_wp2_with (first
                      | (at_builtin; refine wpList_append_own _ rfl _ _ 22 rfl Bp 52 j0 _ 3 32 Tryz.underlying22 hj hjz0 hjz1 hjz2 rfl (by decide) _ _ _ rfl (HW4.out.alloc (.cells #[.int .u8 3, .string s, .bool true] 52)) ⟨wr.heap.size, 0, none⟩ 1 1 [.int .u8 3, .string s, .bool true] rfl rfl (cell_new3 wr _ _ _ _) (one3 _ _ _) (by unfold maxLen; omega) (by omega) (by simp; omega) ?_; intro v3 w3 hown3 hgrow3 hnil3
                         have HB5 := Lib.hid ((HB.out.alloc hszw (.cells #[.int .u8 3, .string s, .bool true] 52)).grown hgrow3 (by simp; omega) (fun k hk => Nat.le_trans hszq (HW4.out.lt k hk).1))
                         have HM5 := Lib.hid (HM.out.putPart (Besd.grown hgrow3) (OwnP.more (x := ⟨3, s, true⟩) hown3))
                         clear hown3 hgrow3 hnil3))
                    go_roundw
                    case rel => exact ⟨j + 1, hjl, by go_num, by show CutMem _ _ _ _ _ _ _ _ _ _; rw [HT.out, ← List.append_assoc]; exact HM5.out, HB5.out⟩
                    case measure => simp [RowKit.intOf] <;> omega
                  · obtain rfl : j = op.length := by omega
                    have hge : ¬ (0 : Int) ≤ (op.length : Int) - 1 - (op.length : Int) := by omega
                    have hlc : (closersP op).take op.length = closersP op := by rw [List.take_of_length_le (by rw [closers_len]; exact Nat.le_refl _)]
                    rw [hlc] at HM
                    obtain ⟨pq, hpq⟩ : ∃ x, x = p ++ closersP op := ⟨_, rfl⟩
                    rw [← hpq] at HM HNX
                    clear hpq hlc
                    obtain ⟨aq, cq, hfq⟩ := HM.out.prt.form
                    subst hfq
                    have hrow4 := HM.out.row
                    have HW6 := Lib.hid hrow4
                    have hszp := HM.out.lt
                    have hszq := HM.out.le
                    have hszw := HB.out.size
                    clear hrow4
                    go_wp2_with (first
                      | (at_builtin; refine wpList_append_own _ rfl _ _ 24 rfl w2.heap.size 22 t0 (.slice none 0 0) 1 24 Tryz.underlying24 ht htz0 htz1 htz2 rfl (by decide) _ _ _ rfl (HW6.out.alloc (.cells #[.slice aq pq.length cq] 22)) ⟨wr.heap.size, 0, none⟩ 1 1 [.slice aq pq.length cq] rfl rfl (cell_new1 _ _ _) (fun x hx => by simp at hx; subst hx; rfl) (by unfold maxLen; omega) (by omega) (by simp; omega) ?_; intro v6 w6 hown6 hgrow6 hnil6
                         have HB6 := Lib.hid ((HB.out.alloc hszw (.cells #[.slice aq pq.length cq] 22)).grown hgrow6 (by simp; omega) (fun k hk => (HW6.out.lt k hk).1))
                         have HM6 := Lib.hid (HM.out.putOut (Besd.grown hgrow6) hown6)
                         clear hown6 hgrow6 hnil6))
                    obtain ⟨oq, hoq⟩ : ∃ x, x = o ++ [pq] := ⟨_, rfl⟩
                    obtain ⟨uq, huq⟩ : ∃ x, x = us ++ [.slice aq pq.length cq] := ⟨_, rfl⟩
                    rw [← hoq, ← huq] at HM6
                    rw [← hoq] at HNX
                    have hoql : oq.length ≤ 31 := by rw [hoq, List.length_append, List.length_singleton]; omega
                    clear hoq huq
                    obtain ⟨ao6, ca6, hf6⟩ := own_form HM6.out.row
                    subst hf6
                    obtain ⟨B6, hB6⟩ : ∃ x, x = w6.heap.size := ⟨_, rfl⟩
                    rw [← hB6] at HM6
                    clear hB6
                    go_loopw [11, 17] (fun part i wr3 => ∃ j : Nat, j ≤ op.length ∧ i = .int .i64 j ∧ Hid (CutMem w2.heap.size B6 uq (.slice ao6 oq.length ca6) part (.slice an op.length cn) oq ((openersP op).take j) op wr3) ∧ Hid (Below w2.heap.size w2 wr3)) (fun _ i _ => op.length - (RowKit.intOf i).toNat)
                    case atStart => exact ⟨0, Nat.zero_le _, rfl, HM6.out, HB6.out⟩
                    case round =>
                      clear HM HB HM6 HB6 HW6
                      obtain ⟨j, hj3, rfl, HM, HB⟩ := hrel
                      by_cases hjl : j < op.length
                      · obtain ⟨g, rfl, c0⟩ := (WsAt.own HM.out.opn).cell (Below.refl _ _) (i := j) hjl
                        have hji : (j : Int) < (op.length : Int) := by omega
                        have hji0 : (0 : Int) ≤ (j : Int) := by omega
                        have HT := Lib.hid (openers_succ hjl)
                        have hlq : ((openersP op).take j).length ≤ 30000 := by rw [List.length_take, openers_len]; omega
                        generalize op.getD j ByteArray.empty = s at c0 HT
                        obtain ⟨ar, cr, hfr⟩ := HM.out.prt.form
                        subst hfr
                        generalize (openersP op).take j = cl at *
                        have hown4 := HM.out.prt
                        unfold OwnP at hown4
                        have HW4 := Lib.hid hown4
                        have hszp := HM.out.lt
                        have hszq := HM.out.le
                        have hszw := HB.out.size
                        clear hown4
                        go_wp2_with (first
                          | (at_builtin; refine wpList_append_own _ rfl _ _ 22 rfl B6 52 j0 _ 3 32 Tryz.underlying22 hj hjz0 hjz1 hjz2 rfl (by decide) _ _ _ rfl (HW4.out.alloc (.cells #[.int .u8 2, .string s, .bool true] 52)) ⟨wr.heap.size, 0, none⟩ 1 1 [.int .u8 2, .string s, .bool true] rfl rfl (cell_new3 wr _ _ _ _) (one3 _ _ _) (by unfold maxLen; omega) (by omega) (by simp; omega) ?_; intro v3 w3 hown3 hgrow3 hnil3
                             have HB5 := Lib.hid ((HB.out.alloc hszw (.cells #[.int .u8 2, .string s, .bool true] 52)).grown hgrow3 (by simp; omega) (fun k hk => Nat.le_trans hszq (HW4.out.lt k hk).1))
                             have HM5 := Lib.hid (HM.out.putPart (Besd.grown hgrow3) (OwnP.more (x := ⟨2, s, true⟩) hown3))
                             clear hown3 hgrow3 hnil3))
                        go_roundw
                        case rel => exact ⟨j + 1, hjl, by go_num, by show CutMem _ _ _ _ _ _ _ _ _ _; rw [HT.out]; exact HM5.out, HB5.out⟩
                        case measure => simp [RowKit.intOf] <;> omega
                      · obtain rfl : j = op.length := by omega
                        have hji : ¬ (op.length : Int) < (op.length : Int) := by omega
                        have hlo : (openersP op).take op.length = openersP op := by rw [List.take_of_length_le (by rw [openers_len]; exact Nat.le_refl _)]
                        rw [hlo] at HM
                        obtain ⟨x0, x1, x2⟩ := HX.out wr HB.out
                        obtain ⟨ar, cr, hfr⟩ := HM.out.prt.form
                        subst hfr
                        by_cases h2 : xk = 2
                        · subst h2
                          have hown4 := HM.out.opn
                          unfold OwnS at hown4
                          have hsz4 := HB.out.size
                          have HN := Lib.hid (HNX.out (op ++ [xs]) un (by unfold cutOpn; rw [if_pos rfl]) (by unfold cutUn; rw [if_neg (by simp)]))
                          go_wp2_with (first
                          | (at_builtin; refine wpList_append_own _ rfl _ _ 55 rfl w2.heap.size 9 i0 (.string ⟨#[]⟩) 1 16 Tryz.underlying55 hi hz0 hz1 hz2 rfl (by decide) _ _ _ rfl (hown4.alloc (.cells #[.string xs] 9)) ⟨wr.heap.size, 0, none⟩ 1 1 [.string xs] rfl rfl (cell_new1 _ _ _) (fun x hx => by simp at hx; subst hx; rfl) (by unfold maxLen; omega) (by omega) (by simp; omega) ?_; intro v4 w4 hown5 hgrow5 hnil5
                             have HB4 := Lib.hid ((HB.out.alloc hsz4 (.cells #[.string xs] 9)).grown hgrow5 (by simp; omega) (fun k hk => (hown4.lt k hk).1))
                             have HM4 := Lib.hid (HM.out.putOpn (Besd.grown hgrow5) (show OwnS w2.heap.size v4 (op ++ [xs]) w4 by unfold OwnS; rw [List.length_append, List.map_append]; exact hown5))
                             obtain ⟨y0, y1, y2⟩ := HX.out w4 HB4.out
                             try dsimp only at y0 y1 y2
                             clear hown4 hown5 hgrow5 hnil5)
                          | (go_at_call 43; (with_reducible refine (cX B6 _ _ HM4.out.prt HM4.out.lt).mono ?_); rintro e w5 ⟨v5, rfl, hO5, hb5, hbo5⟩; have HM5 := Lib.hid (HM4.out.putPart (Besd.beside hbo5 hb5) hO5); have HB5 := Lib.hid (HB4.out.trans (hb5.mono HM4.out.le)); clear hO5 hb5 hbo5))
                          go_roundw
                          case rel => exact ⟨k + 1, B6, uq, ⟨_, _, (op ++ [xs]), un⟩, hlt, by go_num, by go_num, HN.out.symm, HM5.out, HB5.out⟩
                          case measure => simp [RowKit.intOf] <;> omega
                        have h2b : (xk == 2) = false := by simpa using h2
                        by_cases h3 : xk = 3
                        · exact absurd h3 hk3
                        have h3b : (xk == 3) = false := by simpa using h3
                        have h3c : (xk != 3) = true := by simpa using h3
                        by_cases h1 : xk = 1
                        · subst h1
                          have HN := Lib.hid (HNX.out op (un + 1) (by unfold cutOpn; rw [if_neg (by simp), if_neg (by simp)]) (by unfold cutUn; rw [if_pos (by simp)]))
                          have HM4 := Lib.hid HM.out
                          have HB4 := Lib.hid HB.out
                          go_wp2_with (go_at_call 43; (with_reducible refine (cX B6 _ _ HM4.out.prt HM4.out.lt).mono ?_); rintro e w5 ⟨v5, rfl, hO5, hb5, hbo5⟩; have HM5 := Lib.hid (HM4.out.putPart (Besd.beside hbo5 hb5) hO5); have HB5 := Lib.hid (HB4.out.trans (hb5.mono HM4.out.le)); clear hO5 hb5 hbo5)
                          go_roundw
                          case rel => exact ⟨k + 1, B6, uq, ⟨_, _, op, (un + 1)⟩, hlt, by go_num, by go_num, HN.out.symm, HM5.out, HB5.out⟩
                          case measure => simp [RowKit.intOf] <;> omega
                        have h1b : (xk == 1) = false := by simpa using h1
                        by_cases h5 : xk = 5
                        · subst h5
                          have HN := Lib.hid (HNX.out op (un + 1) (by unfold cutOpn; rw [if_neg (by simp), if_neg (by simp)]) (by unfold cutUn; rw [if_pos (by simp)]))
                          have HM4 := Lib.hid HM.out
                          have HB4 := Lib.hid HB.out
                          go_wp2_with (go_at_call 43; (with_reducible refine (cX B6 _ _ HM4.out.prt HM4.out.lt).mono ?_); rintro e w5 ⟨v5, rfl, hO5, hb5, hbo5⟩; have HM5 := Lib.hid (HM4.out.putPart (Besd.beside hbo5 hb5) hO5); have HB5 := Lib.hid (HB4.out.trans (hb5.mono HM4.out.le)); clear hO5 hb5 hbo5)
                          go_roundw
                          case rel => exact ⟨k + 1, B6, uq, ⟨_, _, op, (un + 1)⟩, hlt, by go_num, by go_num, HN.out.symm, HM5.out, HB5.out⟩
                          case measure => simp [RowKit.intOf] <;> omega
                        have h5b : (xk == 5) = false := by simpa using h5
                        have HN := Lib.hid (HNX.out op un (by unfold cutOpn; rw [if_neg h2, if_neg h3]) (by unfold cutUn; rw [if_neg (by intro h; rcases h with h | h; exact h1 h; exact h5 h)]))
                        have HM4 := Lib.hid HM.out
                        have HB4 := Lib.hid HB.out
                        go_wp2_with (go_at_call 43; (with_reducible refine (cX B6 _ _ HM4.out.prt HM4.out.lt).mono ?_); rintro e w5 ⟨v5, rfl, hO5, hb5, hbo5⟩; have HM5 := Lib.hid (HM4.out.putPart (Besd.beside hbo5 hb5) hO5); have HB5 := Lib.hid (HB4.out.trans (hb5.mono HM4.out.le)); clear hO5 hb5 hbo5)
                        go_roundw
                        case rel => exact ⟨k + 1, B6, uq, ⟨_, _, op, un⟩, hlt, by go_num, by go_num, HN.out.symm, HM5.out, HB5.out⟩
                        case measure => simp [RowKit.intOf] <;> omega
            · have hcub : ((un : Int) == at'.getD o.length 0) = false := by simpa using hcu
              have HNX := Lib.hid (fun op2 un2 (e1 : cutOpn op ⟨xk, xs, xc⟩ = op2) (e2 : cutUn un ⟨xk, xs, xc⟩ = un2) => show cutRunP at' S (k + 1) = ⟨o, addP p ⟨xk, xs, xc⟩, op2, un2⟩ by
                rw [hnx]
                unfold cutStepP
                have : cutPre at' ⟨o, p, op, un⟩ ⟨xk, xs, xc⟩ = ⟨o, p, op, un⟩ := by
                  unfold cutPre
                  rw [if_neg (by unfold cutHere; dsimp only; rw [decide_eq_false (p := (un : Int) = at'.getD o.length 0) hcu]; simp)]
                rw [this]
                dsimp only
                rw [e1, e2])
              have cX := fun Bq v' w' (hO : OwnP Bq v' p w') (hB : Bq ≤ w'.heap.size) => refAdd_any Bq p ⟨xk, xs, xc⟩ v' w' hO hB (by omega) (HLO.out p (by omega))
              unfold pcV at cX
              dsimp only at cX
              clear hnx
              generalize at'.getD o.length 0 = zz at z0 hcub
              clear hcu
              by_cases h2 : xk = 2
              · subst h2
                have hown4 := HM.out.opn
                unfold OwnS at hown4
                have hsz4 := HB.out.size
                have HN := Lib.hid (HNX.out (op ++ [xs]) un (by unfold cutOpn; rw [if_pos rfl]) (by unfold cutUn; rw [if_neg (by simp)]))
                go_wp2_with (first
                | (at_builtin; refine wpList_append_own _ rfl _ _ 55 rfl w2.heap.size 9 i0 (.string ⟨#[]⟩) 1 16 Tryz.underlying55 hi hz0 hz1 hz2 rfl (by decide) _ _ _ rfl (hown4.alloc (.cells #[.string xs] 9)) ⟨wr.heap.size, 0, none⟩ 1 1 [.string xs] rfl rfl (cell_new1 _ _ _) (fun x hx => by simp at hx; subst hx; rfl) (by unfold maxLen; omega) (by omega) (by simp; omega) ?_; intro v4 w4 hown5 hgrow5 hnil5
                   have HB4 := Lib.hid ((HB.out.alloc hsz4 (.cells #[.string xs] 9)).grown hgrow5 (by simp; omega) (fun k hk => (hown4.lt k hk).1))
                   have HM4 := Lib.hid (HM.out.putOpn (Besd.grown hgrow5) (show OwnS w2.heap.size v4 (op ++ [xs]) w4 by unfold OwnS; rw [List.length_append, List.map_append]; exact hown5))
                   obtain ⟨y0, y1, y2⟩ := HX.out w4 HB4.out
                   try dsimp only at y0 y1 y2
                   clear hown4 hown5 hgrow5 hnil5)
                | (go_at_call 43; (with_reducible refine (cX Bp _ _ HM4.out.prt HM4.out.lt).mono ?_); rintro e w5 ⟨v5, rfl, hO5, hb5, hbo5⟩; have HM5 := Lib.hid (HM4.out.putPart (Besd.beside hbo5 hb5) hO5); have HB5 := Lib.hid (HB4.out.trans (hb5.mono HM4.out.le)); clear hO5 hb5 hbo5))
                go_roundw
                case rel => exact ⟨k + 1, Bp, us, ⟨_, _, (op ++ [xs]), un⟩, hlt, by go_num, by go_num, HN.out.symm, HM5.out, HB5.out⟩
                case measure => simp [RowKit.intOf] <;> omega
              have h2b : (xk == 2) = false := by simpa using h2
              by_cases h3 : xk = 3
              · subst h3
                obtain ⟨op', y, rfl⟩ : ∃ op' y, op = op' ++ [y] := by
                  rcases List.eq_nil_or_concat op with h | ⟨a, b, h⟩
                  · exact absurd h (HO3.out rfl)
                  · exact ⟨a, b, by rw [h, List.concat_eq_append]⟩
                obtain ⟨g, ca2, hg⟩ := own_some HM.out.opn (by simp)
                simp only [Value.slice.injEq] at hg
                obtain ⟨rfl, -, rfl⟩ := hg
                have HM4 := Lib.hid (HM.out.setOpn (pop_row (x := y) (by have h := HM.out.opn; unfold OwnS at h; simpa using h)))
                have HB4 := Lib.hid HB.out
                have HN := Lib.hid (HNX.out op' un (by unfold cutOpn; rw [if_neg (by simp), if_pos rfl, List.dropLast_concat]) (by unfold cutUn; rw [if_neg (by simp)]))
                have hcap4 := own_cap HM.out.opn
                simp only [List.length_append, List.length_singleton] at *
                have hwr : IntKind.i64.wrap (op'.length : Int) = (op'.length : Int) := by rw [IntKind.wrap_i64]; omega
                have hix4 : (op'.length : Int) ≤ (cn : Int) := by omega
                go_wp2_with (go_at_call 43; (with_reducible refine (cX Bp _ _ HM4.out.prt HM4.out.lt).mono ?_); rintro e w5 ⟨v5, rfl, hO5, hb5, hbo5⟩; have HM5 := Lib.hid (HM4.out.putPart (Besd.beside hbo5 hb5) hO5); have HB5 := Lib.hid (HB4.out.trans (hb5.mono HM4.out.le)); clear hO5 hb5 hbo5)
                go_roundw
                case rel => exact ⟨k + 1, Bp, us, ⟨_, _, op', un⟩, hlt, by go_num, by go_num, HN.out.symm, HM5.out, HB5.out⟩
                case measure => simp [RowKit.intOf] <;> omega
              have h3b : (xk == 3) = false := by simpa using h3
              have h3c : (xk != 3) = true := by simpa using h3
              by_cases h1 : xk = 1
              · subst h1
                have HN := Lib.hid (HNX.out op (un + 1) (by unfold cutOpn; rw [if_neg (by simp), if_neg (by simp)]) (by unfold cutUn; rw [if_pos (by simp)]))
                have HM4 := Lib.hid HM.out
                have HB4 := Lib.hid HB.out
                go_wp2_with (go_at_call 43; (with_reducible refine (cX Bp _ _ HM4.out.prt HM4.out.lt).mono ?_); rintro e w5 ⟨v5, rfl, hO5, hb5, hbo5⟩; have HM5 := Lib.hid (HM4.out.putPart (Besd.beside hbo5 hb5) hO5); have HB5 := Lib.hid (HB4.out.trans (hb5.mono HM4.out.le)); clear hO5 hb5 hbo5)
                go_roundw
                case rel => exact ⟨k + 1, Bp, us, ⟨_, _, op, (un + 1)⟩, hlt, by go_num, by go_num, HN.out.symm, HM5.out, HB5.out⟩
                case measure => simp [RowKit.intOf] <;> omega
              have h1b : (xk == 1) = false := by simpa using h1
              by_cases h5 : xk = 5
              · subst h5
                have HN := Lib.hid (HNX.out op (un + 1) (by unfold cutOpn; rw [if_neg (by simp), if_neg (by simp)]) (by unfold cutUn; rw [if_pos (by simp)]))
                have HM4 := Lib.hid HM.out
                have HB4 := Lib.hid HB.out
                go_wp2_with (go_at_call 43; (with_reducible refine (cX Bp _ _ HM4.out.prt HM4.out.lt).mono ?_); rintro e w5 ⟨v5, rfl, hO5, hb5, hbo5⟩; have HM5 := Lib.hid (HM4.out.putPart (Besd.beside hbo5 hb5) hO5); have HB5 := Lib.hid (HB4.out.trans (hb5.mono HM4.out.le)); clear hO5 hb5 hbo5)
                go_roundw
                case rel => exact ⟨k + 1, Bp, us, ⟨_, _, op, (un + 1)⟩, hlt, by go_num, by go_num, HN.out.symm, HM5.out, HB5.out⟩
                case measure => simp [RowKit.intOf] <;> omega
              have h5b : (xk == 5) = false := by simpa using h5
              have HN := Lib.hid (HNX.out op un (by unfold cutOpn; rw [if_neg h2, if_neg h3]) (by unfold cutUn; rw [if_neg (by intro h; rcases h with h | h; exact h1 h; exact h5 h)]))
              have HM4 := Lib.hid HM.out
              have HB4 := Lib.hid HB.out
              go_wp2_with (go_at_call 43; (with_reducible refine (cX Bp _ _ HM4.out.prt HM4.out.lt).mono ?_); rintro e w5 ⟨v5, rfl, hO5, hb5, hbo5⟩; have HM5 := Lib.hid (HM4.out.putPart (Besd.beside hbo5 hb5) hO5); have HB5 := Lib.hid (HB4.out.trans (hb5.mono HM4.out.le)); clear hO5 hb5 hbo5)
              go_roundw
              case rel => exact ⟨k + 1, Bp, us, ⟨_, _, op, un⟩, hlt, by go_num, by go_num, HN.out.symm, HM5.out, HB5.out⟩
              case measure => simp [RowKit.intOf] <;> omega
          · have hoi : ¬ (o.length : Int) < (at'.length : Int) := by omega
            have HNX := Lib.hid (fun op2 un2 (e1 : cutOpn op ⟨xk, xs, xc⟩ = op2) (e2 : cutUn un ⟨xk, xs, xc⟩ = un2) => show cutRunP at' S (k + 1) = ⟨o, addP p ⟨xk, xs, xc⟩, op2, un2⟩ by
              rw [hnx]
              unfold cutStepP
              have : cutPre at' ⟨o, p, op, un⟩ ⟨xk, xs, xc⟩ = ⟨o, p, op, un⟩ := by
                unfold cutPre
                rw [if_neg (by unfold cutHere; dsimp only; simp [hc1])]
              rw [this]
              dsimp only
              rw [e1, e2])
            have cX := fun Bq v' w' (hO : OwnP Bq v' p w') (hB : Bq ≤ w'.heap.size) => refAdd_any Bq p ⟨xk, xs, xc⟩ v' w' hO hB (by omega) (HLO.out p (by omega))
            unfold pcV at cX
            dsimp only at cX
            clear hnx
            by_cases h2 : xk = 2
            · subst h2
              have hown4 := HM.out.opn
              unfold OwnS at hown4
              have hsz4 := HB.out.size
              have HN := Lib.hid (HNX.out (op ++ [xs]) un (by unfold cutOpn; rw [if_pos rfl]) (by unfold cutUn; rw [if_neg (by simp)]))
              go_wp2_with (first
              | (at_builtin; refine wpList_append_own _ rfl _ _ 55 rfl w2.heap.size 9 i0 (.string ⟨#[]⟩) 1 16 Tryz.underlying55 hi hz0 hz1 hz2 rfl (by decide) _ _ _ rfl (hown4.alloc (.cells #[.string xs] 9)) ⟨wr.heap.size, 0, none⟩ 1 1 [.string xs] rfl rfl (cell_new1 _ _ _) (fun x hx => by simp at hx; subst hx; rfl) (by unfold maxLen; omega) (by omega) (by simp; omega) ?_; intro v4 w4 hown5 hgrow5 hnil5
                 have HB4 := Lib.hid ((HB.out.alloc hsz4 (.cells #[.string xs] 9)).grown hgrow5 (by simp; omega) (fun k hk => (hown4.lt k hk).1))
                 have HM4 := Lib.hid (HM.out.putOpn (Besd.grown hgrow5) (show OwnS w2.heap.size v4 (op ++ [xs]) w4 by unfold OwnS; rw [List.length_append, List.map_append]; exact hown5))
                 obtain ⟨y0, y1, y2⟩ := HX.out w4 HB4.out
                 try dsimp only at y0 y1 y2
                 clear hown4 hown5 hgrow5 hnil5)
              | (go_at_call 43; (with_reducible refine (cX Bp _ _ HM4.out.prt HM4.out.lt).mono ?_); rintro e w5 ⟨v5, rfl, hO5, hb5, hbo5⟩; have HM5 := Lib.hid (HM4.out.putPart (Besd.beside hbo5 hb5) hO5); have HB5 := Lib.hid (HB4.out.trans (hb5.mono HM4.out.le)); clear hO5 hb5 hbo5))
              go_roundw
              case rel => exact ⟨k + 1, Bp, us, ⟨_, _, (op ++ [xs]), un⟩, hlt, by go_num, by go_num, HN.out.symm, HM5.out, HB5.out⟩
              case measure => simp [RowKit.intOf] <;> omega
            have h2b : (xk == 2) = false := by simpa using h2
            by_cases h3 : xk = 3
            · subst h3
              obtain ⟨op', y, rfl⟩ : ∃ op' y, op = op' ++ [y] := by
                rcases List.eq_nil_or_concat op with h | ⟨a, b, h⟩
                · exact absurd h (HO3.out rfl)
                · exact ⟨a, b, by rw [h, List.concat_eq_append]⟩
              obtain ⟨g, ca2, hg⟩ := own_some HM.out.opn (by simp)
              simp only [Value.slice.injEq] at hg
              obtain ⟨rfl, -, rfl⟩ := hg
              have HM4 := Lib.hid (HM.out.setOpn (pop_row (x := y) (by have h := HM.out.opn; unfold OwnS at h; simpa using h)))
              have HB4 := Lib.hid HB.out
              have HN := Lib.hid (HNX.out op' un (by unfold cutOpn; rw [if_neg (by simp), if_pos rfl, List.dropLast_concat]) (by unfold cutUn; rw [if_neg (by simp)]))
              have hcap4 := own_cap HM.out.opn
              simp only [List.length_append, List.length_singleton] at *
              have hwr : IntKind.i64.wrap (op'.length : Int) = (op'.length : Int) := by rw [IntKind.wrap_i64]; omega
              have hix4 : (op'.length : Int) ≤ (cn : Int) := by omega
              go_wp2_with (go_at_call 43; (with_reducible refine (cX Bp _ _ HM4.out.prt HM4.out.lt).mono ?_); rintro e w5 ⟨v5, rfl, hO5, hb5, hbo5⟩; have HM5 := Lib.hid (HM4.out.putPart (Besd.beside hbo5 hb5) hO5); have HB5 := Lib.hid (HB4.out.trans (hb5.mono HM4.out.le)); clear hO5 hb5 hbo5)
              go_roundw
              case rel => exact ⟨k + 1, Bp, us, ⟨_, _, op', un⟩, hlt, by go_num, by go_num, HN.out.symm, HM5.out, HB5.out⟩
              case measure => simp [RowKit.intOf] <;> omega
            have h3b : (xk == 3) = false := by simpa using h3
            have h3c : (xk != 3) = true := by simpa using h3
            by_cases h1 : xk = 1
            · subst h1
              have HN := Lib.hid (HNX.out op (un + 1) (by unfold cutOpn; rw [if_neg (by simp), if_neg (by simp)]) (by unfold cutUn; rw [if_pos (by simp)]))
              have HM4 := Lib.hid HM.out
              have HB4 := Lib.hid HB.out
              go_wp2_with (go_at_call 43; (with_reducible refine (cX Bp _ _ HM4.out.prt HM4.out.lt).mono ?_); rintro e w5 ⟨v5, rfl, hO5, hb5, hbo5⟩; have HM5 := Lib.hid (HM4.out.putPart (Besd.beside hbo5 hb5) hO5); have HB5 := Lib.hid (HB4.out.trans (hb5.mono HM4.out.le)); clear hO5 hb5 hbo5)
              go_roundw
              case rel => exact ⟨k + 1, Bp, us, ⟨_, _, op, (un + 1)⟩, hlt, by go_num, by go_num, HN.out.symm, HM5.out, HB5.out⟩
              case measure => simp [RowKit.intOf] <;> omega
            have h1b : (xk == 1) = false := by simpa using h1
            by_cases h5 : xk = 5
            · subst h5
              have HN := Lib.hid (HNX.out op (un + 1) (by unfold cutOpn; rw [if_neg (by simp), if_neg (by simp)]) (by unfold cutUn; rw [if_pos (by simp)]))
              have HM4 := Lib.hid HM.out
              have HB4 := Lib.hid HB.out
              go_wp2_with (go_at_call 43; (with_reducible refine (cX Bp _ _ HM4.out.prt HM4.out.lt).mono ?_); rintro e w5 ⟨v5, rfl, hO5, hb5, hbo5⟩; have HM5 := Lib.hid (HM4.out.putPart (Besd.beside hbo5 hb5) hO5); have HB5 := Lib.hid (HB4.out.trans (hb5.mono HM4.out.le)); clear hO5 hb5 hbo5)
              go_roundw
              case rel => exact ⟨k + 1, Bp, us, ⟨_, _, op, (un + 1)⟩, hlt, by go_num, by go_num, HN.out.symm, HM5.out, HB5.out⟩
              case measure => simp [RowKit.intOf] <;> omega
            have h5b : (xk == 5) = false := by simpa using h5
            have HN := Lib.hid (HNX.out op un (by unfold cutOpn; rw [if_neg h2, if_neg h3]) (by unfold cutUn; rw [if_neg (by intro h; rcases h with h | h; exact h1 h; exact h5 h)]))
            have HM4 := Lib.hid HM.out
            have HB4 := Lib.hid HB.out
            go_wp2_with (go_at_call 43; (with_reducible refine (cX Bp _ _ HM4.out.prt HM4.out.lt).mono ?_); rintro e w5 ⟨v5, rfl, hO5, hb5, hbo5⟩; have HM5 := Lib.hid (HM4.out.putPart (Besd.beside hbo5 hb5) hO5); have HB5 := Lib.hid (HB4.out.trans (hb5.mono HM4.out.le)); clear hO5 hb5 hbo5)
            go_roundw
            case rel => exact ⟨k + 1, Bp, us, ⟨_, _, op, un⟩, hlt, by go_num, by go_num, HN.out.symm, HM5.out, HB5.out⟩
            case measure => simp [RowKit.intOf] <;> omega
        · obtain rfl : k = S.length := by omega
          have hki : ¬ (S.length : Int) < (S.length : Int) := by omega
          have hou := cut_outs (at' := at') (S := S) S.length (Nat.le_refl _)
          rw [← HST.out] at hou
          obtain ⟨o, p, op, un⟩ := st
          dsimp only at HM hou
          have hps : cutPs at' S = o ++ [p] := by unfold cutPs; rw [← HST.out]
          rw [hps] at HCE HCR
          obtain ⟨ao, ca, rfl⟩ := own_form HM.out.row
          obtain ⟨t0, ht, htz0, htz1, htz2⟩ := info_parts info_pcl
          clear hps HST
          obtain ⟨aq, cq, hfq⟩ := HM.out.prt.form
          subst hfq
          have hrow4 := HM.out.row
          have HW6 := Lib.hid hrow4
          have hszp := HM.out.lt
          have hszq := HM.out.le
          have hszw := HB.out.size
          clear hrow4
          go_wp2_with (first
            | (at_builtin; refine wpList_append_own _ rfl _ _ 24 rfl w2.heap.size 22 t0 (.slice none 0 0) 1 24 Tryz.underlying24 ht htz0 htz1 htz2 rfl (by decide) _ _ _ rfl (HW6.out.alloc (.cells #[.slice aq p.length cq] 22)) ⟨wr.heap.size, 0, none⟩ 1 1 [.slice aq p.length cq] rfl rfl (cell_new1 _ _ _) (fun x hx => by simp at hx; subst hx; rfl) (by unfold maxLen; omega) (by omega) (by simp; omega) ?_; intro v6 w6 hown6 hgrow6 hnil6
               have HB6 := Lib.hid ((HB.out.alloc hszw (.cells #[.slice aq p.length cq] 22)).grown hgrow6 (by simp; omega) (fun k hk => (HW6.out.lt k hk).1))
               have HM6 := Lib.hid (HM.out.putOut (Besd.grown hgrow6) hown6)
               clear hown6 hgrow6 hnil6))
          obtain ⟨ao6, ca6, hf6⟩ := own_form HM6.out.row
          subst hf6
          have HP6 := Lib.hid HM6.out.pts
          have HBZ := Lib.hid (below_next HB2.out HB6.out)
          have hql : (o ++ [p]).length ≤ 31 := by rw [List.length_append, List.length_singleton]; omega
          clear HM6 HB6 HM HB HW6
          generalize o ++ [p] = Q at *
          go_loop [18] (fun i => ∃ j : Nat, j ≤ Q.length ∧ i = .int .i64 j ∧ Hid (∀ t, t < j → ¬ 512 < (Q.getD t []).length)) (fun i => Q.length - (RowKit.intOf i).toNat)
          case atStart => exact ⟨0, Nat.zero_le _, rfl, fun t ht => absurd ht (Nat.not_lt_zero _)⟩
          case round =>
            obtain ⟨j, hj, rfl, HL⟩ := hrel
            by_cases hjl : j < Q.length
            · obtain ⟨A, q, c, rfl, y0, _⟩ := HP6.out.part (Below.refl _ _) hjl
              have hji : (j : Int) < (Q.length : Int) := by omega
              have hj0 : (0 : Int) ≤ (j : Int) := by omega
              by_cases h512 : 512 < (Q.getD j []).length
              · have hla : longAny Q = true := long_yes hjl h512
                have h1 : ctE l at' = 3 := by rw [HCE.out, if_pos hla]
                have h2 : ctR l at' = [] := by rw [HCR.out, if_neg (by rw [h1]; decide)]
                have HR := Lib.hid (And.intro h1 h2)
                have h5i : (512 : Int) < ((Q.getD j []).length : Int) := by omega
                clear h1 h2 hla
                generalize Q.getD j [] = part at y0 h512 h5i
                go_wp2
                go_ret2
                exact ⟨⟨.slice none 0 0, by rw [HR.out.1]; rfl, by rw [HR.out.2]; exact pts_nil _⟩, HBZ.out⟩
              · have HL2 : Hid (∀ t, t < j + 1 → ¬ 512 < (Q.getD t []).length) := fun t ht => by
                  rcases Nat.lt_succ_iff_lt_or_eq.1 ht with h1 | rfl
                  · exact HL.out t h1
                  · exact h512
                have h5i : ¬ (512 : Int) < ((Q.getD j []).length : Int) := by omega
                generalize Q.getD j [] = part at y0 h512 h5i
                go_wp2
                go_round
                case rel => exact ⟨j + 1, hjl, by go_num, HL2.out⟩
                case measure => simp [RowKit.intOf] <;> omega
            · obtain rfl : j = Q.length := by omega
              have hji : ¬ (Q.length : Int) < (Q.length : Int) := by omega
              have hla : longAny Q = false := long_no HL.out
              have h1 : ctE l at' = 0 := by rw [HCE.out, if_neg (by rw [hla]; simp)]
              have h2 : ctR l at' = Q := by rw [HCR.out, if_pos h1]
              have HR := Lib.hid (And.intro h1 h2)
              clear h1 h2 hla
              go_wp2
              go_ret2
              exact ⟨⟨_, by rw [HR.out.1]; rfl, by rw [HR.out.2]; exact HP6.out⟩, HBZ.out⟩
end Go.Proofs.YtnkpjkomokkhcaaGreatDoor
namespace Go.Proofs.YtnkpjkomokkhcaaGreatDoor
open Go Go.RowKit Go.Lib
set_option maxRecDepth 100000
def IxEndP (b : Bool) (e : Ending) : Prop := ∃ z : Int, e = .returned (.int .i64 z) ∧ (b = true → 0 ≤ z) ∧ (b = false → z < 0)
set_option maxHeartbeats 4000000 in
theorem index_long (Q : List (List Pc)) (v : Value) (w : World) (hv : PtsAt w v Q) :
    Calls Tryz.prog 79 #[v, .func (.func 41) #[] #[]] w fun e w' => IxEndP (longAny Q) e ∧ w' = w := by
  have HP := Lib.hid hv
  obtain ⟨p, cap, rfl, hlc, hcm⟩ := hv.form
  unfold maxLen at hcm
  clear hv
  go_enter Tryz.func79, Tryz.ntmps79
  go_wp2
  go_loop [5, 8] (fun _ i => ∃ k : Nat, k ≤ Q.length ∧ i = .int .i64 k ∧ Hid (∀ t, t < k → ¬ 512 < (Q.getD t []).length)) (fun _ i => Q.length - (RowKit.intOf i).toNat)
  case atStart => exact ⟨0, Nat.zero_le _, rfl, fun t ht => absurd ht (Nat.not_lt_zero _)⟩
  case round =>
    obtain ⟨k, hk, rfl, HL⟩ := hrel
    by_cases hlt : k < Q.length
    · obtain ⟨A, q, c, rfl, y0, _⟩ := HP.out.part (Below.refl _ _) hlt
      have hki : (k : Int) < (Q.length : Int) := by omega
      have hk0 : (0 : Int) ≤ (k : Int) := by omega
      have cW := fun w2 => isLong_any (Q.getD k []) (.slice q (Q.getD k []).length c) w2 ⟨q, c, rfl⟩
      by_cases h512 : 512 < (Q.getD k []).length
      · have HA := Lib.hid (long_yes hlt h512)
        rw [decide_eq_true h512] at cW
        generalize Q.getD k [] = part at y0 cW
        go_wp2_with (go_at_call 41; (with_reducible refine (cW _).mono ?_); rintro e w' ⟨rfl, rfl⟩)
        go_ret
        exact ⟨⟨_, rfl, fun _ => by omega, fun h => absurd (h.symm.trans HA.out) (by simp)⟩, rfl⟩
      · have HL2 : Hid (∀ t, t < k + 1 → ¬ 512 < (Q.getD t []).length) := fun t ht => by
          rcases Nat.lt_succ_iff_lt_or_eq.1 ht with h1 | rfl
          · exact HL.out t h1
          · exact h512
        rw [decide_eq_false h512] at cW
        generalize Q.getD k [] = part at y0 cW
        go_wp2_with (go_at_call 41; (with_reducible refine (cW _).mono ?_); rintro e w' ⟨rfl, rfl⟩)
        go_round
        case rel => exact ⟨k + 1, hlt, by go_num, HL2.out⟩
        case measure => simp [RowKit.intOf] <;> omega
    · obtain rfl : k = Q.length := by omega
      have hki : ¬ (Q.length : Int) < (Q.length : Int) := by omega
      have HA := Lib.hid (long_no HL.out)
      go_wp2
      go_ret
      exact ⟨⟨_, rfl, fun h => absurd (HA.out.symm.trans h) (by simp), fun _ => by omega⟩, rfl⟩
theorem ret_boolP {a b : Bool} (h : a = b) : Ending.returned (.bool a) = .returned (.bool b) := by rw [h]
set_option maxHeartbeats 2000000 in
theorem contains_long (Q : List (List Pc)) (v : Value) (w : World) (hv : PtsAt w v Q) :
    Calls Tryz.prog 40 #[v, .func (.func 41) #[] #[]] w fun e w' => e = .returned (.bool (longAny Q)) ∧ w' = w := by
  have cI := index_long Q v w hv
  obtain ⟨p, cap, rfl, hlc, hcm⟩ := hv.form
  clear hv
  generalize longAny Q = b at cI
  cases b
  · go_enter Tryz.func40, Tryz.ntmps40
    go_wp2_with (go_at_call 79; (with_reducible refine cI.mono ?_); rintro e w2 ⟨⟨z, rfl, h1, h2⟩, hw⟩; obtain rfl := hw.symm; have hz := h2 rfl; clear h1 h2)
    go_ret
    exact ⟨ret_boolP (decide_eq_false (by omega)), rfl⟩
  · go_enter Tryz.func40, Tryz.ntmps40
    go_wp2_with (go_at_call 79; (with_reducible refine cI.mono ?_); rintro e w2 ⟨⟨z, rfl, h1, h2⟩, hw⟩; obtain rfl := hw.symm; have hz := h1 rfl; clear h1 h2)
    go_ret
    exact ⟨rfl, rfl⟩
end Go.Proofs.YtnkpjkomokkhcaaGreatDoor
