/- Which lists of pieces are valid, as the specification tells it. -/
import Derived.Test.YtcgghmpafphcpaaGreatDoorDq2
namespace Go.Proofs.YtcgghmpafphcpaaGreatDoor
open Go Go.RowKit
set_option maxRecDepth 100000
def OwnS (B : Nat) (v : Value) (op : List ByteArray) (w : World) : Prop := w.ownsRow B 9 1 v op.length (op.map Value.string)
theorem OwnS.step {B : Nat} {v : Value} {op : List ByteArray} {w w' : World} (hb : Below w.heap.size w w') (h : OwnS B v op w) : OwnS B v op w' := ownsRow_step hb h
theorem OwnS.form {B : Nat} {v : Value} {op : List ByteArray} {w : World} (h : OwnS B v op w) : ∃ ao cap, v = .slice ao op.length cap := by
  rcases h.2 with ⟨hv, h0⟩ | ⟨g, cap, cur, hv, _⟩
  · exact ⟨none, 0, by rw [hv, h0]⟩
  · exact ⟨_, _, hv⟩
theorem here_alone {l : List Pc} {k : Nat} {op : List ByteArray} (h : runC l k = .ok op) (h0 : aloneE l k ≠ 0) : hereE l k = aloneE l k := by
  rw [← refE_eq h]; unfold refE; rw [if_pos h0]
theorem here_car {l : List Pc} {k : Nat} {op : List ByteArray} (h : runC l k = .ok op) (h0 : aloneE l k = 0) : hereE l k = carE l k := by
  rw [← refE_eq h]; unfold refE carE; rw [if_neg (by rw [h0]; simp)]
theorem ref_error {l : List Pc} {k : Nat} {op : List ByteArray} {e : Int} (h512 : ¬ 512 < l.length) (hk : k < l.length) (h : runC l k = .ok op) (he : hereE l k = e) (h0 : e ≠ 0) : checkE l = e := by
  refine checkE_error h512 (i := k + 1) ?_ (by omega)
  rw [run_here h (by rw [he]; exact h0), he]
theorem folX (op : List ByteArray) (k : Int) (s : ByteArray) (c : Bool) : folE op ⟨k, s, c⟩ = if k = 2 then (if op.length + 1 > 16 then .error 3 else .ok (op ++ [s])) else if k = 3 then (if op.getLast? = some s then .ok op.dropLast else .error 9) else .ok op := rfl
set_option maxHeartbeats 16000000 in
theorem refCheck_any (l : List Pc) (v : Value) (w : World) (hv : PcsAt w v l) (hb : bulk l ≤ 100000) :
    Calls Tryz.prog 11 #[v] w fun e w' => e = .returned (.int .u8 (checkE l)) ∧ Below w.heap.size w w' := by
  obtain ⟨i0, hi, hz0, hz1, hz2⟩ := info_parts info_str
  have HV := Lib.hid hv
  obtain ⟨p, cap, rfl, hl, hc, hrow⟩ := hv
  unfold maxLen at hc
  have ag := Tryz.isAgg39
  have zg := Tryz.sizeOf39
  have hlb : l.length ≤ bulk l := by unfold bulk; omega
  by_cases h512 : 512 < l.length
  · have HE := Lib.hid (checkE_limit h512)
    have hI : (512 : Int) < (l.length : Int) := by omega
    clear hrow
    go_enter Tryz.func11, Tryz.ntmps11
    go_wp2
    go_ret
    exact ⟨ret_u8 HE.out.symm, Below.refl _ _⟩
  have hI : ¬ (512 : Int) < (l.length : Int) := by omega
  have HR := Lib.hid hrow
  clear hrow
  go_enter Tryz.func11, Tryz.ntmps11
  go_wp2
  go_loopw [3, 4] (fun o i wr => ∃ (k : Nat) (op : List ByteArray), k ≤ l.length ∧ i = .int .i64 k ∧ Hid (runC l k = .ok op) ∧ Hid (OwnS w.heap.size o op wr) ∧ Hid (Below w.heap.size w wr)) (fun _ i _ => l.length - (intOf i).toNat)
  case atStart => exact ⟨0, [], Nat.zero_le _, rfl, rfl, World.ownsRow_nil _ _ _ _, Below.refl _ _⟩
  case round =>
    obtain ⟨k, op, hk, rfl, HQ, HK, HB⟩ := hrel
    by_cases hlt : k < l.length
    · obtain ⟨A, rfl, hA, hcell⟩ := HR.out (by omega)
      have cA := fun wr (hb' : Below w.heap.size w wr) => alone_any l A cap k wr ((HV.out : PcsAt w _ l).below hb' |>.mono hb'.size) hlt hb
      have cC := fun wr (hb' : Below w.heap.size w wr) => carried_any l A cap k wr ((HV.out : PcsAt w _ l).below hb' |>.mono hb'.size) hlt hb
      have hlen := runC_len HQ.out
      have hcells := fun wr (hb' : Below w.heap.size w wr) => pcs_cells hA hcell hlt hb'
      have HCL := Lib.hid hcells
      clear hcells hcell
      by_cases ha : aloneE l k = 0
      · have HH := Lib.hid (here_car HQ.out ha)
        by_cases hca : carE l k = 0
        · have HF := Lib.hid (run_fine HQ.out (HH.out.trans hca))
          rw [ha] at cA
          rw [hca] at cC
          have cA1 := cA wr HB.out
          clear ha hca HH
          generalize l.getD k nil = x at HCL HF
          obtain ⟨xk, xs, xc⟩ := x
          rw [folX] at HF
          have arm := fun (wr' : World) => cC wr'
          by_cases h3 : xk = 3
          · subst h3
            rw [if_neg (by decide), if_pos rfl] at HF
            rcases List.eq_nil_or_concat op with rfl | ⟨l', y, rfl⟩
            · obtain ⟨ao, cap2, rfl⟩ := HK.out.form
              rw [if_neg (by simp)] at HF
              have HE := Lib.hid (checkE_error h512 HF.out (by omega))
              go_wp2_with (first
                | (go_at_call 30; (with_reducible refine cA1.mono ?_); rintro e w2 ⟨rfl, hb2⟩; have HB2 := Lib.hid (below_next HB.out hb2); have HK2 := Lib.hid (HK.out.step hb2); obtain ⟨x0, x1, x2⟩ := HCL.out w2 HB2.out; have cC2 := cC w2 HB2.out; clear hb2)
                | (go_at_call 31; (with_reducible refine cC2.mono ?_); rintro e w3 ⟨rfl, hw⟩; obtain rfl := hw.symm))
              go_quiet (fail)
              go_wp2
              go_ret
              exact ⟨ret_u8 HE.out.symm, below_drewN HB2.out _⟩
            · have hK := HK.out
              rcases hK.2 with ⟨_, hn0⟩ | ⟨g, cap2, cur, rfl, _, _, hncap, hcapm, _, _⟩
              · simp at hn0
              have hct := hK
              simp only [List.concat_eq_append] at *
              have ctw := fun wr (h : OwnS w.heap.size (.slice (some ⟨g, 0, none⟩) (l' ++ [y]).length cap2) (l' ++ [y]) wr) => (show wr.cell? ⟨g, l'.length, none⟩ = some (.string y) by rw [← add_at]; exact World.ownsRow.cells h (g := g) rfl l'.length (.string y) (by simp))
              have CTW := Lib.hid ctw
              have POP := Lib.hid (fun (wr : World) (h : OwnS w.heap.size (.slice (some ⟨g, 0, none⟩) (l' ++ [y]).length cap2) (l' ++ [y]) wr) => (show OwnS w.heap.size (.slice (some ⟨g, 0, none⟩) l'.length cap2) l' wr from pop_row (x := y) (by unfold OwnS at h; simpa using h)))
              rw [List.getLast?_append, List.getLast?_singleton, Option.some_or, List.dropLast_concat] at HF
              clear ctw hct hK
              simp only [List.length_append, List.length_cons, List.length_nil, Nat.zero_add] at *
              unfold maxLen at hcapm
              have hg0 : (((l'.length : Int) + 1) == 0) = false := beq_eq_false_iff_ne.2 (by omega)
              have hwr : IntKind.i64.wrap (l'.length : Int) = (l'.length : Int) := by rw [IntKind.wrap_i64]; omega
              have hix1 : (l'.length : Int) < (l'.length : Int) + 1 := by omega
              have hix2 : (l'.length : Int) < ((l'.length + 1 : Nat) : Int) := by omega
              have hix3 : l'.length < l'.length + 1 := by omega
              have hix4 : (l'.length : Int) ≤ (cap2 : Int) := by omega
              by_cases hq : y.toList = xs.toList
              · have hy := bytes_ext hq
                rw [if_pos (by rw [hy])] at HF
                clear hy
                go_wp2_with (first
                  | (go_at_call 30; (with_reducible refine cA1.mono ?_); rintro e w2 ⟨rfl, hb2⟩; have HB2 := Lib.hid (below_next HB.out hb2); have HK2 := Lib.hid (HK.out.step hb2); obtain ⟨x0, x1, x2⟩ := HCL.out w2 HB2.out; have cC2 := cC w2 HB2.out; clear hb2; have ct0 := CTW.out w2 HK2.out; have HK4 := Lib.hid (POP.out w2 HK2.out))
                  | (go_at_call 31; (with_reducible refine cC2.mono ?_); rintro e w3 ⟨rfl, hw⟩; obtain rfl := hw.symm))
                go_quiet (fail)
                go_wp2
                go_roundw
                case rel => exact ⟨k + 1, l', by omega, by go_num, HF.out, ownsRow_drew _ HK4.out, below_drewN HB2.out _⟩
                case measure => simp [intOf]; omega
              · have hqb : (y.toList == xs.toList) = false := by simp [hq]
                rw [if_neg (by intro h; injection h with h; exact hq (by rw [h]))] at HF
                have HE := Lib.hid (checkE_error h512 HF.out (by omega))
                go_wp2_with (first
                  | (go_at_call 30; (with_reducible refine cA1.mono ?_); rintro e w2 ⟨rfl, hb2⟩; have HB2 := Lib.hid (below_next HB.out hb2); have HK2 := Lib.hid (HK.out.step hb2); obtain ⟨x0, x1, x2⟩ := HCL.out w2 HB2.out; have cC2 := cC w2 HB2.out; clear hb2; have ct0 := CTW.out w2 HK2.out)
                  | (go_at_call 31; (with_reducible refine cC2.mono ?_); rintro e w3 ⟨rfl, hw⟩; obtain rfl := hw.symm))
                go_quiet (fail)
                go_wp2
                go_ret
                exact ⟨ret_u8 HE.out.symm, below_drewN HB2.out _⟩
          · by_cases h2 : xk = 2
            · subst h2
              have h3b : ((2 : Int) == 3) = false := rfl
              rw [if_pos rfl] at HF
              clear h3
              by_cases h16 : op.length + 1 > 16
              · rw [if_pos h16] at HF
                have HE := Lib.hid (checkE_error h512 HF.out (by omega))
                have hI16 : (16 : Int) < ((op ++ [xs]).length : Int) := by simp; omega
                simp only [List.length_append, List.length_cons, List.length_nil, Nat.zero_add] at hI16
                clear h16
                go_wp2_with (first
                  | (go_at_call 30; (with_reducible refine cA1.mono ?_); rintro e w2 ⟨rfl, hb2⟩; have HB2 := Lib.hid (below_next HB.out hb2); have HK2 := Lib.hid (HK.out.step hb2); obtain ⟨x0, x1, x2⟩ := HCL.out w2 HB2.out; have cC2 := cC w2 HB2.out; clear hb2; have hown := HK2.out; unfold OwnS at hown; have hsz2 := HB2.out.size)
                  | (go_at_call 31; (with_reducible refine cC2.mono ?_); rintro e w3 ⟨rfl, hw⟩; obtain rfl := hw.symm)
                  | (at_builtin; refine wpList_append_own _ rfl _ _ 49 rfl w.heap.size 9 i0 (.string ⟨#[]⟩) 1 16 Tryz.underlying49 hi hz0 hz1 hz2 rfl (by decide) _ _ _ rfl (hown.alloc _) ⟨w2.heap.size, 0, none⟩ 1 1 [.string xs] rfl rfl (cell_new1 _ _ _) (fun x hx => by simp at hx; subst hx; rfl) (by unfold maxLen; omega) (by omega) (by simp; omega) ?_; intro v3 w3 hown3 hgrow3 hnil3
                     have HB3 := Lib.hid ((HB2.out.alloc HB2.out.size (.cells #[.string xs] 9)).grown hgrow3 (by simp; omega) (fun k hk => (hown.lt k hk).1))
                     have HK3 := Lib.hid (show OwnS w.heap.size v3 (op ++ [xs]) w3 by unfold OwnS; rw [List.length_append, List.map_append]; exact hown3)
                     obtain ⟨ao3, cap3, rfl⟩ := HK3.out.form
                     clear hown hown3 hgrow3 hnil3))
                go_ret
                exact ⟨ret_u8 HE.out.symm, HB3.out⟩
              · rw [if_neg h16] at HF
                have hI16 : ¬ (16 : Int) < ((op ++ [xs]).length : Int) := by simp; omega
                simp only [List.length_append, List.length_cons, List.length_nil, Nat.zero_add] at hI16
                clear h16
                go_wp2_with (first
                  | (go_at_call 30; (with_reducible refine cA1.mono ?_); rintro e w2 ⟨rfl, hb2⟩; have HB2 := Lib.hid (below_next HB.out hb2); have HK2 := Lib.hid (HK.out.step hb2); obtain ⟨x0, x1, x2⟩ := HCL.out w2 HB2.out; have cC2 := cC w2 HB2.out; clear hb2; have hown := HK2.out; unfold OwnS at hown; have hsz2 := HB2.out.size)
                  | (go_at_call 31; (with_reducible refine cC2.mono ?_); rintro e w3 ⟨rfl, hw⟩; obtain rfl := hw.symm)
                  | (at_builtin; refine wpList_append_own _ rfl _ _ 49 rfl w.heap.size 9 i0 (.string ⟨#[]⟩) 1 16 Tryz.underlying49 hi hz0 hz1 hz2 rfl (by decide) _ _ _ rfl (hown.alloc _) ⟨w2.heap.size, 0, none⟩ 1 1 [.string xs] rfl rfl (cell_new1 _ _ _) (fun x hx => by simp at hx; subst hx; rfl) (by unfold maxLen; omega) (by omega) (by simp; omega) ?_; intro v3 w3 hown3 hgrow3 hnil3
                     have HB3 := Lib.hid ((HB2.out.alloc HB2.out.size (.cells #[.string xs] 9)).grown hgrow3 (by simp; omega) (fun k hk => (hown.lt k hk).1))
                     have HK3 := Lib.hid (show OwnS w.heap.size v3 (op ++ [xs]) w3 by unfold OwnS; rw [List.length_append, List.map_append]; exact hown3)
                     obtain ⟨ao3, cap3, rfl⟩ := HK3.out.form
                     clear hown hown3 hgrow3 hnil3))
                go_roundw
                case rel => exact ⟨k + 1, op ++ [xs], by omega, by go_num, HF.out, (by show OwnS _ _ _ _; have h := HK3.out; rw [List.length_append] at h; exact h), HB3.out⟩
                case measure => simp [intOf]; omega
            · have h3b : (xk == 3) = false := beq_eq_false_iff_ne.2 h3
              have h2b : (xk == 2) = false := beq_eq_false_iff_ne.2 h2
              rw [if_neg h2, if_neg h3] at HF
              clear h3 h2
              go_wp2_with (first
                | (go_at_call 30; (with_reducible refine cA1.mono ?_); rintro e w2 ⟨rfl, hb2⟩; have HB2 := Lib.hid (below_next HB.out hb2); have HK2 := Lib.hid (HK.out.step hb2); obtain ⟨x0, x1, x2⟩ := HCL.out w2 HB2.out; have cC2 := cC w2 HB2.out; clear hb2)
                | (go_at_call 31; (with_reducible refine cC2.mono ?_); rintro e w3 ⟨rfl, hw⟩; obtain rfl := hw.symm))
              go_roundw
              case rel => exact ⟨k + 1, op, by omega, by go_num, HF.out, HK2.out, HB2.out⟩
              case measure => simp [intOf]; omega
        · have HE := Lib.hid (ref_error h512 hlt HQ.out HH.out hca)
          rw [ha] at cA
          generalize carE l k = E at HE cC hca
          have hE0 : (E == 0) = false := by simpa using hca
          have cA1 := cA wr HB.out
          clear ha hca HH
          go_wp2_with (first
            | (go_at_call 30; (with_reducible refine cA1.mono ?_); rintro e w2 ⟨rfl, hb2⟩; have HB2 := Lib.hid (below_next HB.out hb2); have cC2 := cC w2 HB2.out; clear hb2)
            | (go_at_call 31; (with_reducible refine cC2.mono ?_); rintro e w3 ⟨rfl, hw⟩; obtain rfl := hw.symm))
          go_ret
          exact ⟨ret_u8 HE.out.symm, HB2.out⟩
      · have HE := Lib.hid (ref_error h512 hlt HQ.out (here_alone HQ.out ha) ha)
        generalize aloneE l k = E at HE cA ha
        have hE0 : (E == 0) = false := by simpa using ha
        have cA1 := cA wr HB.out
        clear ha
        go_wp2_with (go_at_call 30; (with_reducible refine cA1.mono ?_); rintro e w2 ⟨rfl, hb2⟩; have HB2 := Lib.hid (below_next HB.out hb2); clear hb2)
        go_ret
        exact ⟨ret_u8 HE.out.symm, HB2.out⟩
    · have hkl : k = l.length := by omega
      obtain ⟨ao, cap2, rfl⟩ := HK.out.form
      have HE := Lib.hid (checkE_ok h512 (hkl ▸ HQ.out))
      by_cases h0 : op = []
      · have hI0 : ¬ (0 : Int) < (op.length : Int) := by rw [h0]; simp
        have HZ := Lib.hid h0
        clear h0
        go_wp2
        go_ret
        exact ⟨ret_u8 (by rw [HE.out, if_pos HZ.out]), HB.out⟩
      · have hI0 : (0 : Int) < (op.length : Int) := by have := List.length_pos_iff.2 h0; omega
        go_wp2
        go_ret
        exact ⟨ret_u8 (by rw [HE.out, if_neg h0]), HB.out⟩
end Go.Proofs.YtcgghmpafphcpaaGreatDoor
