/- The law DocsWords over any list of pieces and any words, given that the layer's examples hold. -/
import Derived.Test.YtnbeomclmggbiaaGreatDoorWoE
import Derived.Test.YtnbeomclmggbiaaGreatDoorDqA
namespace Go.Proofs.YtnbeomclmggbiaaGreatDoor
open Go Go.RowKit Go.Lib
set_option maxRecDepth 100000
theorem cutPc_len (out : List ByteArray) (x : Pc) : (cutPc out x).length ≤ out.length + 2 * x.s.size + 1 := by
  unfold cutPc
  have h1 := (cutRun_len out (runesOf x.s) (runesOf x.s).length).1
  have h2 : (runesOf x.s).length ≤ x.s.size := runesG_length _ _
  have h3 : ∀ r, (rowEnd r).length ≤ 1 := by intro r; unfold rowEnd; split <;> simp
  split
  · rw [List.length_append]
    have := h3 (cutRun out (runesOf x.s) (runesOf x.s).length).2
    omega
  · simp
theorem cutTo_len (l : List Pc) : ∀ k, k ≤ l.length → (cutTo l k).length ≤ 2 * bulk (l.take k)
  | 0, _ => by simp [cutTo]
  | k + 1, hk => by
    have ih := cutTo_len l k (by omega)
    have h1 := cutPc_len (cutTo l k) (l.getD k nil)
    rw [cutTo_succ (by omega), takeP_succ (by omega), bulk_app, bulk_cons]
    have : bulk [] = 0 := rfl
    omega
theorem cutW_len (l : List Pc) : (cutW l).length ≤ 512 := by
  unfold cutW
  split
  · rename_i h
    unfold cutE at h
    split at h
    · split at h
      · cases h
      · omega
    · rename_i h2; exact absurd h h2
  · simp
theorem tagsL_len (l : List Pc) : (tagsL l).length ≤ l.length := by
  unfold tagsL
  rw [List.length_map]
  exact List.length_filter_le _ _
set_option maxHeartbeats 16000000 in
theorem words_law (l : List Pc) (ws : List ByteArray) (v u : Value) (w : World) (hv : PcsAt w v l) (hu : StrsAt w u ws) (hsz : ∀ x ∈ l, x.s.size ≤ 140737488355328) (hll : l.length ≤ 140737488355328) (hws : ∀ s ∈ ws, s.size ≤ 140737488355328) (hwn : ws.length ≤ 140737488355328) (hT : Tabs w) (hC : Cls2 w) (hN : Nts w)
    (hR : ∀ w', Below w.heap.size w w' → Calls Tryz.prog 8 #[] w' fun e w'' => e = .returned (.bool true) ∧ Below w'.heap.size w' w'') :
    Calls Tryz.prog 5 #[v, u] w fun e w' => e = .returned (.bool true) ∧ Below w.heap.size w w' := by
  have HB1 := Lib.hid (below_box (w := w) (.cells #[v] 35))
  have hv1 := hv.step HB1.out
  have hu1 := hu.step HB1.out
  have cL := long_any l v w.heap.size (w.alloc (.cells #[v] 35)) (by rw [Lib.cell_of_heap (heap_alloc_new w _)]; rfl) hv1 hsz hll
  have cY := wordy_any ws u (w.alloc (.cells #[v] 35)) hu1 hws hwn
  have cR1 := hR _ HB1.out
  obtain ⟨ao, ca, rfl⟩ := pcs_form hv
  obtain ⟨bo, cb, rfl⟩ := hu.form
  by_cases hb : bulk l ≤ 2500
  · by_cases hf : Few ws
    · have hlen := hf.len
      have hg := hN.1
      have hct : ∀ k, k ≤ l.length → (cutTo l k).length ≤ 100000 := by
        intro k hk
        have h1 := cutTo_len l k hk
        have h2 := bulk_take l k
        omega
      have cW1 := words_any l _ _ hv1 (by omega) (hT.step HB1.out) (hC.below HB1.out (by omega)) (hN.step HB1.out)
      have cW2 := fun wr (h : Below w.heap.size w wr) => refWords_any l _ wr (hv.step h) (by omega) hct
      have cC1 := fun wr (h : Below w.heap.size w wr) => checkWords_any ws _ wr (hu.step h) hws (fun h5 => (few_bounds hf h5).2.1) (hT.step h) (hC.below h (by omega)) (hN.step h)
      have cC2 := fun wr (h : Below w.heap.size w wr) => refCheckWords_any ws _ wr (hu.step h) (fun h5 => (few_bounds hf h5).1) (fun h5 => (few_bounds hf h5).2.1)
      have cB1 := fun wr (h : Below w.heap.size w wr) => bare_any ws _ wr (hu.step h) hws (by omega) (hN.step h)
      have cB2 := fun wr (h : Below w.heap.size w wr) => refBareW_any ws _ wr (hu.step h) hws (by omega)
      have cF1 := fun wr (h : Below w.heap.size w wr) => from_any ws _ wr (hu.step h) hws (by omega) (fun h5 => (few_bounds hf h5).1) (fun h5 => (few_bounds hf h5).2.1) (fun h5 => (few_bounds hf h5).2.2) (hT.step h) (hC.below h (by omega)) (hN.step h)
      have cF2 := fun wr (h : Below w.heap.size w wr) => refFrom_any ws _ wr (hu.step h) (fun h5 => (few_bounds hf h5).1) (fun h5 => (few_bounds hf h5).2.1) (fun h5 => (few_bounds hf h5).2.2)
      have cT1 := fun wr (h : Below w.heap.size w wr) => tags_any l _ wr (hv.step h) (by omega) (hT.step h) (hN.step h)
      have cT2 := fun wr (h : Below w.heap.size w wr) => refTags_any l _ wr (hv.step h) (by omega)
      have hl1 : (cutW l).length ≤ 1000000 := by have := cutW_len l; omega
      have hl2 : (bareL ws).length ≤ 1000000 := by unfold bareL; have := List.length_filter_le (fun s => !tagW s) ws; omega
      have hl3 : (fromL ws).length ≤ 1000000 := by
        unfold fromL
        split
        · rename_i h
          unfold fromE at h
          split at h
          · split at h
            · cases h
            · omega
          · rename_i h2; exact absurd h h2
        · simp
      have hl4 : (if checkE l = 0 then tagsL l else []).length ≤ 1000000 := by
        have := tagsL_len l
        have := bulk_len l
        split
        · omega
        · simp
      have finW := Lib.hid (fun B e wr (h : WordsEnd B l e wr) => show ∃ v2, e = .returned (.tuple #[v2, .int .u8 (cutE l)]) ∧ StrsAt wr v2 (cutW l) from by obtain ⟨v2, h1, h2⟩ := h; exact ⟨v2, h1, h2.at⟩)
      have finF := Lib.hid (fun B e wr (h : FromEnd B ws e wr) => show ∃ v2, e = .returned (.tuple #[v2, .int .u8 (fromE ws)]) ∧ PcsAt wr v2 (fromL ws) from by obtain ⟨v2, h1, h2⟩ := h; exact ⟨v2, h1, h2.at⟩)
      have finT := Lib.hid (fun B e wr (h : TagsEnd B l e wr) => show ∃ v2, e = .returned (.tuple #[v2, .int .u8 (checkE l)]) ∧ StrsAt wr v2 (if checkE l = 0 then tagsL l else []) from by obtain ⟨v2, h1, h2⟩ := h; exact ⟨v2, h1, h2.at⟩)
      generalize cutW l = L1 at *
      generalize bareL ws = L2 at *
      generalize fromL ws = L3 at *
      generalize (if checkE l = 0 then tagsL l else []) = L4 at *
      generalize cutE l = Y1 at *
      generalize fromE ws = Y3 at *
      generalize checkE l = Y4 at *
      generalize wordsE ws = Y2 at *
      clear hv1 hu1 hb hf hT hN hC hct hsz hll hws hwn hlen hg hv hu
      go_enter Tryz.func5, Tryz.ntmps5
      go_wp2_with (first
        | (go_at_call 17; (with_reducible refine cL.mono ?_); rintro e w1 ⟨⟨b, rfl, _⟩, hw⟩; obtain rfl := hw.symm; cases b)
        | (go_at_call 18; (with_reducible refine cY.mono ?_); rintro e w1 ⟨⟨b, rfl, _⟩, hw⟩; obtain rfl := hw.symm; cases b)
        | (go_at_call 19; (with_reducible refine cW1.mono ?_); rintro e w2 ⟨he2, hb2⟩; obtain ⟨v2, rfl, hp2⟩ := finW.out _ _ _ he2; have HB2 := Lib.hid (below_next HB1.out hb2); have HP2 := Lib.hid hp2; obtain ⟨ao2, ca2, rfl⟩ := hp2.form; clear he2 hb2 hp2)
        | (go_at_call 20; (with_reducible refine (cW2 _ HB2.out).mono ?_); rintro e w3 ⟨he3, hb3⟩; obtain ⟨v3, rfl, hp3⟩ := finW.out _ _ _ he3; have HB3 := Lib.hid (below_next HB2.out hb3); obtain ⟨ao3, ca3, rfl⟩ := hp3.form; have cS1 := sameS_any L1 _ _ w3 (HP2.out.step hb3) hp3 hl1; clear he3 hb3 hp3)
        | (go_at_call 21; (with_reducible refine cS1.mono ?_); rintro e w4 ⟨rfl, n4, hw4⟩; have HB4 := Lib.hid (show Below w.heap.size w w4 by rw [hw4]; exact below_drewN HB3.out n4); clear hw4)
        | (go_at_call 22; (with_reducible refine (cC1 _ HB4.out).mono ?_); rintro e w5 ⟨rfl, hb5⟩; have HB5 := Lib.hid (below_next HB4.out hb5); clear hb5)
        | (go_at_call 23; (with_reducible refine (cC2 _ HB5.out).mono ?_); rintro e w6 ⟨rfl, hb6⟩; have HB6 := Lib.hid (below_next HB5.out hb6); clear hb6)
        | (go_at_call 24; (with_reducible refine (cB1 _ HB6.out).mono ?_); rintro e w7 ⟨⟨v7, rfl, hp7⟩, hb7⟩; have HB7 := Lib.hid (below_next HB6.out hb7); have HP7 := Lib.hid hp7.at; obtain ⟨ao7, ca7, rfl⟩ := hp7.form; clear hb7 hp7)
        | (go_at_call 25; (with_reducible refine (cB2 _ HB7.out).mono ?_); rintro e w8 ⟨⟨v8, rfl, hp8⟩, hb8⟩; have HB8 := Lib.hid (below_next HB7.out hb8); have cS2 := sameS_any L2 _ _ w8 (HP7.out.step hb8) hp8.at hl2; obtain ⟨ao8, ca8, rfl⟩ := hp8.form; clear hb8 hp8)
        | (go_at_call 21; (with_reducible refine cS2.mono ?_); rintro e w9 ⟨rfl, n9, hw9⟩; have HB9 := Lib.hid (show Below w.heap.size w w9 by rw [hw9]; exact below_drewN HB8.out n9); clear hw9)
        | (go_at_call 26; (with_reducible refine (cF1 _ HB9.out).mono ?_); rintro e wa ⟨hea, hba⟩; obtain ⟨va, rfl, hpa⟩ := finF.out _ _ _ hea; have HBa := Lib.hid (below_next HB9.out hba); have HPa := Lib.hid hpa; obtain ⟨aoa, caa, rfl⟩ := pcs_form hpa; clear hea hba hpa)
        | (go_at_call 27; (with_reducible refine (cF2 _ HBa.out).mono ?_); rintro e wb ⟨heb, hbb⟩; obtain ⟨vb, rfl, hpb⟩ := finF.out _ _ _ heb; have HBb := Lib.hid (below_next HBa.out hbb); obtain ⟨aob, cab, rfl⟩ := pcs_form hpb; have cS3 := same_any L3 _ _ wb (HPa.out.step hbb) hpb hl3; clear heb hbb hpb)
        | (go_at_call 28; (with_reducible refine cS3.mono ?_); rintro e wc ⟨rfl, nc, hwc⟩; have HBc := Lib.hid (show Below w.heap.size w wc by rw [hwc]; exact below_drewN HBb.out nc); clear hwc)
        | (go_at_call 29; (with_reducible refine (cT1 _ HBc.out).mono ?_); rintro e wd ⟨hed, hbd⟩; obtain ⟨vd, rfl, hpd⟩ := finT.out _ _ _ hed; have HBd := Lib.hid (below_next HBc.out hbd); have HPd := Lib.hid hpd; obtain ⟨aod, cad, rfl⟩ := hpd.form; clear hed hbd hpd)
        | (go_at_call 30; (with_reducible refine (cT2 _ HBd.out).mono ?_); rintro e we ⟨hee, hbe⟩; obtain ⟨ve, rfl, hpe⟩ := finT.out _ _ _ hee; have HBe := Lib.hid (below_next HBd.out hbe); obtain ⟨aoe, cae, rfl⟩ := hpe.form; have cS4 := sameS_any L4 _ _ we (HPd.out.step hbe) hpe hl4; clear hee hbe hpe)
        | (go_at_call 21; (with_reducible refine cS4.mono ?_); rintro e wf ⟨rfl, nf, hwf⟩; have HBf := Lib.hid (show Below w.heap.size w wf by rw [hwf]; exact below_drewN HBe.out nf); clear hwf)
        | (go_at_call 8; (with_reducible refine (hR _ HBf.out).mono ?_); rintro e wz ⟨rfl, hbz⟩; have HBz := Lib.hid (below_next HBf.out hbz); clear hbz)
        | (go_at_call 8; (with_reducible refine cR1.mono ?_); rintro e wz ⟨rfl, hbz⟩; have HBz := Lib.hid (below_next HB1.out hbz); clear hbz))
      all_goals
        go_ret
        exact ⟨rfl, HBz.out⟩
    · clear hv1 hu1 hb hT hN hC hsz hll hws hwn hv hu
      go_enter Tryz.func5, Tryz.ntmps5
      go_wp2_with (first
        | (go_at_call 17; (with_reducible refine cL.mono ?_); rintro e w1 ⟨⟨b, rfl, _⟩, hw⟩; obtain rfl := hw.symm; cases b)
        | (go_at_call 18; (with_reducible refine cY.mono ?_); rintro e w1 ⟨⟨b, rfl, hbb⟩, hw⟩; obtain rfl := hw.symm; obtain rfl : b = true := (by cases b; exact absurd (hbb rfl) hf; rfl); clear hbb)
        | (go_at_call 8; (with_reducible refine cR1.mono ?_); rintro e wz ⟨rfl, hbz⟩; have HBz := Lib.hid (below_next HB1.out hbz); clear hbz))
      all_goals
        go_ret
        exact ⟨rfl, HBz.out⟩
  · clear hv1 hu1 hT hN hC hsz hll hws hwn hv hu
    go_enter Tryz.func5, Tryz.ntmps5
    go_wp2_with (first
      | (go_at_call 17; (with_reducible refine cL.mono ?_); rintro e w1 ⟨⟨b, rfl, hbb⟩, hw⟩; obtain rfl := hw.symm; obtain rfl : b = true := (by cases b; exact absurd (hbb rfl) hb; rfl); clear hbb)
      | (go_at_call 8; (with_reducible refine cR1.mono ?_); rintro e wz ⟨rfl, hbz⟩; have HBz := Lib.hid (below_next HB1.out hbz); clear hbz))
    go_ret
    exact ⟨rfl, HBz.out⟩
end Go.Proofs.YtnbeomclmggbiaaGreatDoor
