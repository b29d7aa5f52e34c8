/- Cut by the program. Cut by the program, for any list and any places. The law DocsCuts over any list, places and parts, given that the layer's examples hold. -/
import Derived.Test.YtnkpjkomokkhcaaGreatDoorCuD
import Derived.Test.YtnkpjkomokkhcaaGreatDoorGlE
import Derived.Test.YtnkpjkomokkhcaaGreatDoorGlC
namespace Go.Proofs.YtnkpjkomokkhcaaGreatDoor
open Go Go.RowKit Go.Lib
set_option maxRecDepth 100000
attribute [local go_sem] Oper.semAt_some
set_option maxHeartbeats 32000000 in
theorem cut_main (l : List Pc) (at' : List Int) (v va : Value) (w : World) (hv : PcsAt w v l) (ha : IntsAt w va at') (hb : bulk l ≤ 9000) (hn : at'.length ≤ 30) (hT : Tabs w) (hE : checkE l = 0) (hA : cutsB (nUnits l) 0 at' = true) :
    Calls Tryz.prog 9 #[v, va] w fun e w' => (∃ u, e = .returned (.tuple #[u, .int .u8 (ctE l at')]) ∧ PtsAt w' u (ctR l at')) ∧ Below w.heap.size w w' := by
  have hval := all_valid hE
  have hmem := valid_mem hE
  have cU := fun w1 (h : Below w.heap.size w w1) => units_count l v w1 (hv.step h) (by omega) (hT.step h)
  have hU : unE l = nUnits l := by unfold unE; rw [if_pos hE]
  have cA := fun w1 (h : Below w.heap.size w w1) => areCuts_any at' (nUnits l : Nat) va w1 (ha.step h)
  rw [hA] at cA
  rw [hE, hU] at cU
  have HV := Lib.hid hv
  have HAT := Lib.hid ha
  have HT := Lib.hid hT
  obtain ⟨p, cap, rfl, hl, hc⟩ : ∃ p cap, v = .slice p l.length cap ∧ l.length ≤ cap ∧ cap ≤ maxLen := by
    obtain ⟨p, cap, e, h1, h2, _⟩ := hv
    exact ⟨p, cap, e, h1, h2⟩
  obtain ⟨pa, ca, rfl, hla, hca⟩ := ha.form
  unfold maxLen at hc hca
  have cS := fun w => steps_any p l.length cap w
  have hNs : (singleL l).length ≤ 9000 := Nat.le_trans (flat_len l) hb
  clear hv ha hT hU
  refine (callsIn_wide (n := 9)).1 ?_
  refine callsIn_of_wp_marks Tryz.func9 rfl trivial ?_ rfl
  simp only [Tryz.ntmps9, List.size_toArray, List.length_cons, List.length_nil, Nat.reduceAdd, Nat.reduceSub, Array.replicate_succ, Array.replicate_zero, List.push_toArray, List.append_toArray, List.nil_append, List.cons_append]
  have HB0 := Lib.hid (below_box (w := w) (.cells #[.slice pa at'.length ca] 23))
  have HN0 := Lib.hid (heap_alloc_new w (.cells #[.slice pa at'.length ca] 23))
  gi_wp2_with (first
    | (refine ⟨trivial, ?_⟩; gi_at_call 18; (with_reducible refine (callsIn_wide.2 (cU _ HB0.out)).mono ?_); rintro e w1 ⟨rfl, hb1⟩; have HB1 := Lib.hid (below_next HB0.out hb1); have HN1 := Lib.hid ((hb1.block _ (lt_of_block HN0.out)).trans HN0.out); have c3 := (Lib.cell_of_heap HN1.out 0).trans rfl; clear hb1)
    | (refine ⟨trivial, ?_⟩; gi_at_call 34; (with_reducible refine (callsIn_wide.2 (cA _ HB1.out)).mono ?_); rintro e w2 ⟨rfl, rfl⟩)
    | (refine ⟨trivial, ?_⟩; gi_at_call 35; (with_reducible refine (callsIn_wide.2 (cS _)).mono ?_); rintro e w3 ⟨rfl, rfl⟩))
  generalize hz8 : w2.heap.size = b8 at *
  have hs1 := HB1.out.size
  rw [hz8] at hs1
  obtain ⟨Wr, hWr⟩ : ∃ Wr, Wr = ((((w2.alloc (.cells #[.slice none 0 0] 24)).alloc (.cells #[.slice none 0 0, .slice none 0 0] 66)).alloc (.cells #[.slice none 0 0] 67)).alloc (.cells #[.slice p l.length cap] 22)) := ⟨_, rfl⟩
  have hzr : Wr.heap.size = b8 + 4 := by rw [hWr]; simp; omega
  have hn8 : Wr.heap[b8]? = some (.cells #[.slice none 0 0] 24 (0, 0)) := by
    rw [hWr, Below.heap_alloc _ _ _ (by simp; omega), Below.heap_alloc _ _ _ (by simp; omega), Below.heap_alloc _ _ _ (by simp; omega), ← hz8]; exact heap_alloc_new w2 _
  have hn9 : Wr.heap[b8 + 1]? = some (.cells #[.slice none 0 0, .slice none 0 0] 66 (0, 0)) := by
    rw [hWr, Below.heap_alloc _ _ _ (by simp; omega), Below.heap_alloc _ _ _ (by simp; omega), ← hz8]
    have := heap_alloc_new (w2.alloc (.cells #[.slice none 0 0] 24)) (.cells #[.slice none 0 0, .slice none 0 0] 66)
    rwa [World.size_alloc] at this
  have hn10 : Wr.heap[b8 + 1 + 1]? = some (.cells #[.slice none 0 0] 67 (0, 0)) := by
    rw [hWr, Below.heap_alloc _ _ _ (by simp; omega), ← hz8]
    have := heap_alloc_new ((w2.alloc (.cells #[.slice none 0 0] 24)).alloc (.cells #[.slice none 0 0, .slice none 0 0] 66)) (.cells #[.slice none 0 0] 67)
    rwa [World.size_alloc, World.size_alloc] at this
  have hn11 : Wr.heap[b8 + 1 + 1 + 1]? = some (.cells #[.slice p l.length cap] 22 (0, 0)) := by
    rw [hWr, ← hz8]
    have := heap_alloc_new (((w2.alloc (.cells #[.slice none 0 0] 24)).alloc (.cells #[.slice none 0 0, .slice none 0 0] 66)).alloc (.cells #[.slice none 0 0] 67)) (.cells #[.slice p l.length cap] 22)
    rwa [World.size_alloc, World.size_alloc, World.size_alloc] at this
  have hbr : Below w.heap.size w Wr := by
    rw [hWr]
    exact below_next (below_next (below_next (below_next HB1.out (below_box _)) (below_box _)) (below_box _)) (below_box _)
  have hn3 : Wr.heap[w.heap.size]? = some (.cells #[.slice pa at'.length ca] 23 (0, 0)) := by
    have h3 := lt_of_block HN1.out
    rw [hWr, Below.heap_alloc _ _ _ (by simp; omega), Below.heap_alloc _ _ _ (by simp; omega), Below.heap_alloc _ _ _ (by simp; omega), Below.heap_alloc _ _ _ (by omega)]
    exact HN1.out
  rw [← hWr]
  clear hWr HB1 HN1 c3 hz8 HB0 HN0 cU cA
  have HP0 := Lib.hid (show PgMem w.heap.size w.heap.size b8 (b8 + 1) (b8 + 1 + 1) [] Wr.heap.size [] js0 [] at' Wr from
    ⟨⟨_, hn3, HAT.out.below hbr⟩, ⟨_, hn8, World.ownsRow_nil _ _ _ _⟩, rfl, fun i hi => absurd hi (by simp), ⟨Nat.zero_le _, _, _, hn9, OwnP.nil _ _, World.ownsRow_nil _ _ _ _, fun _ => rfl⟩,
      ⟨by omega, _, hn10, World.ownsRow_nil _ _ _ _, by simp [Value.ownBlock]⟩, by omega, Nat.le_refl _, Nat.le_refl _, hs1, by omega⟩)
  have cT := steps_stops (9 - 1) (by omega) w.heap.size (b8 + 1 + 1 + 1) l p cap Wr (fun i hi h => text_pc (hval i hi) h) (fun i hi => by have := bulk_getD hi; omega) (fun i hi h => small_pc (hval i hi) h) (by omega) hn11 (by omega) HT.out.2.2 (Utf8Tabs_below HT.out.2.1 hbr) (HV.out.below hbr)
  have hpl : (placed 0 (singleL l)).length ≤ 9000 := by rw [placed_len]; exact hNs
  have HBR := Lib.hid hbr
  clear hn3 hn8 hn9 hn10 hn11 hbr HV HAT hval
  refine wpIn_rangeFunc_ownH rfl (by omega) (gf := 72) (lb := #[.pointer (some ⟨b8 + 1 + 1 + 1, 0, none⟩)]) rfl trivial (enters_of Tryz.func72 (by kernel_rfl) rfl)
    cT KpS.t (KpS.b (by omega)) (Below.refl _ _) (fun _ => rfl)
    (fun pre W' => (∃ us Bp, PgMem w.heap.size w.heap.size b8 (b8 + 1) (b8 + 1 + 1) us Bp (psRun at' pre).out (psRun at' pre).j (psRun at' pre).opn (psRun at' pre).rest W') ∧ Below w.heap.size w W')
    (fun _ _ _ => False)
    (fun pre X Y row ⟨⟨us, Bp, h1⟩, h2⟩ hg hr => ⟨⟨us, Bp, h1.turned (base := Wr.heap.size) (by omega) hg hr⟩, h2.grown hg h2.size (fun k e => by have := (hr k e).1; omega)⟩)
    (fun _ _ _ _ _ h _ _ => h.elim)
    ⟨⟨[], _, HP0.out⟩, HBR.out⟩
    (fun y a' W' => (∃ b12 : Nat, a' = { tmps := #[.slice p l.length cap, .slice pa at'.length ca, undef, .pointer (some ⟨w.heap.size, 0, none⟩), .slice none 0 0, .int .u8 0, .int .i64 (nUnits l : Nat), .int .u8 0, .pointer (some ⟨b8, 0, none⟩), .pointer (some ⟨b8 + 1, 0, none⟩), .pointer (some ⟨b8 + 1 + 1, 0, none⟩), .int .i64 (y.1 : Int), .pointer (some ⟨b12, 0, none⟩), undef, undef, undef, undef, .tuple #[.int .i64 (nUnits l : Nat), .int .u8 0], .slice p l.length cap, .tuple #[.int .i64 (nUnits l : Nat), .int .u8 0], .int .i64 (nUnits l : Nat), .int .u8 0, .int .u8 0, .bool false, undef, .slice pa at'.length ca, .int .i64 (nUnits l : Nat), .bool true, .bool false, .slice p l.length cap, .func (.func 72) #[] #[.pointer (some ⟨b8 + 1 + 1 + 1, 0, none⟩)], .int .i64 (y.1 : Int), pcV (clip y.2), undef, undef, undef, undef, undef, undef, undef, undef, undef, undef, undef, undef, undef, undef, undef, undef, undef, undef, undef, undef, undef, undef, undef, undef, undef, undef, undef, undef, undef, undef, undef, undef, undef, undef, undef, undef, undef, undef, undef, undef, undef, undef, undef, undef, undef, undef, undef, undef, undef, undef], defers := [] } ∧ W'.heap[b12]? = some (pcC (clip y.2))))
    (fun y a' _ X Y row ⟨b4, h1, h2⟩ hg hr => ⟨b4, h1, (hg.block _ (lt_of_block h2) (fun e => by obtain ⟨o, ho, hc⟩ := (hr _ e.symm).2; rw [h2] at ho; cases ho; cases hc)).trans h2⟩)
    ?assign ?body ?done ?stop
  case assign =>
    rintro l1 pre y W1 K ⟨⟨us, Bp, h1⟩, h2⟩ hK
    have HK := Lib.hid hK
    have hs2 := h2.size
    have HB1 := Lib.hid (below_box (w := W1) (pcC (clip y.2)))
    have HN1 := Lib.hid (heap_alloc_new W1 (pcC (clip y.2)))
    have HP1 := Lib.hid (h1.step HB1.out)
    have HL1 := Lib.hid (h2.trans (HB1.out.mono hs2))
    clear hK h1 h2
    unfold encS
    generalize clip y.2 = q at *
    obtain ⟨k, s, c⟩ := q
    unfold pcC at HB1 HN1 HP1 HL1
    unfold pcV
    gi_wp2
    exact HK.out _ _ (KeepsFrom.of_below HB1.out) (KpS.of_below hs2 HB1.out) ⟨⟨us, Bp, HP1.out⟩, HL1.out⟩ ⟨_, rfl, HN1.out⟩
  case body =>
    rintro lp pre y a' W1 hlp ⟨r0, hr0⟩ ⟨⟨us, Bp, h1⟩, h2⟩ ⟨b12, rfl, h4⟩ hlt
    have hF := few_run at' pre
    have HST := Lib.hid (psRun_app at' pre y)
    have hlen : pre.length ≤ 9000 := by omega
    generalize psRun at' pre = st at *
    generalize pre.length = m at *
    have HW := Lib.hid h2
    have hsz1 := h2.size
    have hx16 := clip_small y.2
    have HY1 := Lib.hid (show psHere st y = false → psRun at' (pre ++ [y]) = ⟨st.out, js3 (clip y.2) st.j, cutOpn st.opn (clip y.2), st.rest⟩ from fun h => by rw [HST.out]; unfold psStep psPre; rw [h]; rfl)
    have HY2 := Lib.hid (show psHere st y = true → psRun at' (pre ++ [y]) = ⟨st.out ++ [jDone (jPut st.j (closersP st.opn))], js3 (clip y.2) (jPut js0 (openersP st.opn)), cutOpn st.opn (clip y.2), st.rest.tail⟩ from fun h => by rw [HST.out]; unfold psStep psPre; rw [h]; rfl)
    have hH : psHere st y = (match st.rest with | [] => false | p :: _ => decide ((y.1 : Int) = p) && decide ((clip y.2).k ≠ 3)) := rfl
    have hop := hF.op
    have hjo := hF.o
    have hjt := hF.t
    have hout := hF.out
    have hnm := Lib.hid hF.nm
    clear HST hF
    generalize clip y.2 = q at *
    generalize psHere st y = hb at *
    obtain ⟨out, j, opn, rest⟩ := st
    dsimp only at *
    have hB1 : w.heap.size ≤ W1.heap.size := hsz1
    have HA1 := Lib.hid (Acc.refl w.heap.size W1)
    have HQ1 := Lib.hid h4
    have HP1 := Lib.hid h1
    have hb12 := lt_of_block h4
    obtain ⟨v3, h31, p3, cap3, rfl, h33, h34, h35⟩ := h1.at3
    have c3 : W1.cell? ⟨w.heap.size, 0, none⟩ = some (.slice p3 rest.length cap3) := (Lib.cell_of_heap h31 0).trans rfl
    obtain ⟨z0, z1, z2⟩ := pc_box h4
    have hlb := lt_of_block h31
    have ag := Tryz.isAgg52
    have zg := Tryz.sizeOf52
    have hn2 : 1 ≤ 9 - 1 := by decide
    have cF := fun us Bp out j rest W (hP : PgMem w.heap.size w.heap.size b8 (b8 + 1) (b8 + 1 + 1) us Bp out j opn rest W) => followS_any w.heap.size (b8 + 1 + 1) opn q W hP.stk (by omega) (Nat.le_trans hP.le hP.lt)
    have cP := fun us Bp out (j : Js) op2 rest W (hP : PgMem w.heap.size w.heap.size b8 (b8 + 1) (b8 + 1 + 1) us Bp out j op2 rest W) (hb1 : j.t.length ≤ 1000000) (hb2 : j.o.length ≤ 1000000) => putPcC_any Bp (b8 + 1) j q W hP.jn (by omega) (by omega) hP.lt
    obtain ⟨k, s, c⟩ := q
    unfold pcV at cF cP ⊢
    dsimp only at z0 z1 z2 hH hx16
    have HR0 := Lib.hid hr0
    clear h1 h2 h4 hr0 HP0 HBR cT h31 hlt
    rcases rest with _ | ⟨pl, r⟩
    · dsimp only at hH
      have HY := Lib.hid (HY1.out hH)
      clear HY1 HY2 h35
      gi_wp2_with (first
        | (refine ⟨trivial, ?_⟩; gi_at_call 39; (with_reducible refine (CallsIn.inRound lp (callsIn_wide.2 (cF _ _ _ _ _ _ HP1.out))).mono ?_); rintro e w3 ⟨⟨z, rfl⟩, hs3, hb3, hk3⟩; have HP3 := Lib.hid (HP1.out.stack hs3 hb3 hk3); have HA3 := Lib.hid (HA1.out.trans (Acc.ofS hb3 hk3)); have HQ3 := Lib.hid (HA3.out.calm.same _ _ HQ1.out (calmI_pc _)); obtain ⟨x0, x1, x2⟩ := pc_box HQ3.out; dsimp only at x0 x1 x2; clear hs3 hb3 hk3)
        | (refine ⟨trivial, ?_⟩; gi_at_call 37; (with_reducible refine (CallsIn.inRound lp (callsIn_wide.2 (cP _ _ _ _ _ _ _ HP3.out (by omega) (by omega)))).mono ?_); rintro e w4 ⟨rfl, hj4, hk4, hc4⟩; have HP4 := Lib.hid (HP3.out.join hj4 hk4 hc4); have HA4 := Lib.hid (HA3.out.trans (Acc.ofJ (hk4.below HP3.out.le HP3.out.l9) hc4)); clear hj4 hk4 hc4))
      exact ⟨HA4.out.from, HA4.out.kp, ⟨us, Bp, by rw [HY.out]; exact HP4.out⟩, HW.out.trans HA4.out.bel⟩
    · obtain ⟨A3, rfl, hA3, hc3⟩ := h35 (by simp)
      have e3 : W1.cell? A3 = some (.int .i64 pl) := by have := hc3 0 0 (by simp) (by omega); simpa [atF, Addr.add] using this
      have e3' : W1.cell? (A3.add 0) = some (.int .i64 pl) := by have := hc3 0 0 (by simp) (by omega); simpa [atF] using this
      have hl1 : (0 : Int) < (r.length : Int) + 1 := by omega
      have hl2 : (0 : Int) < ((r.length + 1 : Nat) : Int) := by omega
      clear h35
      dsimp only at hH
      by_cases hpl2 : (y.1 : Int) = pl
      · by_cases hk3 : k = 3
        · have hpb : ((y.1 : Int) == pl) = true := by simp [hpl2]
          subst hk3
          have HY := Lib.hid (HY1.out (by rw [hH]; simp))
          clear HY1 HY2 hpl2
          gi_wp2_with (first
            | (refine ⟨trivial, ?_⟩; gi_at_call 39; (with_reducible refine (CallsIn.inRound lp (callsIn_wide.2 (cF _ _ _ _ _ _ HP1.out))).mono ?_); rintro e w3 ⟨⟨z, rfl⟩, hs3, hb3, hk3⟩; have HP3 := Lib.hid (HP1.out.stack hs3 hb3 hk3); have HA3 := Lib.hid (HA1.out.trans (Acc.ofS hb3 hk3)); have HQ3 := Lib.hid (HA3.out.calm.same _ _ HQ1.out (calmI_pc _)); obtain ⟨x0, x1, x2⟩ := pc_box HQ3.out; dsimp only at x0 x1 x2; clear hs3 hb3 hk3)
            | (refine ⟨trivial, ?_⟩; gi_at_call 37; (with_reducible refine (CallsIn.inRound lp (callsIn_wide.2 (cP _ _ _ _ _ _ _ HP3.out (by omega) (by omega)))).mono ?_); rintro e w4 ⟨rfl, hj4, hk4, hc4⟩; have HP4 := Lib.hid (HP3.out.join hj4 hk4 hc4); have HA4 := Lib.hid (HA3.out.trans (Acc.ofJ (hk4.below HP3.out.le HP3.out.l9) hc4)); clear hj4 hk4 hc4))
          exact ⟨HA4.out.from, HA4.out.kp, ⟨us, Bp, by rw [HY.out]; exact HP4.out⟩, HW.out.trans HA4.out.bel⟩
        · have HY := Lib.hid (HY2.out (by rw [hH]; simp [hk3, hpl2]))
          clear HY1 HY2
          have hpb : ((y.1 : Int) == pl) = true := by simp [hpl2]
          have hkb : (k != 3) = true := by simp [hk3]
          have hl0 := lt_of_block HR0.out
          obtain ⟨ao, ca2, h10, hr10⟩ := HP1.out.stack_form
          have c10 : W1.cell? ⟨b8 + 1 + 1, 0, none⟩ = some (.slice ao opn.length ca2) := (Lib.cell_of_heap h10 0).trans rfl
          have cK := fun W => back_any ao opn.length ca2 W
          clear h10
          gi_wp2_with (refine ⟨trivial, ?_⟩; gi_at_call 36; (with_reducible refine (CallsIn.inRound lp (callsIn_wide.2 (cK _))).mono ?_); rintro e w3 ⟨rfl, rfl⟩)
          have hs3 : (W1.alloc (.cells #[.slice ao opn.length ca2] 67)).heap.size = W1.heap.size + 1 := by simp
          have HBX := Lib.hid (below_box (w := W1) (.cells #[.slice ao opn.length ca2] 67))
          have HXB := Lib.hid (heap_alloc_new W1 (.cells #[.slice ao opn.length ca2] 67))
          have HP3 := Lib.hid (HP1.out.step HBX.out)
          have HA3 := Lib.hid (HA1.out.trans (Acc.step hB1 HBX.out))
          have HR3 := Lib.hid ((HBX.out.block _ hl0).trans HR0.out)
          have hr3 := ownsRow_step HBX.out hr10
          generalize W1.alloc (.cells #[.slice ao opn.length ca2] 67) = W3 at *
          have cB := back_stops (9 - 1 - 1 - 1) (by omega) w.heap.size W1.heap.size opn (.slice ao opn.length ca2) W3 (fun s hs => by have := hnm.out s hs; omega) (by omega) HXB.out hr3
          refine wpIn_rangeFunc_ownN rfl HR3.out (by omega) (gf := 74) (lb := #[.pointer (some ⟨W1.heap.size, 0, none⟩)]) rfl trivial (enters_of Tryz.func74 (by kernel_rfl) rfl)
            (SeqStopsK.inRound lp cB) (fun h k => h.trans k) (fun W l o o' _ h hc _ => keepsK_b W l o o' h hc) (Below.refl _ _) (fun _ => rfl)
            (fun pre2 W' => PgMem w.heap.size w.heap.size b8 (b8 + 1) (b8 + 1 + 1) us Bp out (jPut j (pre2.map clP)) opn (pl :: r) W' ∧ Acc w.heap.size W1 W')
            (fun _ _ _ => False)
            (fun pre2 X Y row ⟨g1, g2⟩ hg hr => ⟨g1.turned (base := W3.heap.size) (by omega) hg hr, g2.turned (base := W3.heap.size) (by omega) (by omega) (by have := g2.bel.size; omega) hg hr⟩)
            (fun _ _ _ _ _ h _ _ => h.elim)
            ⟨HP3.out, HA3.out⟩
            (fun y2 a' _ => a' = { tmps := #[.slice p l.length cap, .slice pa at'.length ca, undef, .pointer (some ⟨w.heap.size, 0, none⟩), .slice none 0 0, .int .u8 0, .int .i64 (nUnits l : Nat), .int .u8 0, .pointer (some ⟨b8, 0, none⟩), .pointer (some ⟨b8 + 1, 0, none⟩), .pointer (some ⟨b8 + 1 + 1, 0, none⟩), .int .i64 pl, .pointer (some ⟨b12, 0, none⟩), undef, .string (clipS y2.2), undef, undef, .tuple #[.int .i64 (nUnits l : Nat), .int .u8 0], .slice p l.length cap, .tuple #[.int .i64 (nUnits l : Nat), .int .u8 0], .int .i64 (nUnits l : Nat), .int .u8 0, .int .u8 0, .bool false, undef, .slice pa at'.length ca, .int .i64 (nUnits l : Nat), .bool true, .bool false, .slice p l.length cap, .func (.func 72) #[] #[.pointer (some ⟨b8 + 1 + 1 + 1, 0, none⟩)], .int .i64 pl, .agg #[.int .u8 k, .string s, .bool c], .slice (some A3) (r.length + 1) cap3, .int .i64 ((r.length : Int) + 1), .bool true, .bool true, .int .i64 pl, .slice (some A3) (r.length + 1) cap3, .pointer (some A3), .int .i64 pl, .bool true, .bool true, .bool true, .pointer (some ⟨b12, 0, none⟩), .int .u8 k, .bool true, .bool true, .slice ao opn.length ca2, .func (.func 74) #[] #[.pointer (some ⟨W1.heap.size, 0, none⟩)], .int .i64 (y2.1 : Int), .string (clipS y2.2), undef, undef, undef, undef, undef, undef, undef, undef, undef, undef, undef, undef, undef, undef, undef, undef, undef, undef, undef, undef, undef, undef, undef, undef, undef, undef, undef, undef, undef, undef, undef], defers := [] })
            (fun _ _ _ _ _ _ h _ _ => h)
            ?assign2 ?body2 ?done2 ?stop2
          case assign2 =>
            rintro l2 pre2 y2 W4 K ⟨g1, g2⟩ hK
            have HK := Lib.hid hK
            have HG := Lib.hid (And.intro g1 g2)
            clear hK g1 g2
            unfold encB
            gi_wp2
            exact HK.out _ _ (KeepsFrom.refl _ _) (Keeps.refl _ _) HG.out rfl
          case body2 =>
            rintro lp2 pre2 y2 a2 W4 hlp2 ⟨r2, hr2⟩ ⟨g1, g2⟩ rfl hlt2
            have HPP := Lib.hid g1
            have HAA := Lib.hid g2
            have HMP := Lib.hid (show jPut j ((pre2 ++ [y2]).map clP) = js3 (clP y2) (jPut j (pre2.map clP)) by rw [List.map_append]; exact jPut_app _ _ _)
            have b1 := jPut_o (pre2.map clP) j
            have b2 := jPut_t (pre2.map clP) (fun x hx => by obtain ⟨z, _, rfl⟩ := List.mem_map.1 hx; exact (by decide : ¬ (3 : Int) = 1)) j
            rw [List.length_map] at b1
            have b3 := clipS_small y2.2
            have cP2 := putPcC_any Bp (b8 + 1) (jPut j (pre2.map clP)) (clP y2) W4 g1.jn (by show (jPut j (pre2.map clP)).t.length + (clipS y2.2).size ≤ _; omega) (by omega) g1.lt
            unfold clP pcV at cP2
            dsimp only at cP2
            unfold clP at HMP
            clear g1 g2 hr2 b1 b2 cP cF
            generalize clipS y2.2 = s2 at *
            gi_wp2_with (refine ⟨trivial, ?_⟩; gi_at_call 37; (with_reducible refine (CallsIn.inRound lp2 (CallsIn.inRound lp (callsIn_wide.2 cP2))).mono ?_); rintro e w4 ⟨rfl, hj4, hk4, hc4⟩; have HP4 := Lib.hid (HPP.out.join hj4 hk4 hc4); have HA4 := Lib.hid (Acc.ofJ (hk4.below HPP.out.le HPP.out.l9) hc4); have HC4 := Lib.hid (hc4.mono fun _ => calmK_J); clear hj4 hk4 hc4)
            exact ⟨HA4.out.from, HC4.out, by unfold clP; rw [HMP.out]; exact HP4.out, HAA.out.trans HA4.out⟩
          case done2 =>
            rintro ys2 Wd rfl ⟨g1, g2⟩
            rw [back_closers hnm.out] at g1
            have HPc := Lib.hid g1
            have HAc := Lib.hid g2
            clear g1 g2 cB HP3 HA3 HXB HBX HR3 hr3 HP1 HA1
            gi_wp2
            have HPd := Lib.hid (HPc.out.step (w' := Wd.drew) ⟨rfl, rfl, rfl, Nat.le_refl _, fun _ _ => rfl⟩)
            have HAd := Lib.hid (HAc.out.trans (Acc.step (W := Wd) (W' := Wd.drew) (by have := HAc.out.bel.size; omega) ⟨rfl, rfl, rfl, Nat.le_refl _, fun _ _ => rfl⟩))
            obtain ⟨v8, h8d, hr8⟩ := HPd.out.prt
            obtain ⟨o8, q8, rfl⟩ : ∃ o8 q8, v8 = .slice o8 out.length q8 := by
              rcases hr8.2 with ⟨rfl, h0⟩ | ⟨g, cp, cur, hv8, _⟩
              · exact ⟨none, 0, by rw [h0]⟩
              · exact ⟨_, _, hv8⟩
            have c8 : Wd.drew.cell? ⟨b8, 0, none⟩ = some (.slice o8 out.length q8) := (Lib.cell_of_heap h8d 0).trans rfl
            have b1 := jPut_o (closersP opn) j
            have b2 := jPut_t (closersP opn) (closers_k opn) j
            have b4 : (closersP opn).length = opn.length := by unfold closersP; simp
            have cDn := doneC_any Bp (b8 + 1) (jPut j (closersP opn)).o (jPut j (closersP opn)).t Wd.drew HPd.out.jn (by omega) (by omega) HPd.out.lt
            obtain ⟨i0, hi0, hz0, hz1, hz2⟩ := info_parts info_pcs
            have hol : out.length ≤ 1000 := by omega
            refine wpIn_mono (Q := fun e a' wx => e = Exit.normal ∧ ∃ v55 v56 v57 v58, a' = { tmps := #[.slice p l.length cap, .slice pa at'.length ca, undef, .pointer (some ⟨w.heap.size, 0, none⟩), .slice none 0 0, .int .u8 0, .int .i64 (nUnits l : Nat), .int .u8 0, .pointer (some ⟨b8, 0, none⟩), .pointer (some ⟨b8 + 1, 0, none⟩), .pointer (some ⟨b8 + 1 + 1, 0, none⟩), .int .i64 pl, .pointer (some ⟨b12, 0, none⟩), undef, undef, undef, undef, .tuple #[.int .i64 (nUnits l : Nat), .int .u8 0], .slice p l.length cap, .tuple #[.int .i64 (nUnits l : Nat), .int .u8 0], .int .i64 (nUnits l : Nat), .int .u8 0, .int .u8 0, .bool false, undef, .slice pa at'.length ca, .int .i64 (nUnits l : Nat), .bool true, .bool false, .slice p l.length cap, .func (.func 72) #[] #[.pointer (some ⟨b8 + 1 + 1 + 1, 0, none⟩)], .int .i64 pl, .agg #[.int .u8 k, .string s, .bool c], .slice (some A3) (r.length + 1) cap3, .int .i64 ((r.length : Int) + 1), .bool true, .bool true, .int .i64 pl, .slice (some A3) (r.length + 1) cap3, .pointer (some A3), .int .i64 pl, .bool true, .bool true, .bool true, .pointer (some ⟨b12, 0, none⟩), .int .u8 k, .bool true, .bool true, .slice ao opn.length ca2, .func (.func 74) #[] #[.pointer (some ⟨W1.heap.size, 0, none⟩)], undef, undef, undef, undef, undef, v55, v56, v57, v58, undef, undef, undef, undef, undef, undef, undef, undef, undef, undef, undef, undef, undef, undef, undef, undef, undef, undef, undef, undef, undef, undef, undef, undef], defers := [] } ∧ PartEnd w.heap.size w.heap.size b8 (b8 + 1) (b8 + 1 + 1) us Bp out (jDone (jPut j (closersP opn))) opn (pl :: r) W1 wx) ?reg ?rest16
            case reg =>
              clear HPc HAc cF cP
              refine wpIn_region_any (by kernel_rfl) ?_
              change wpAnyIn _ _ _ _ _ _ _ _ _ (World.drew _)
              refine wpAnyIn_ready (rs := [0, 1]) (by kernel_rfl) (by simp) ?_
              refine AllReadyIn.cons rfl (fun K hK => ?_) ?_
              · go_simp
                refine hK _ _ ?_
                clear hK K
                refine wpAnyIn_ready (rs := [1]) (by kernel_rfl) (by simp) ?_
                refine AllReadyIn.cons rfl (fun K hK => ?_) ?_
                rotate_left
                · exact AllReadyIn.nil
                go_simp
                gi_wp2_with (refine ⟨trivial, ?_⟩; gi_at_call 38; (with_reducible refine (CallsIn.inRound lp (callsIn_wide.2 cDn)).mono ?_); rintro e w4 ⟨u, rfl, hu4, hj4, hk4, hc4⟩; have HU4 := Lib.hid (show OwnP Bp u (jDone (jPut j (closersP opn))) w4 from hu4); have HP4 := Lib.hid (HPd.out.join (j' := ⟨jDone (jPut j (closersP opn)), [], nil, false⟩) hj4 hk4 hc4); have HA4 := Lib.hid (HAd.out.trans (Acc.ofJ (hk4.below HPd.out.le HPd.out.l9) hc4)); have h84 := hc4.same _ _ h8d (show calmJ _ from ⟨by decide, by decide, fun e => absurd e (by decide)⟩); have c84 : w4.cell? ⟨b8, 0, none⟩ = some (.slice o8 out.length q8) := (Lib.cell_of_heap h84 0).trans rfl; have hr84 := hc4.row hr8 (fun _ => (show calmJ _ from ⟨by decide, by decide, fun e => absurd e (by decide)⟩)); have hl84 := lt_of_block h84; obtain ⟨uo, uc, rfl⟩ := HU4.out.form; have H84 := Lib.hid h84; clear hu4 hj4 hk4 hc4 h84)
                first | (refine hK _ _ ?_) | skip
                try clear hK K
                refine wpAnyIn_ready (rs := [2]) (by kernel_rfl) (by simp) ?_
                refine AllReadyIn.cons rfl (fun K hK => ?_) ?_
                rotate_left
                · exact AllReadyIn.nil
                go_simp
                refine hK _ _ ?_
                clear hK K
                refine wpAnyIn_ready (rs := [3]) (by kernel_rfl) (by simp) ?_
                refine AllReadyIn.cons rfl (fun K hK => ?_) ?_
                rotate_left
                · exact AllReadyIn.nil
                refine stepIn_append_own rfl (.tmp 55) (.tmp 57) 24 rfl w.heap.size 22 i0 (.slice none 0 0) 1 24 Tryz.underlying24 hi0 hz0 hz1 hz2 rfl (by decide) (.slice o8 out.length q8) (out).length us (by simp [Act.eval]) (hr84.alloc _) ⟨w4.heap.size, 0, none⟩ 1 1 [.slice uo (jDone (jPut j (closersP opn))).length uc] (by simp [Act.eval]) rfl (cell_one_new _ _ _) (by simp [Value.oneCell']) (by unfold maxLen; omega) (by omega) (by simp; omega) ?_
                intro v9 w6 hown6 hgrow6
                refine hK _ _ ?_
                clear hK K
                have hk6 : Keeps calmQ w4 w6 := ((Keeps.refl calmQ w4).alloc _).trans (Keeps.grown (hr84.alloc _) hgrow6 (fun _ h => h.1 rfl))
                have hb6 : Below w.heap.size w4 w6 := ((Below.refl _ w4).alloc (by have := HA4.out.bel.size; omega) _).grown hgrow6 (by have := HA4.out.bel.size; simp; omega) (fun k e => (hr84.lt k e).1)
                have h86 : w6.heap[b8]? = some (.cells #[.slice o8 out.length q8] 24 (0, 0)) := (hgrow6.block b8 (by simp; omega) (fun e => own_other hr84 H84.out (by decide) e.symm)).trans ((Below.heap_alloc _ _ _ hl84).trans H84.out)
                have c86 : w6.cell? ⟨b8, 0, none⟩ = some (.slice o8 out.length q8) := (Lib.cell_of_heap h86 0).trans rfl
                have f86 : w6.frozen? ⟨b8, 0, none⟩ = false := Lib.frozen_of_heap h86 0
                have HEND := Lib.hid (show PartEnd w.heap.size w.heap.size b8 (b8 + 1) (b8 + 1 + 1) us Bp (out) (jDone (jPut j (closersP opn))) (opn) (pl :: r) W1 (w6.setCell ⟨b8, 0, none⟩ v9) from ⟨w4, w6, _, v9, _, HP4.out, HU4.out, hk6, hb6, ⟨_, h86, rfl⟩, hown6, rfl, HA4.out.trans ((Acc.ofQ hb6 hk6).trans (Acc.set h86 HP4.out.l8 (not_calmI_of (by decide) (by decide)) 0 _))⟩)
                obtain ⟨o9, c9, rfl⟩ : ∃ o9 c9, v9 = .slice o9 ((out).length + 1) c9 := by
                  rcases hown6.2 with ⟨_, h0⟩ | ⟨g, cp, cur, hv9, _⟩
                  · omega
                  · exact ⟨_, _, hv9⟩
                clear hown6 hgrow6 hk6 hb6 h86
                refine wpAnyIn_ready (rs := [4]) (by kernel_rfl) (by simp) ?_
                refine AllReadyIn.cons rfl (fun K hK => ?_) ?_
                rotate_left
                · exact AllReadyIn.nil
                go_simp
                refine hK _ _ ?_
                clear hK K
                refine wpAnyIn_done (by kernel_rfl) ?_ _
                exact ⟨rfl, _, _, _, _, rfl, HEND.out⟩
              refine AllReadyIn.cons rfl (fun K hK => ?_) ?_
              rotate_left
              · exact AllReadyIn.nil
              go_simp
              gi_wp2_with (refine ⟨trivial, ?_⟩; gi_at_call 38; (with_reducible refine (CallsIn.inRound lp (callsIn_wide.2 cDn)).mono ?_); rintro e w4 ⟨u, rfl, hu4, hj4, hk4, hc4⟩; have HU4 := Lib.hid (show OwnP Bp u (jDone (jPut j (closersP opn))) w4 from hu4); have HP4 := Lib.hid (HPd.out.join (j' := ⟨jDone (jPut j (closersP opn)), [], nil, false⟩) hj4 hk4 hc4); have HA4 := Lib.hid (HAd.out.trans (Acc.ofJ (hk4.below HPd.out.le HPd.out.l9) hc4)); have h84 := hc4.same _ _ h8d (show calmJ _ from ⟨by decide, by decide, fun e => absurd e (by decide)⟩); have c84 : w4.cell? ⟨b8, 0, none⟩ = some (.slice o8 out.length q8) := (Lib.cell_of_heap h84 0).trans rfl; have hr84 := hc4.row hr8 (fun _ => (show calmJ _ from ⟨by decide, by decide, fun e => absurd e (by decide)⟩)); have hl84 := lt_of_block h84; obtain ⟨uo, uc, rfl⟩ := HU4.out.form; have H84 := Lib.hid h84; clear hu4 hj4 hk4 hc4 h84)
              first | (refine hK _ _ ?_) | skip
              try clear hK K
              refine wpAnyIn_ready (rs := [0, 2]) (by kernel_rfl) (by simp) ?_
              refine AllReadyIn.cons rfl (fun K hK => ?_) ?_
              · go_simp
                refine hK _ _ ?_
                clear hK K
                refine wpAnyIn_ready (rs := [2]) (by kernel_rfl) (by simp) ?_
                refine AllReadyIn.cons rfl (fun K hK => ?_) ?_
                rotate_left
                · exact AllReadyIn.nil
                go_simp
                refine hK _ _ ?_
                clear hK K
                refine wpAnyIn_ready (rs := [3]) (by kernel_rfl) (by simp) ?_
                refine AllReadyIn.cons rfl (fun K hK => ?_) ?_
                rotate_left
                · exact AllReadyIn.nil
                refine stepIn_append_own rfl (.tmp 55) (.tmp 57) 24 rfl w.heap.size 22 i0 (.slice none 0 0) 1 24 Tryz.underlying24 hi0 hz0 hz1 hz2 rfl (by decide) (.slice o8 out.length q8) (out).length us (by simp [Act.eval]) (hr84.alloc _) ⟨w4.heap.size, 0, none⟩ 1 1 [.slice uo (jDone (jPut j (closersP opn))).length uc] (by simp [Act.eval]) rfl (cell_one_new _ _ _) (by simp [Value.oneCell']) (by unfold maxLen; omega) (by omega) (by simp; omega) ?_
                intro v9 w6 hown6 hgrow6
                refine hK _ _ ?_
                clear hK K
                have hk6 : Keeps calmQ w4 w6 := ((Keeps.refl calmQ w4).alloc _).trans (Keeps.grown (hr84.alloc _) hgrow6 (fun _ h => h.1 rfl))
                have hb6 : Below w.heap.size w4 w6 := ((Below.refl _ w4).alloc (by have := HA4.out.bel.size; omega) _).grown hgrow6 (by have := HA4.out.bel.size; simp; omega) (fun k e => (hr84.lt k e).1)
                have h86 : w6.heap[b8]? = some (.cells #[.slice o8 out.length q8] 24 (0, 0)) := (hgrow6.block b8 (by simp; omega) (fun e => own_other hr84 H84.out (by decide) e.symm)).trans ((Below.heap_alloc _ _ _ hl84).trans H84.out)
                have c86 : w6.cell? ⟨b8, 0, none⟩ = some (.slice o8 out.length q8) := (Lib.cell_of_heap h86 0).trans rfl
                have f86 : w6.frozen? ⟨b8, 0, none⟩ = false := Lib.frozen_of_heap h86 0
                have HEND := Lib.hid (show PartEnd w.heap.size w.heap.size b8 (b8 + 1) (b8 + 1 + 1) us Bp (out) (jDone (jPut j (closersP opn))) (opn) (pl :: r) W1 (w6.setCell ⟨b8, 0, none⟩ v9) from ⟨w4, w6, _, v9, _, HP4.out, HU4.out, hk6, hb6, ⟨_, h86, rfl⟩, hown6, rfl, HA4.out.trans ((Acc.ofQ hb6 hk6).trans (Acc.set h86 HP4.out.l8 (not_calmI_of (by decide) (by decide)) 0 _))⟩)
                obtain ⟨o9, c9, rfl⟩ : ∃ o9 c9, v9 = .slice o9 ((out).length + 1) c9 := by
                  rcases hown6.2 with ⟨_, h0⟩ | ⟨g, cp, cur, hv9, _⟩
                  · omega
                  · exact ⟨_, _, hv9⟩
                clear hown6 hgrow6 hk6 hb6 h86
                refine wpAnyIn_ready (rs := [4]) (by kernel_rfl) (by simp) ?_
                refine AllReadyIn.cons rfl (fun K hK => ?_) ?_
                rotate_left
                · exact AllReadyIn.nil
                go_simp
                refine hK _ _ ?_
                clear hK K
                refine wpAnyIn_done (by kernel_rfl) ?_ _
                exact ⟨rfl, _, _, _, _, rfl, HEND.out⟩
              refine AllReadyIn.cons rfl (fun K hK => ?_) ?_
              rotate_left
              · exact AllReadyIn.nil
              go_simp
              refine hK _ _ ?_
              clear hK K
              refine wpAnyIn_ready (rs := [0]) (by kernel_rfl) (by simp) ?_
              refine AllReadyIn.cons rfl (fun K hK => ?_) ?_
              rotate_left
              · exact AllReadyIn.nil
              go_simp
              refine hK _ _ ?_
              clear hK K
              refine wpAnyIn_ready (rs := [3]) (by kernel_rfl) (by simp) ?_
              refine AllReadyIn.cons rfl (fun K hK => ?_) ?_
              rotate_left
              · exact AllReadyIn.nil
              refine stepIn_append_own rfl (.tmp 55) (.tmp 57) 24 rfl w.heap.size 22 i0 (.slice none 0 0) 1 24 Tryz.underlying24 hi0 hz0 hz1 hz2 rfl (by decide) (.slice o8 out.length q8) (out).length us (by simp [Act.eval]) (hr84.alloc _) ⟨w4.heap.size, 0, none⟩ 1 1 [.slice uo (jDone (jPut j (closersP opn))).length uc] (by simp [Act.eval]) rfl (cell_one_new _ _ _) (by simp [Value.oneCell']) (by unfold maxLen; omega) (by omega) (by simp; omega) ?_
              intro v9 w6 hown6 hgrow6
              refine hK _ _ ?_
              clear hK K
              have hk6 : Keeps calmQ w4 w6 := ((Keeps.refl calmQ w4).alloc _).trans (Keeps.grown (hr84.alloc _) hgrow6 (fun _ h => h.1 rfl))
              have hb6 : Below w.heap.size w4 w6 := ((Below.refl _ w4).alloc (by have := HA4.out.bel.size; omega) _).grown hgrow6 (by have := HA4.out.bel.size; simp; omega) (fun k e => (hr84.lt k e).1)
              have h86 : w6.heap[b8]? = some (.cells #[.slice o8 out.length q8] 24 (0, 0)) := (hgrow6.block b8 (by simp; omega) (fun e => own_other hr84 H84.out (by decide) e.symm)).trans ((Below.heap_alloc _ _ _ hl84).trans H84.out)
              have c86 : w6.cell? ⟨b8, 0, none⟩ = some (.slice o8 out.length q8) := (Lib.cell_of_heap h86 0).trans rfl
              have f86 : w6.frozen? ⟨b8, 0, none⟩ = false := Lib.frozen_of_heap h86 0
              have HEND := Lib.hid (show PartEnd w.heap.size w.heap.size b8 (b8 + 1) (b8 + 1 + 1) us Bp (out) (jDone (jPut j (closersP opn))) (opn) (pl :: r) W1 (w6.setCell ⟨b8, 0, none⟩ v9) from ⟨w4, w6, _, v9, _, HP4.out, HU4.out, hk6, hb6, ⟨_, h86, rfl⟩, hown6, rfl, HA4.out.trans ((Acc.ofQ hb6 hk6).trans (Acc.set h86 HP4.out.l8 (not_calmI_of (by decide) (by decide)) 0 _))⟩)
              obtain ⟨o9, c9, rfl⟩ : ∃ o9 c9, v9 = .slice o9 ((out).length + 1) c9 := by
                rcases hown6.2 with ⟨_, h0⟩ | ⟨g, cp, cur, hv9, _⟩
                · omega
                · exact ⟨_, _, hv9⟩
              clear hown6 hgrow6 hk6 hb6 h86
              refine wpAnyIn_ready (rs := [4]) (by kernel_rfl) (by simp) ?_
              refine AllReadyIn.cons rfl (fun K hK => ?_) ?_
              rotate_left
              · exact AllReadyIn.nil
              go_simp
              refine hK _ _ ?_
              clear hK K
              refine wpAnyIn_done (by kernel_rfl) ?_ _
              exact ⟨rfl, _, _, _, _, rfl, HEND.out⟩
            case rest16 =>
              clear c8 h8d hr8 cDn HPd HAd HPc HAc hi0 hz0 hz1 hz2
              rintro e a6 w6 ⟨rfl, v55, v56, v57, v58, rfl, hend⟩
              obtain ⟨vo, vt, h9⟩ := hend.box9
              have f90 := Lib.frozen_of_heap h9 0
              have f91 := Lib.frozen_of_heap h9 1
              have c90 : w6.cell? ⟨b8 + 1, 0, none⟩ = some vo := (Lib.cell_of_heap h9 0).trans rfl
              have c91 : w6.cell? ⟨b8 + 1, 1, none⟩ = some vt := (Lib.cell_of_heap h9 1).trans rfl
              obtain ⟨⟨us', Bp', hp7⟩, ha7⟩ := hend.reset
              have HP7 := Lib.hid hp7
              have HA7 := Lib.hid ha7
              obtain ⟨ao', ca', h10', hr10'⟩ := hp7.stack_form
              have c10' := (Lib.cell_of_heap h10' 0).trans rfl
              have HR7 := Lib.hid hr10'
              have hbp' := hp7.lt
              clear hend h9 hp7 ha7 h10' hr10'
              gi_wp2
              generalize (w6.setCell ⟨b8 + 1, 0, none⟩ (.slice none 0 0)).setCell ⟨b8 + 1, 1, none⟩ (.slice none 0 0) = w7 at *
              clear f90 f91 c90 c91
              have HP0 := Lib.hid (show PgMem w.heap.size w.heap.size b8 (b8 + 1) (b8 + 1 + 1) us' Bp' (out ++ [jDone (jPut j (closersP opn))]) (jPut js0 ((openersP opn).take 0)) opn (pl :: r) w7 from HP7.out)
              have b5 : (openersP opn).length = opn.length := by unfold openersP; simp
              gi_loopw [62] (fun v62 wr => ∃ i : Nat, v62 = .int .i64 i ∧ i ≤ opn.length ∧ Hid (PgMem w.heap.size w.heap.size b8 (b8 + 1) (b8 + 1 + 1) us' Bp' (out ++ [jDone (jPut j (closersP opn))]) (jPut js0 ((openersP opn).take i)) opn (pl :: r) wr) ∧ Hid (Acc w.heap.size W1 wr) ∧ Hid (wr.ownsRow w.heap.size 9 1 (.slice ao' opn.length ca') opn.length (opn.map Value.string))) (fun v62 _ => opn.length - (RowKit.intOf v62).toNat)
              case atStart => exact ⟨0, rfl, Nat.zero_le _, HP0.out, HA7.out, HR7.out⟩
              case round =>
                obtain ⟨i, rfl, hi, HPi, HAi, HRi⟩ := hrel
                clear HP0 HP7 HA7 HR7 c10' hbp'
                have b6 := jPut_o ((openersP opn).take i) js0
                have b7 := jPut_t ((openersP opn).take i) (fun x hx => openers_k opn x (List.mem_of_mem_take hx)) js0
                rw [List.length_take] at b6
                have b8' : js0.o.length = 0 ∧ js0.t.length = 0 := ⟨rfl, rfl⟩
                by_cases hlt3 : i < opn.length
                · have ltI : (i : Int) < (opn.length : Int) := by omega
                  have geI : (0 : Int) ≤ (i : Int) := by omega
                  obtain ⟨g, rfl⟩ : ∃ g, ao' = some ⟨g, 0, none⟩ := by
                    rcases HRi.out.2 with ⟨hv, h0⟩ | ⟨g, _, _, hv, _⟩
                    · omega
                    · injection hv with hv; exact ⟨g, hv⟩
                  have cr : wr.cell? ⟨g, i, none⟩ = some (.string (opn.getD i ByteArray.empty)) := by
                    rw [← add_at]
                    refine World.ownsRow.cells HRi.out (g := g) rfl i _ ?_
                    rw [List.getElem?_map, List.getD_eq_getElem?_getD, List.getElem?_eq_getElem hlt3]
                    rfl
                  have hsm : (opn.getD i ByteArray.empty).size ≤ 16 := by
                    rw [List.getD_eq_getElem?_getD, List.getElem?_eq_getElem hlt3]
                    exact hnm.out _ (List.getElem_mem _)
                  have HTK := Lib.hid (show jPut js0 ((openersP opn).take (i + 1)) = js3 ⟨2, opn.getD i ByteArray.empty, true⟩ (jPut js0 ((openersP opn).take i)) by
                    unfold openersP
                    rw [← List.map_take, take_succ_getS opn i hlt3, List.map_append, List.map_take]
                    exact jPut_app _ _ _)
                  have cP3 := putPcC_any Bp' (b8 + 1) (jPut js0 ((openersP opn).take i)) ⟨2, opn.getD i ByteArray.empty, true⟩ wr HPi.out.jn (by dsimp only; omega) (by omega) HPi.out.lt
                  unfold pcV at cP3
                  dsimp only at cP3
                  have c9 : Tryz.prog.cellsOf 9 = 1 := by kernel_rfl
                  clear cP cF hsm b6 b7 b8'
                  generalize opn.getD i ByteArray.empty = s3 at *
                  gi_wp2_with (refine ⟨trivial, ?_⟩; gi_at_call 37; (with_reducible refine (CallsIn.inRound lp (callsIn_wide.2 cP3)).mono ?_); rintro e w8 ⟨rfl, hj8, hk8, hc8⟩; have HP8 := Lib.hid (HPi.out.join hj8 hk8 hc8); have HA8 := Lib.hid (HAi.out.trans (Acc.ofJ (hk8.below HPi.out.le HPi.out.l9) hc8)); have HR8 := Lib.hid (hc8.row HRi.out (fun _ => (show calmJ _ from ⟨by decide, by decide, fun e => absurd e (by decide)⟩))); clear hj8 hk8 hc8)
                  go_roundw
                  case rel => exact ⟨i + 1, by go_num, by omega, by rw [HTK.out]; exact HP8.out, HA8.out, HR8.out⟩
                  case measure => simp [RowKit.intOf]; omega
                · have ltI : ¬ (i : Int) < (opn.length : Int) := by omega
                  obtain rfl : i = opn.length := by omega
                  rw [show (openersP opn).take opn.length = openersP opn by rw [← b5]; exact List.take_length] at HPi b6 b7
                  obtain ⟨v4, h41, p4, q4, rfl, h43, h44, h45⟩ := HPi.out.at3
                  have c4 : wr.cell? ⟨w.heap.size, 0, none⟩ = some (.slice p4 (r.length + 1) q4) := (Lib.cell_of_heap h41 0).trans rfl
                  have f4 := Lib.frozen_of_heap h41 0
                  have lt4 : (1 : Int) ≤ (r.length : Int) + 1 := by omega
                  simp only [List.length_cons] at h43 h45
                  have hq4 : (1 : Int) ≤ (q4 : Int) := by omega
                  have hq5 : (r.length : Int) + 1 ≤ (q4 : Int) := by omega
                  obtain ⟨A4, rfl, hA4, hc4⟩ := h45 (by omega)
                  by_cases hq1 : q4 = 1
                  · subst hq1
                    obtain rfl : r = [] := List.eq_nil_of_length_eq_zero (by omega)
                    have HP9 := Lib.hid (HPi.out.cutTail0 (A := A4))
                    have HA9 := Lib.hid (HAi.out.trans (Acc.set h41 HPi.out.l3 (not_calmI_of (by decide) (by decide)) 0 (.slice (some A4) 0 0)))
                    have HQ9 := Lib.hid (HA9.out.calm.same _ _ HQ1.out (calmI_pc _))
                    obtain ⟨t0, t1, t2⟩ := pc_box HQ9.out
                    dsimp only at t0 t1 t2
                    clear h41 h43 h44 h45 hc4 HPi HAi HRi hA4
                    gi_wp2_with (first
                      | (refine ⟨trivial, ?_⟩; gi_at_call 39; (with_reducible refine (CallsIn.inRound lp (callsIn_wide.2 (cF _ _ _ _ _ _ HP9.out))).mono ?_); rintro e w3 ⟨⟨z, rfl⟩, hs3, hb3, hk3⟩; have HPA := Lib.hid (HP9.out.stack hs3 hb3 hk3); have HAA := Lib.hid (HA9.out.trans (Acc.ofS hb3 hk3)); have HQ3 := Lib.hid (HAA.out.calm.same _ _ HQ1.out (calmI_pc _)); obtain ⟨x0, x1, x2⟩ := pc_box HQ3.out; dsimp only at x0 x1 x2; clear hs3 hb3 hk3)
                      | (refine ⟨trivial, ?_⟩; gi_at_call 37; (with_reducible refine (CallsIn.inRound lp (callsIn_wide.2 (cP _ _ _ _ _ _ _ HPA.out (by omega) (by omega)))).mono ?_); rintro e w4 ⟨rfl, hj4, hk4, hc4⟩; have HPB := Lib.hid (HPA.out.join hj4 hk4 hc4); have HAB := Lib.hid (HAA.out.trans (Acc.ofJ (hk4.below HPA.out.le HPA.out.l9) hc4)); clear hj4 hk4 hc4))
                    exact ⟨HAB.out.from, HAB.out.kp, ⟨us', Bp', by rw [HY.out]; exact HPB.out⟩, HW.out.trans HAB.out.bel⟩
                  · have hq6 : ¬ q4 - 1 = 0 := by omega
                    have hq7 : ¬ (q4 : Int) = 1 := by omega
                    have hq8 : ¬ (1 : Int) = (q4 : Int) := by omega
                    have hq9 : (1 : Int) < (q4 : Int) := by omega
                    have hq10 : 1 < q4 := by omega
                    have HP9 := Lib.hid (HPi.out.cutTail h43 h44 hA4 hc4)
                    have HA9 := Lib.hid (HAi.out.trans (Acc.set h41 HPi.out.l3 (not_calmI_of (by decide) (by decide)) 0 (.slice (some { block := A4.block, off := A4.off + 1 }) r.length (q4 - 1))))
                    have HQ9 := Lib.hid (HA9.out.calm.same _ _ HQ1.out (calmI_pc _))
                    obtain ⟨t0, t1, t2⟩ := pc_box HQ9.out
                    dsimp only at t0 t1 t2
                    clear h41 h43 h44 h45 hc4 HPi HAi HRi hA4
                    gi_wp2_with (first
                      | (refine ⟨trivial, ?_⟩; gi_at_call 39; (with_reducible refine (CallsIn.inRound lp (callsIn_wide.2 (cF _ _ _ _ _ _ HP9.out))).mono ?_); rintro e w3 ⟨⟨z, rfl⟩, hs3, hb3, hk3⟩; have HPA := Lib.hid (HP9.out.stack hs3 hb3 hk3); have HAA := Lib.hid (HA9.out.trans (Acc.ofS hb3 hk3)); have HQ3 := Lib.hid (HAA.out.calm.same _ _ HQ1.out (calmI_pc _)); obtain ⟨x0, x1, x2⟩ := pc_box HQ3.out; dsimp only at x0 x1 x2; clear hs3 hb3 hk3)
                      | (refine ⟨trivial, ?_⟩; gi_at_call 37; (with_reducible refine (CallsIn.inRound lp (callsIn_wide.2 (cP _ _ _ _ _ _ _ HPA.out (by omega) (by omega)))).mono ?_); rintro e w4 ⟨rfl, hj4, hk4, hc4⟩; have HPB := Lib.hid (HPA.out.join hj4 hk4 hc4); have HAB := Lib.hid (HAA.out.trans (Acc.ofJ (hk4.below HPA.out.le HPA.out.l9) hc4)); clear hj4 hk4 hc4))
                    exact ⟨HAB.out.from, HAB.out.kp, ⟨us', Bp', by rw [HY.out]; exact HPB.out⟩, HW.out.trans HAB.out.bel⟩
          case stop2 =>
            rintro c2 pre2 Wd hpre2 h
            exact h.elim
      · have hpb : ((y.1 : Int) == pl) = false := by simp [hpl2]
        have HY := Lib.hid (HY1.out (by rw [hH]; simp [hpl2]))
        clear HY1 HY2
        gi_wp2_with (first
          | (refine ⟨trivial, ?_⟩; gi_at_call 39; (with_reducible refine (CallsIn.inRound lp (callsIn_wide.2 (cF _ _ _ _ _ _ HP1.out))).mono ?_); rintro e w3 ⟨⟨z, rfl⟩, hs3, hb3, hk3⟩; have HP3 := Lib.hid (HP1.out.stack hs3 hb3 hk3); have HA3 := Lib.hid (HA1.out.trans (Acc.ofS hb3 hk3)); have HQ3 := Lib.hid (HA3.out.calm.same _ _ HQ1.out (calmI_pc _)); obtain ⟨x0, x1, x2⟩ := pc_box HQ3.out; dsimp only at x0 x1 x2; clear hs3 hb3 hk3)
          | (refine ⟨trivial, ?_⟩; gi_at_call 37; (with_reducible refine (CallsIn.inRound lp (callsIn_wide.2 (cP _ _ _ _ _ _ _ HP3.out (by omega) (by omega)))).mono ?_); rintro e w4 ⟨rfl, hj4, hk4, hc4⟩; have HP4 := Lib.hid (HP3.out.join hj4 hk4 hc4); have HA4 := Lib.hid (HA3.out.trans (Acc.ofJ (hk4.below HP3.out.le HP3.out.l9) hc4)); clear hj4 hk4 hc4))
        exact ⟨HA4.out.from, HA4.out.kp, ⟨us, Bp, by rw [HY.out]; exact HP4.out⟩, HW.out.trans HA4.out.bel⟩
  case done =>
    rintro D ys Wd hD rfl ⟨⟨us, Bp, g1⟩, g2⟩ hK
    have hF := few_run at' (placed 0 (singleL l))
    have HTW := Lib.hid (cut_twin (at' := at') (single_fine hmem))
    generalize psRun at' (placed 0 (singleL l)) = st at *
    generalize (placed 0 (singleL l)).length = m at *
    have hjo := hF.o
    have hjt := hF.t
    have hout := hF.out
    obtain ⟨out, j, opn, rest⟩ := st
    dsimp only at *
    have HK := Lib.hid hK
    have HW := Lib.hid g2
    have HD := Lib.hid hD
    have HC := Lib.hid (show ctE l at' = (if longAny (out ++ [jDone j]) = true then 3 else 0) by unfold ctE; rw [if_neg (by simp [hE]), if_neg (by simp [hA]), HTW.out])
    have HCR := Lib.hid (show ctR l at' = (if longAny (out ++ [jDone j]) = true then [] else out ++ [jDone j]) by
      unfold ctR
      rw [HC.out]
      cases longAny (out ++ [jDone j])
      · simp [HTW.out]
      · simp)
    have hsd := g2.size
    have HPd := Lib.hid (g1.step (w' := Wd.drew) ⟨rfl, rfl, rfl, Nat.le_refl _, fun _ _ => rfl⟩)
    have HAd := Lib.hid (Acc.step (B := w.heap.size) (W := Wd) (W' := Wd.drew) hsd ⟨rfl, rfl, rfl, Nat.le_refl _, fun _ _ => rfl⟩)
    have hzd : Wd.heap.size = Wd.heap.size := rfl
    clear hK hF g1 g2 HBR cT HTW HP0 hD
    gi_wp2
    obtain ⟨v8, h8d, hr8⟩ := HPd.out.prt
    obtain ⟨o8, q8, rfl⟩ : ∃ o8 q8, v8 = .slice o8 out.length q8 := by
      rcases hr8.2 with ⟨rfl, h0⟩ | ⟨g, cp, cur, hv8, _⟩
      · exact ⟨none, 0, by rw [h0]⟩
      · exact ⟨_, _, hv8⟩
    have c8 : Wd.drew.cell? ⟨b8, 0, none⟩ = some (.slice o8 out.length q8) := (Lib.cell_of_heap h8d 0).trans rfl
    have cDn := doneC_any Bp (b8 + 1) j.o j.t Wd.drew HPd.out.jn (by omega) (by omega) HPd.out.lt
    obtain ⟨i0, hi0, hz0, hz1, hz2⟩ := info_parts info_pcs
    have hol : out.length ≤ 1000 := by omega
    refine wpIn_mono (Q := fun e a' wx => e = Exit.normal ∧ ∃ v55 v56 v57 v58, a' = { tmps := #[.slice p l.length cap, .slice pa at'.length ca, undef, .pointer (some ⟨w.heap.size, 0, none⟩), .slice none 0 0, .int .u8 0, .int .i64 (nUnits l : Nat), .int .u8 0, .pointer (some ⟨b8, 0, none⟩), .pointer (some ⟨b8 + 1, 0, none⟩), .pointer (some ⟨b8 + 1 + 1, 0, none⟩), undef, undef, undef, undef, undef, undef, .tuple #[.int .i64 (nUnits l : Nat), .int .u8 0], .slice p l.length cap, .tuple #[.int .i64 (nUnits l : Nat), .int .u8 0], .int .i64 (nUnits l : Nat), .int .u8 0, .int .u8 0, .bool false, undef, .slice pa at'.length ca, .int .i64 (nUnits l : Nat), .bool true, .bool false, .slice p l.length cap, .func (.func 72) #[] #[.pointer (some ⟨b8 + 1 + 1 + 1, 0, none⟩)], undef, undef, undef, undef, undef, undef, undef, undef, undef, undef, undef, undef, undef, undef, undef, undef, undef, undef, undef, undef, undef, undef, undef, undef, undef, undef, undef, undef, undef, undef, undef, undef, undef, undef, undef, undef, undef, undef, undef, undef, undef, undef, undef, undef, undef, v55, v56, v57, v58, undef, undef, undef], defers := [rfMark D] } ∧ PartEnd w.heap.size w.heap.size b8 (b8 + 1) (b8 + 1 + 1) us Bp out (jDone j) opn rest Wd wx) ?reg26 ?rest26
    case reg26 =>
      refine wpIn_region_any (by kernel_rfl) ?_
      change wpAnyIn _ _ _ _ _ _ _ _ _ (World.drew _)
      refine wpAnyIn_ready (rs := [0, 1]) (by kernel_rfl) (by simp) ?_
      refine AllReadyIn.cons rfl (fun K hK => ?_) ?_
      · go_simp
        refine hK _ _ ?_
        clear hK K
        refine wpAnyIn_ready (rs := [1]) (by kernel_rfl) (by simp) ?_
        refine AllReadyIn.cons rfl (fun K hK => ?_) ?_
        rotate_left
        · exact AllReadyIn.nil
        go_simp
        gi_wp2_with (refine ⟨trivial, ?_⟩; gi_at_call 38; (with_reducible refine (callsIn_wide.2 cDn).mono ?_); rintro e w4 ⟨u, rfl, hu4, hj4, hk4, hc4⟩; have HU4 := Lib.hid (show OwnP Bp u (jDone (j)) w4 from hu4); have HP4 := Lib.hid (HPd.out.join (j' := ⟨jDone (j), [], nil, false⟩) hj4 hk4 hc4); have HA4 := Lib.hid (HAd.out.trans (Acc.ofJ (hk4.below HPd.out.le HPd.out.l9) hc4)); have h84 := hc4.same _ _ h8d (show calmJ _ from ⟨by decide, by decide, fun e => absurd e (by decide)⟩); have c84 : w4.cell? ⟨b8, 0, none⟩ = some (.slice o8 out.length q8) := (Lib.cell_of_heap h84 0).trans rfl; have hr84 := hc4.row hr8 (fun _ => (show calmJ _ from ⟨by decide, by decide, fun e => absurd e (by decide)⟩)); have hl84 := lt_of_block h84; obtain ⟨uo, uc, rfl⟩ := HU4.out.form; have H84 := Lib.hid h84; clear hu4 hj4 hk4 hc4 h84)
        first | (refine hK _ _ ?_) | skip
        try clear hK K
        refine wpAnyIn_ready (rs := [2]) (by kernel_rfl) (by simp) ?_
        refine AllReadyIn.cons rfl (fun K hK => ?_) ?_
        rotate_left
        · exact AllReadyIn.nil
        go_simp
        refine hK _ _ ?_
        clear hK K
        refine wpAnyIn_ready (rs := [3]) (by kernel_rfl) (by simp) ?_
        refine AllReadyIn.cons rfl (fun K hK => ?_) ?_
        rotate_left
        · exact AllReadyIn.nil
        refine stepIn_append_own rfl (.tmp 76) (.tmp 78) 24 rfl w.heap.size 22 i0 (.slice none 0 0) 1 24 Tryz.underlying24 hi0 hz0 hz1 hz2 rfl (by decide) (.slice o8 out.length q8) (out).length us (by simp [Act.eval]) (hr84.alloc _) ⟨w4.heap.size, 0, none⟩ 1 1 [.slice uo (jDone (j)).length uc] (by simp [Act.eval]) rfl (cell_one_new _ _ _) (by simp [Value.oneCell']) (by unfold maxLen; omega) (by omega) (by simp; omega) ?_
        intro v9 w6 hown6 hgrow6
        refine hK _ _ ?_
        clear hK K
        have hk6 : Keeps calmQ w4 w6 := ((Keeps.refl calmQ w4).alloc _).trans (Keeps.grown (hr84.alloc _) hgrow6 (fun _ h => h.1 rfl))
        have hb6 : Below w.heap.size w4 w6 := ((Below.refl _ w4).alloc (by have := HA4.out.bel.size; omega) _).grown hgrow6 (by have := HA4.out.bel.size; simp; omega) (fun k e => (hr84.lt k e).1)
        have h86 : w6.heap[b8]? = some (.cells #[.slice o8 out.length q8] 24 (0, 0)) := (hgrow6.block b8 (by simp; omega) (fun e => own_other hr84 H84.out (by decide) e.symm)).trans ((Below.heap_alloc _ _ _ hl84).trans H84.out)
        have c86 : w6.cell? ⟨b8, 0, none⟩ = some (.slice o8 out.length q8) := (Lib.cell_of_heap h86 0).trans rfl
        have f86 : w6.frozen? ⟨b8, 0, none⟩ = false := Lib.frozen_of_heap h86 0
        have HEND := Lib.hid (show PartEnd w.heap.size w.heap.size b8 (b8 + 1) (b8 + 1 + 1) us Bp (out) (jDone (j)) (opn) (rest) Wd (w6.setCell ⟨b8, 0, none⟩ v9) from ⟨w4, w6, _, v9, _, HP4.out, HU4.out, hk6, hb6, ⟨_, h86, rfl⟩, hown6, rfl, HA4.out.trans ((Acc.ofQ hb6 hk6).trans (Acc.set h86 HP4.out.l8 (not_calmI_of (by decide) (by decide)) 0 _))⟩)
        obtain ⟨o9, c9, rfl⟩ : ∃ o9 c9, v9 = .slice o9 ((out).length + 1) c9 := by
          rcases hown6.2 with ⟨_, h0⟩ | ⟨g, cp, cur, hv9, _⟩
          · omega
          · exact ⟨_, _, hv9⟩
        clear hown6 hgrow6 hk6 hb6 h86
        refine wpAnyIn_ready (rs := [4]) (by kernel_rfl) (by simp) ?_
        refine AllReadyIn.cons rfl (fun K hK => ?_) ?_
        rotate_left
        · exact AllReadyIn.nil
        go_simp
        refine hK _ _ ?_
        clear hK K
        refine wpAnyIn_done (by kernel_rfl) ?_ _
        exact ⟨rfl, _, _, _, _, rfl, HEND.out⟩
      refine AllReadyIn.cons rfl (fun K hK => ?_) ?_
      rotate_left
      · exact AllReadyIn.nil
      go_simp
      gi_wp2_with (refine ⟨trivial, ?_⟩; gi_at_call 38; (with_reducible refine (callsIn_wide.2 cDn).mono ?_); rintro e w4 ⟨u, rfl, hu4, hj4, hk4, hc4⟩; have HU4 := Lib.hid (show OwnP Bp u (jDone (j)) w4 from hu4); have HP4 := Lib.hid (HPd.out.join (j' := ⟨jDone (j), [], nil, false⟩) hj4 hk4 hc4); have HA4 := Lib.hid (HAd.out.trans (Acc.ofJ (hk4.below HPd.out.le HPd.out.l9) hc4)); have h84 := hc4.same _ _ h8d (show calmJ _ from ⟨by decide, by decide, fun e => absurd e (by decide)⟩); have c84 : w4.cell? ⟨b8, 0, none⟩ = some (.slice o8 out.length q8) := (Lib.cell_of_heap h84 0).trans rfl; have hr84 := hc4.row hr8 (fun _ => (show calmJ _ from ⟨by decide, by decide, fun e => absurd e (by decide)⟩)); have hl84 := lt_of_block h84; obtain ⟨uo, uc, rfl⟩ := HU4.out.form; have H84 := Lib.hid h84; clear hu4 hj4 hk4 hc4 h84)
      first | (refine hK _ _ ?_) | skip
      try clear hK K
      refine wpAnyIn_ready (rs := [0, 2]) (by kernel_rfl) (by simp) ?_
      refine AllReadyIn.cons rfl (fun K hK => ?_) ?_
      · go_simp
        refine hK _ _ ?_
        clear hK K
        refine wpAnyIn_ready (rs := [2]) (by kernel_rfl) (by simp) ?_
        refine AllReadyIn.cons rfl (fun K hK => ?_) ?_
        rotate_left
        · exact AllReadyIn.nil
        go_simp
        refine hK _ _ ?_
        clear hK K
        refine wpAnyIn_ready (rs := [3]) (by kernel_rfl) (by simp) ?_
        refine AllReadyIn.cons rfl (fun K hK => ?_) ?_
        rotate_left
        · exact AllReadyIn.nil
        refine stepIn_append_own rfl (.tmp 76) (.tmp 78) 24 rfl w.heap.size 22 i0 (.slice none 0 0) 1 24 Tryz.underlying24 hi0 hz0 hz1 hz2 rfl (by decide) (.slice o8 out.length q8) (out).length us (by simp [Act.eval]) (hr84.alloc _) ⟨w4.heap.size, 0, none⟩ 1 1 [.slice uo (jDone (j)).length uc] (by simp [Act.eval]) rfl (cell_one_new _ _ _) (by simp [Value.oneCell']) (by unfold maxLen; omega) (by omega) (by simp; omega) ?_
        intro v9 w6 hown6 hgrow6
        refine hK _ _ ?_
        clear hK K
        have hk6 : Keeps calmQ w4 w6 := ((Keeps.refl calmQ w4).alloc _).trans (Keeps.grown (hr84.alloc _) hgrow6 (fun _ h => h.1 rfl))
        have hb6 : Below w.heap.size w4 w6 := ((Below.refl _ w4).alloc (by have := HA4.out.bel.size; omega) _).grown hgrow6 (by have := HA4.out.bel.size; simp; omega) (fun k e => (hr84.lt k e).1)
        have h86 : w6.heap[b8]? = some (.cells #[.slice o8 out.length q8] 24 (0, 0)) := (hgrow6.block b8 (by simp; omega) (fun e => own_other hr84 H84.out (by decide) e.symm)).trans ((Below.heap_alloc _ _ _ hl84).trans H84.out)
        have c86 : w6.cell? ⟨b8, 0, none⟩ = some (.slice o8 out.length q8) := (Lib.cell_of_heap h86 0).trans rfl
        have f86 : w6.frozen? ⟨b8, 0, none⟩ = false := Lib.frozen_of_heap h86 0
        have HEND := Lib.hid (show PartEnd w.heap.size w.heap.size b8 (b8 + 1) (b8 + 1 + 1) us Bp (out) (jDone (j)) (opn) (rest) Wd (w6.setCell ⟨b8, 0, none⟩ v9) from ⟨w4, w6, _, v9, _, HP4.out, HU4.out, hk6, hb6, ⟨_, h86, rfl⟩, hown6, rfl, HA4.out.trans ((Acc.ofQ hb6 hk6).trans (Acc.set h86 HP4.out.l8 (not_calmI_of (by decide) (by decide)) 0 _))⟩)
        obtain ⟨o9, c9, rfl⟩ : ∃ o9 c9, v9 = .slice o9 ((out).length + 1) c9 := by
          rcases hown6.2 with ⟨_, h0⟩ | ⟨g, cp, cur, hv9, _⟩
          · omega
          · exact ⟨_, _, hv9⟩
        clear hown6 hgrow6 hk6 hb6 h86
        refine wpAnyIn_ready (rs := [4]) (by kernel_rfl) (by simp) ?_
        refine AllReadyIn.cons rfl (fun K hK => ?_) ?_
        rotate_left
        · exact AllReadyIn.nil
        go_simp
        refine hK _ _ ?_
        clear hK K
        refine wpAnyIn_done (by kernel_rfl) ?_ _
        exact ⟨rfl, _, _, _, _, rfl, HEND.out⟩
      refine AllReadyIn.cons rfl (fun K hK => ?_) ?_
      rotate_left
      · exact AllReadyIn.nil
      go_simp
      refine hK _ _ ?_
      clear hK K
      refine wpAnyIn_ready (rs := [0]) (by kernel_rfl) (by simp) ?_
      refine AllReadyIn.cons rfl (fun K hK => ?_) ?_
      rotate_left
      · exact AllReadyIn.nil
      go_simp
      refine hK _ _ ?_
      clear hK K
      refine wpAnyIn_ready (rs := [3]) (by kernel_rfl) (by simp) ?_
      refine AllReadyIn.cons rfl (fun K hK => ?_) ?_
      rotate_left
      · exact AllReadyIn.nil
      refine stepIn_append_own rfl (.tmp 76) (.tmp 78) 24 rfl w.heap.size 22 i0 (.slice none 0 0) 1 24 Tryz.underlying24 hi0 hz0 hz1 hz2 rfl (by decide) (.slice o8 out.length q8) (out).length us (by simp [Act.eval]) (hr84.alloc _) ⟨w4.heap.size, 0, none⟩ 1 1 [.slice uo (jDone (j)).length uc] (by simp [Act.eval]) rfl (cell_one_new _ _ _) (by simp [Value.oneCell']) (by unfold maxLen; omega) (by omega) (by simp; omega) ?_
      intro v9 w6 hown6 hgrow6
      refine hK _ _ ?_
      clear hK K
      have hk6 : Keeps calmQ w4 w6 := ((Keeps.refl calmQ w4).alloc _).trans (Keeps.grown (hr84.alloc _) hgrow6 (fun _ h => h.1 rfl))
      have hb6 : Below w.heap.size w4 w6 := ((Below.refl _ w4).alloc (by have := HA4.out.bel.size; omega) _).grown hgrow6 (by have := HA4.out.bel.size; simp; omega) (fun k e => (hr84.lt k e).1)
      have h86 : w6.heap[b8]? = some (.cells #[.slice o8 out.length q8] 24 (0, 0)) := (hgrow6.block b8 (by simp; omega) (fun e => own_other hr84 H84.out (by decide) e.symm)).trans ((Below.heap_alloc _ _ _ hl84).trans H84.out)
      have c86 : w6.cell? ⟨b8, 0, none⟩ = some (.slice o8 out.length q8) := (Lib.cell_of_heap h86 0).trans rfl
      have f86 : w6.frozen? ⟨b8, 0, none⟩ = false := Lib.frozen_of_heap h86 0
      have HEND := Lib.hid (show PartEnd w.heap.size w.heap.size b8 (b8 + 1) (b8 + 1 + 1) us Bp (out) (jDone (j)) (opn) (rest) Wd (w6.setCell ⟨b8, 0, none⟩ v9) from ⟨w4, w6, _, v9, _, HP4.out, HU4.out, hk6, hb6, ⟨_, h86, rfl⟩, hown6, rfl, HA4.out.trans ((Acc.ofQ hb6 hk6).trans (Acc.set h86 HP4.out.l8 (not_calmI_of (by decide) (by decide)) 0 _))⟩)
      obtain ⟨o9, c9, rfl⟩ : ∃ o9 c9, v9 = .slice o9 ((out).length + 1) c9 := by
        rcases hown6.2 with ⟨_, h0⟩ | ⟨g, cp, cur, hv9, _⟩
        · omega
        · exact ⟨_, _, hv9⟩
      clear hown6 hgrow6 hk6 hb6 h86
      refine wpAnyIn_ready (rs := [4]) (by kernel_rfl) (by simp) ?_
      refine AllReadyIn.cons rfl (fun K hK => ?_) ?_
      rotate_left
      · exact AllReadyIn.nil
      go_simp
      refine hK _ _ ?_
      clear hK K
      refine wpAnyIn_done (by kernel_rfl) ?_ _
      exact ⟨rfl, _, _, _, _, rfl, HEND.out⟩
    case rest26 =>
      clear c8 h8d hr8 cDn HPd HAd hi0 hz0 hz1 hz2
      rintro e a6 w6 ⟨rfl, v55, v56, v57, v58, rfl, hend⟩
      obtain ⟨v9, h89, hpts, hacc⟩ := hend.parts
      obtain ⟨o9, q9, rfl, _, _⟩ := hpts.form
      have c89 : w6.cell? ⟨b8, 0, none⟩ = some (.slice o9 (out ++ [jDone j]).length q9) := (Lib.cell_of_heap h89 0).trans rfl
      have cL := contains_long (out ++ [jDone j]) _ w6 hpts
      have HPT := Lib.hid hpts
      have HB6 := Lib.hid (HW.out.trans hacc.bel)
      have HK6 := Lib.hid (hacc.non _ _ HK.out rfl)
      clear hpts hacc hend h89
      have HDz := HD.out
      generalize hQ : out ++ [jDone j] = Q9 at *
      cases hlg : longAny Q9
      · have HC2 := Lib.hid (show ctE l at' = 0 by rw [HC.out, hlg]; rfl)
        have HC3 := Lib.hid (show ctR l at' = Q9 by rw [HCR.out, hlg]; rfl)
        rw [hlg] at cL
        clear HC HCR hlg
        gi_wp2_with (refine ⟨trivial, ?_⟩; gi_at_call 40; (with_reducible refine (callsIn_wide.2 cL).mono ?_); rintro e w7 ⟨rfl, rfl⟩)
        exact leavesMarks (fun W' => PtsAt W' (.slice o9 Q9.length q9) Q9 ∧ Below w.heap.size w W') Wr.heap.size (fun X D1 h hD1 hk1 => ⟨h.1.turned (grownBy_putObj' X D1 _) (fun r e => by cases e; exact ⟨_, hk1, rfl⟩), h.2.trans (belowK_b (w := w) (Nat.le_refl _) X D1 _ _ (by omega) hk1 rfl rfl)⟩) (fun X h => ⟨_, results_tmp2 rfl _ _ _, ⟨_, by rw [HC2.out]; rfl, by rw [HC3.out]; exact h.1⟩, h.2⟩) [D] _ ⟨HPT.out, HB6.out⟩ ((MarksAt.nil _ _).cons HDz (by simp) HK6.out)
      · have HC2 := Lib.hid (show ctE l at' = 3 by rw [HC.out, hlg]; rfl)
        have HC3 := Lib.hid (show ctR l at' = [] by rw [HCR.out, hlg]; rfl)
        rw [hlg] at cL
        clear HC HCR hlg
        gi_wp2_with (refine ⟨trivial, ?_⟩; gi_at_call 40; (with_reducible refine (callsIn_wide.2 cL).mono ?_); rintro e w7 ⟨rfl, rfl⟩)
        exact leavesMarks (fun W' => Below w.heap.size w W') Wr.heap.size (fun X D1 h hD1 hk1 => h.trans (belowK_b (w := w) (Nat.le_refl _) X D1 _ _ (by omega) hk1 rfl rfl)) (fun X h => ⟨_, results_tmp2 rfl _ _ _, ⟨_, by rw [HC2.out]; rfl, by rw [HC3.out]; exact pts_nil _⟩, h⟩) [D] _ HB6.out ((MarksAt.nil _ _).cons HDz (by simp) HK6.out)
  case stop =>
    rintro D c pre Wd hD hpre h
    exact h.elim
end Go.Proofs.YtnkpjkomokkhcaaGreatDoor
namespace Go.Proofs.YtnkpjkomokkhcaaGreatDoor
open Go Go.RowKit Go.Lib
set_option maxRecDepth 100000
set_option maxHeartbeats 4000000 in
theorem cut_any (l : List Pc) (at' : List Int) (v va : Value) (w : World) (hv : PcsAt w v l) (ha : IntsAt w va at') (hb : bulk l ≤ 9000) (hn : at'.length ≤ 30) (hT : Tabs w) :
    Calls Tryz.prog 9 #[v, va] w fun e w' => (∃ u, e = .returned (.tuple #[u, .int .u8 (ctE l at')]) ∧ PtsAt w' u (ctR l at')) ∧ Below w.heap.size w w' := by
  by_cases hE : checkE l = 0
  · by_cases hA : cutsB (nUnits l) 0 at' = true
    · exact cut_main l at' v va w hv ha hb hn hT hE hA
    · have hA0 : cutsB (nUnits l) 0 at' = false := by simpa using hA
      have HC := Lib.hid (show ctE l at' = 1 by unfold ctE; rw [if_neg (by simp [hE]), if_pos hA0])
      have HR := Lib.hid (show ctR l at' = [] by unfold ctR; rw [HC.out]; rfl)
      have cU := fun w1 (h : Below w.heap.size w w1) => units_count l v w1 (hv.step h) (by omega) (hT.step h)
      have hU : unE l = nUnits l := by unfold unE; rw [if_pos hE]
      have cA := fun w1 (h : Below w.heap.size w w1) => areCuts_any at' (nUnits l : Nat) va w1 (ha.step h)
      rw [hA0] at cA
      rw [hE, hU] at cU
      obtain ⟨p, cap, rfl, hl, hc⟩ : ∃ p cap, v = .slice p l.length cap ∧ l.length ≤ cap ∧ cap ≤ maxLen := by
        obtain ⟨p, cap, e, h1, h2, _⟩ := hv
        exact ⟨p, cap, e, h1, h2⟩
      obtain ⟨pa, ca, rfl, hla, hca⟩ := ha.form
      unfold maxLen at hc hca
      have HB0 := Lib.hid (below_box (w := w) (.cells #[.slice pa at'.length ca] 23))
      have HN0 := Lib.hid (heap_alloc_new w (.cells #[.slice pa at'.length ca] 23))
      clear hv ha hT hU hA hA0 hE
      go_enter Tryz.func9, Tryz.ntmps9
      go_wp2_with (first
        | (go_at_call 18; (with_reducible refine (cU _ HB0.out).mono ?_); rintro e w1 ⟨rfl, hb1⟩; have HB1 := Lib.hid (below_next HB0.out hb1); have HN1 := Lib.hid ((hb1.block _ (lt_of_block HN0.out)).trans HN0.out); have c3 := (Lib.cell_of_heap HN1.out 0).trans rfl; clear hb1)
        | (go_at_call 34; (with_reducible refine (cA _ HB1.out).mono ?_); rintro e w2 ⟨rfl, rfl⟩))
      go_ret2
      exact ⟨⟨_, by rw [HC.out]; rfl, by rw [HR.out]; exact pts_nil _⟩, HB1.out⟩
  · have hC : ctE l at' = checkE l := by unfold ctE; rw [if_pos hE]
    obtain ⟨Z, hZ⟩ : ∃ Z, checkE l = Z := ⟨_, rfl⟩
    have HC := Lib.hid (hC.trans hZ)
    have HR := Lib.hid (show ctR l at' = [] by unfold ctR; rw [hC, if_neg hE])
    have cU := fun w1 (h : Below w.heap.size w w1) => units_count l v w1 (hv.step h) (by omega) (hT.step h)
    have hU : unE l = 0 := by unfold unE; rw [if_neg hE]
    rw [hZ] at cU hE
    rw [hU] at cU
    have hz2 : (Z != 0) = true := by simpa using hE
    have HB0 := Lib.hid (below_box (w := w) (.cells #[va] 23))
    obtain ⟨p, cap, rfl, _, _⟩ : ∃ p cap, v = .slice p l.length cap ∧ l.length ≤ cap ∧ cap ≤ maxLen := by
      obtain ⟨p, cap, e, h1, h2, _⟩ := hv
      exact ⟨p, cap, e, h1, h2⟩
    obtain ⟨pa, ca, rfl, _, _⟩ := ha.form
    clear hv ha hT hU hZ hE hC
    go_enter Tryz.func9, Tryz.ntmps9
    go_wp2_with (go_at_call 18; (with_reducible refine (cU _ HB0.out).mono ?_); rintro e w1 ⟨rfl, hb1⟩; have HB1 := Lib.hid (below_next HB0.out hb1); clear hb1)
    go_ret2
    exact ⟨⟨_, by rw [HC.out]; rfl, by rw [HR.out]; exact pts_nil _⟩, HB1.out⟩
end Go.Proofs.YtnkpjkomokkhcaaGreatDoor
namespace Go.Proofs.YtnkpjkomokkhcaaGreatDoor
open Go Go.RowKit Go.Lib
set_option maxRecDepth 100000
set_option maxHeartbeats 4000000 in
theorem sameP_any (l : List Pc) (u v : Value) (w : World) (hu : PcsAt w u l) (hv : PcsAt w v l) (hl : l.length ≤ 1000000) :
    Calls Tryz.prog 11 #[u, v] w fun e w' => e = .returned (.bool true) ∧ ∃ n, w' = w.drewN n := by
  obtain ⟨p, cap, rfl, hl1, hc, hrow⟩ := hu
  obtain ⟨q, cap2, rfl, hl2, hc2, hrow2⟩ := hv
  unfold maxLen at hc hc2
  have ag := Tryz.isAgg52
  have zg := Tryz.sizeOf52
  have HR := Lib.hid hrow
  have HR2 := Lib.hid hrow2
  clear hrow hrow2
  go_enter Tryz.func11, Tryz.ntmps11
  go_wp2
  go_loopw [5] (fun i wr => ∃ k : Nat, k ≤ l.length ∧ i = .int .i64 k ∧ ∃ n, wr = w.drewN n) (fun i _ => l.length - (RowKit.intOf i).toNat)
  case atStart => exact ⟨0, Nat.zero_le _, rfl, 0, rfl⟩
  case round =>
    obtain ⟨k, hk, rfl, n, rfl⟩ := hrel
    obtain ⟨w1, hw1⟩ : ∃ w1, w1 = w.drewN n := ⟨_, rfl⟩
    have HW := Lib.hid hw1
    by_cases hlt : k < l.length
    · obtain ⟨A, rfl, hA, hcell⟩ := HR.out (by omega)
      obtain ⟨A2, rfl, hA2, hcell2⟩ := HR2.out (by omega)
      have hb : Below w.heap.size w w1 := by rw [hw1]; exact ⟨rfl, rfl, rfl, Nat.le_refl _, fun _ _ => rfl⟩
      obtain ⟨x0, x1, x2⟩ := pcs_cells hA hcell hlt hb
      obtain ⟨z0, z1, z2⟩ := pcs_cells hA2 hcell2 hlt hb
      rw [← hw1]
      clear hcell hcell2 hw1 hb
      generalize l.getD k nil = x at *
      go_wp2
      go_quiet (fail)
      go_wp2
      exact ⟨⟨k + 1, by omega, by simp, n + nq, by rw [HW.out, World.drewN_drewN]⟩, by simp [RowKit.intOf]; omega⟩
    · rw [← hw1]
      clear hw1
      go_wp2
      go_ret
      exact ⟨rfl, n, HW.out⟩
theorem below_dn (w : World) (n : Nat) : Below w.heap.size w (w.drewN n) := ⟨rfl, rfl, rfl, Nat.le_refl _, fun _ _ => rfl⟩
theorem blen : ∀ l : List Pc, l.length ≤ bulk l
  | [] => by simp
  | x :: l => by have := blen l; rw [bulk_cons, List.length_cons]; omega
theorem pts_get {w : World} {v : Value} {ps : List (List Pc)} (h : PtsAt w v ps) : ∃ (us : List Value) (p : Option Addr) (cap : Nat), v = .slice p ps.length cap ∧ ps.length ≤ cap ∧ cap ≤ maxLen ∧ ∀ k, k < ps.length → ∃ A, p = some A ∧ w.cell? (A.add k) = some (us.getD k nilV1) ∧ PcsAt w (us.getD k nilV1) (ps.getD k []) := by
  obtain ⟨us, h1, ⟨p, cap, e, h2, h3, h4⟩, h5⟩ := h
  refine ⟨us, p, cap, e, h2, h3, fun k hk => ?_⟩
  obtain ⟨A, e2, _, hc⟩ := h4 (by omega)
  have := hc k 0 hk (by omega)
  rw [show k * 1 + 0 = k by omega] at this
  exact ⟨A, e2, this, h5 k hk⟩
end Go.Proofs.YtnkpjkomokkhcaaGreatDoor
