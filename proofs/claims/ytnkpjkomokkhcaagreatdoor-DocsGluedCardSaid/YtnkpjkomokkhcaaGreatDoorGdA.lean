/- The text of a list, by the program. The law DocsGlued over any list, places and number, given that the layer's examples hold. -/
import Derived.Test.YtnkpjkomokkhcaaGreatDoorDpC
import Derived.Test.YtnkpjkomokkhcaaGreatDoorSb
import Derived.Test.YtnkpjkomokkhcaaGreatDoorGmA
import Derived.Test.YtnkpjkomokkhcaaGreatDoorCuE
import Derived.Deep.Slices
import Derived.StillTailTactics
import Derived.Deep.AppendLies
import Derived.Deep.RegionHeld3
namespace Go.Proofs.YtnkpjkomokkhcaaGreatDoor
open Go Go.RowKit Go.Lib
set_option maxRecDepth 100000
theorem string_any (B b : Nat) (l : List UInt8) (w : World) (h : BldIs B b l w) (hBw : B ≤ w.heap.size) :
    Calls Tryz.prog 51 #[.pointer (some ⟨b, 0, none⟩)] w fun e w' => e = .returned (.string (bytes l)) ∧ Below B w w' :=
  Builder_String_any B b l w h hBw
set_option maxHeartbeats 8000000 in
theorem plain_any (l : List Pc) (v : Value) (w : World) (hv : PcsAt w v l) (hl : bulk l ≤ 1000000) :
    Calls Tryz.prog 15 #[v] w fun e w' => e = .returned (.string (bytes (plainB l))) ∧ Below w.heap.size w w' := by
  obtain ⟨p, cap, rfl, hl1, hc, hrow⟩ := hv
  unfold maxLen at hc
  have ag := Tryz.isAgg52
  have zg := Tryz.sizeOf52
  have HR := Lib.hid hrow
  have H0 := Lib.hid (show BldIs w.heap.size w.heap.size [] (w.alloc (.cells #[.pointer none, .slice none 0 0] 89)) from Lib.fresh_isBuilder _ _ w)
  clear hrow
  go_enter Tryz.func15, Tryz.ntmps15
  go_wp2
  go_loopw [8] (fun i wr => ∃ k : Nat, k ≤ l.length ∧ i = .int .i64 k ∧ Hid (BldIs w.heap.size w.heap.size (plainB (l.take k)) wr) ∧ Hid (Below w.heap.size w wr)) (fun i _ => l.length - (RowKit.intOf i).toNat)
  case atStart => exact ⟨0, Nat.zero_le _, rfl, H0.out, below_box _⟩
  case round =>
    obtain ⟨k, hk, rfl, HO, HB⟩ := hrel
    by_cases hlt : k < l.length
    · obtain ⟨A, rfl, hA, hcell⟩ := HR.out (by omega)
      obtain ⟨x0, x1, x2⟩ := pcs_cells hA hcell hlt HB.out
      have hlen := plain_length (l.take k)
      have hbt := bulk_take l k
      have hsz := bulk_getD hlt
      have hBr : w.heap.size ≤ wr.heap.size := HB.out.size
      have HF := Lib.hid (plainB_succ l k hlt)
      clear hcell
      generalize l.getD k nil = x at x0 x1 x2 hsz HF
      have HB1 := Lib.hid (HB.out.alloc hBr (pcC x))
      have HO1 := Lib.hid (HO.out.step (below_box (pcC x)))
      have hBa : w.heap.size ≤ (wr.alloc (pcC x)).heap.size := Nat.le_trans hBr (below_box _).size
      by_cases hk1 : x.k = 1
      · rw [if_pos hk1] at HF
        have hkb : (x.k == 1) = true := by simpa using hk1
        have cW := writeString_any w.heap.size w.heap.size _ x.s _ HO1.out (by omega) hBa
        unfold pcC at cW HB1
        clear hk1
        go_wp2_with (go_at_call 50; (with_reducible refine cW.mono ?_); rintro e w2 ⟨rfl, hO2, hb2⟩; have HO2 := Lib.hid hO2; have HB2 := Lib.hid (HB1.out.trans hb2); clear hO2 hb2)
        go_roundw
        case rel => exact ⟨k + 1, by omega, by go_num, (by show BldIs _ _ _ _; rw [HF.out]; exact HO2.out), HB2.out⟩
        case measure => simp [RowKit.intOf]; omega
      · rw [if_neg hk1, List.append_nil] at HF
        have hkb : (x.k == 1) = false := by simpa using hk1
        unfold pcC at HO1 HB1
        clear hk1
        go_wp2
        go_roundw
        case rel => exact ⟨k + 1, by omega, by go_num, (by show BldIs _ _ _ _; rw [HF.out]; exact HO1.out), HB1.out⟩
        case measure => simp [RowKit.intOf]; omega
    · have hE : l.take k = l := List.take_of_length_le (by omega)
      rw [hE] at HO
      have cS := string_any w.heap.size w.heap.size (plainB l) wr HO.out HB.out.size
      go_wp2_with (go_at_call 51; (with_reducible refine cS.mono ?_); rintro e w2 ⟨rfl, hb2⟩; have HB2 := Lib.hid (HB.out.trans hb2); clear hb2)
      go_ret
      exact ⟨rfl, HB2.out⟩
end Go.Proofs.YtnkpjkomokkhcaaGreatDoor
namespace Go.Proofs.YtnkpjkomokkhcaaGreatDoor
open Go Go.RowKit Go.Lib
set_option maxRecDepth 100000
theorem ints_sub {w : World} {A : Addr} {cap : Nat} {l : List Int} (h : IntsAt w (.slice (some A) l.length cap) l) {k : Nat} (hk : k < l.length) : IntsAt w (.slice (some (A.add k)) 1 (cap - k)) [l.getD k 0] := by
  obtain ⟨p, c, e, h1, h2, h3⟩ := h
  injection e with e1 e2 e3
  subst e1 e3
  obtain ⟨A', e, hA, hc⟩ := h3 (by omega)
  obtain rfl := Option.some.inj e
  refine ⟨_, _, rfl, by show 1 ≤ _; omega, by omega, fun _ => ⟨_, rfl, by rw [add_block]; exact hA, fun i j hi hj => ?_⟩⟩
  obtain rfl : i = 0 := by simpa using hi
  obtain rfl : j = 0 := by omega
  have := hc k 0 hk (by omega)
  rw [Nat.mul_one, Nat.add_zero] at this
  rw [Go.Deep.add_add, Nat.zero_mul, Nat.add_zero, this]
  rfl
theorem ints_take {w : World} {A : Addr} {cap : Nat} {l : List Int} (h : IntsAt w (.slice (some A) l.length cap) l) {k : Nat} (hk : k ≤ l.length) : IntsAt w (.slice (some A) k cap) (l.take k) := by
  obtain ⟨p, c, e, h1, h2, h3⟩ := h
  injection e with e1 e2 e3
  subst e1 e3
  have hl : (l.take k).length = k := by rw [List.length_take]; omega
  refine ⟨_, _, by rw [hl], by omega, h2, fun h0 => ?_⟩
  obtain ⟨A', e, hA, hc⟩ := h3 (by omega)
  obtain rfl := Option.some.inj e
  refine ⟨_, rfl, hA, fun i j hi hj => ?_⟩
  rw [hl] at hi
  rw [hc i j (by omega) hj]
  dsimp only
  congr 2
  rw [List.getD_eq_getElem?_getD, List.getD_eq_getElem?_getD, List.getElem?_take_of_lt hi]
def fromTo (P : List (List Pc)) (k : Nat) : Nat := ((P.take k).map nUnits).sum
def plTo (P : List (List Pc)) (k : Nat) : List UInt8 := (P.take k).flatMap plainB
theorem takeL_succ {P : List (List Pc)} {k : Nat} (h : k < P.length) : P.take (k + 1) = P.take k ++ [P.getD k []] := by
  rw [List.take_add_one, List.getElem?_eq_getElem h, List.getD_eq_getElem?_getD, List.getElem?_eq_getElem h]
  rfl
theorem fromTo_succ {P : List (List Pc)} {k : Nat} (h : k < P.length) : fromTo P (k + 1) = fromTo P k + nUnits (P.getD k []) := by
  unfold fromTo
  rw [takeL_succ h, List.map_append, List.sum_append]
  simp
theorem plTo_succ {P : List (List Pc)} {k : Nat} (h : k < P.length) : plTo P (k + 1) = plTo P k ++ plainB (P.getD k []) := by
  unfold plTo
  rw [takeL_succ h, List.flatMap_append]
  simp
theorem sum_take_le (f g : List Pc → Nat) (h : ∀ q, f q ≤ g q) : ∀ (P : List (List Pc)) (k : Nat), ((P.take k).map f).sum ≤ (P.map g).sum
  | [], k => by simp
  | q :: P, 0 => by simp
  | q :: P, k + 1 => by
    have := sum_take_le f g h P k
    have := h q
    rw [List.take_succ_cons, List.map_cons, List.sum_cons, List.map_cons, List.sum_cons]
    omega
theorem fromTo_le (P : List (List Pc)) (k : Nat) : fromTo P k ≤ bulkPs P := sum_take_le _ _ (fun q => sum_un q) P k
theorem plTo_le (P : List (List Pc)) (k : Nat) : (plTo P k).length ≤ bulkPs P := by
  unfold plTo
  rw [List.length_flatMap]
  exact sum_take_le (fun q => (plainB q).length) _ (fun q => plain_length q) P k
theorem unE_ok {l : List Pc} (h : checkE l = 0) : unE l = nUnits l := by unfold unE; rw [if_pos h]
/-- what the law asks of the parts -/
structure GlFacts (l : List Pc) (at' : List Int) (P : List (List Pc)) : Prop where
  count : P.length = at'.length + 1
  ok : ∀ k, k < P.length → checkE (P.getD k []) = 0
  cum : ∀ i, i < at'.length → ((fromTo P (i + 1) : Nat) : Int) = at'.getD i 0
  plain : plTo P P.length = plainB l
  ge : glueE P = 0
  gl : glueL P = l
  first : at' = [] → P.getD 0 [] = l
  bps : bulkPs P ≤ bulk l + 1024 * at'.length + 512
  bp : ∀ k, k < P.length → bulk (P.getD k []) ≤ bulk l + 1024
theorem gl_facts {l : List Pc} {at' : List Int} (h : ctE l at' = 0) : GlFacts l at' (ctR l at') := by
  have hk := ct_ok h
  rw [(ok_ct hk).2]
  have hR := hk.atoms
  have hv := hk.valid
  have hc := hk.count
  obtain ⟨g1, g2⟩ := hk.glued
  obtain ⟨b1, b2⟩ := hk.bulks
  have hu := (raw_units (singleL l) at' 0 [] [] hk.pl0).2
  have hp := raw_plain (singleL l) at' 0 [] []
  have h0 : at' = [] → rawG at' 0 [] [] (singleL l) = [singleL l] := fun e => by rw [e, rawG_none]; rfl
  generalize rawG at' 0 [] [] (singleL l) = R at *
  refine ⟨by rw [List.length_map, hc], ?_, ?_, ?_, g1, g2, ?_, b1, ?_⟩
  · intro k hk
    rw [List.length_map] at hk
    rw [getD_map]
    exact hv _ (getD_memL hk)
  · intro i hi
    have := hu i hi
    have e : fromTo (R.map joinL) (i + 1) = ((R.take (i + 1)).map unS).sum := by
      unfold fromTo
      rw [← List.map_take, List.map_map]
      congr 1
      refine List.map_congr_left fun q hq => ?_
      exact units_join (hR q (List.mem_of_mem_take hq))
    rw [e]
    have e0 : unS [] = 0 := rfl
    rw [e0] at this
    omega
  · unfold plTo
    rw [List.take_length]
    have e : (R.map joinL).flatMap plainB = R.flatMap plainB := by
      rw [List.flatMap_map]
      congr 1
      funext q
      exact plain_join q
    rw [e, hp]
    have := plain_join (singleL l)
    rw [join_single hk.ok] at this
    rw [this]
    rfl
  · intro e
    rw [h0 e]
    exact join_single hk.ok
  · intro k hk
    rw [List.length_map] at hk
    rw [getD_map]
    exact b2 _ (getD_memL hk)
theorem split_at {l : List Int} {k : Nat} (h : k < l.length) : l = l.take k ++ l.getD k 0 :: l.drop (k + 1) := by
  have e : l.getD k 0 :: l.drop (k + 1) = l.drop k := (drop_ints2 h).symm
  rw [e, List.take_append_drop]
structure TwoFacts (l : List Pc) (at' : List Int) (P : List (List Pc)) (k : Nat) (L0 L1 : List Pc) (Pa Pb : List (List Pc)) : Prop where
  two : ctR l [at'.getD k 0] = [L0, L1]
  ea : ctE L0 (at'.take k) = 0
  ra : ctR L0 (at'.take k) = Pa
  eb : ctE L1 ((at'.drop (k + 1)).map fun b => b - at'.getD k 0) = 0
  rb : ctR L1 ((at'.drop (k + 1)).map fun b => b - at'.getD k 0) = Pb
  all : Pa ++ Pb = P
  b0 : bulk L0 ≤ bulk l + 1024
  b1 : bulk L1 ≤ bulk l + 1024
theorem two_facts {l : List Pc} {at' : List Int} (h : ctE l at' = 0) {k : Nat} (hk : k < at'.length) :
    ctE l [at'.getD k 0] = 3 ∨ (ctE l [at'.getD k 0] = 0 ∧ ∃ L0 L1 Pa Pb, TwoFacts l at' (ctR l at') k L0 L1 Pa Pb) := by
  have hc := ct_ok h
  have hs := split_at hk
  have hc2 : CutOk l (at'.take k ++ at'.getD k 0 :: at'.drop (k + 1)) := by rw [← hs]; exact hc
  obtain ⟨o1, o2, o3, o4⟩ := okPl_app hc2.pl
  rcases ct_limit (at' := [at'.getD k 0]) hc.ok ⟨o2, o3, trivial⟩ with h0 | h3
  · right
    have h2 := ct_ok h0
    obtain ⟨q0, q1, e1, c0, c1, e2⟩ := hc2.two h2
    obtain ⟨_, bs⟩ := h2.bulks
    rw [e1] at bs
    obtain ⟨a1, a2⟩ := ok_ct c0
    obtain ⟨b1, b2⟩ := ok_ct c1
    refine ⟨h0, joinL q0, joinL q1, _, _, ⟨by rw [(ok_ct h2).2, e1]; rfl, a1, a2, b1, b2, ?_, bs q0 (by simp), bs q1 (by simp)⟩⟩
    rw [e2, ← hs, (ok_ct hc).2]
  · exact .inl h3
theorem at_small {l : List Pc} {at' : List Int} (h : ctE l at' = 0) {k : Nat} (hk : k < at'.length) : 1 ≤ at'.getD k 0 ∧ at'.getD k 0 ≤ bulk l := by
  have hc := ct_ok h
  have hs := split_at hk
  have hc2 : CutOk l (at'.take k ++ at'.getD k 0 :: at'.drop (k + 1)) := by rw [← hs]; exact hc
  obtain ⟨o1, o2, o3, o4⟩ := okPl_app hc2.pl
  have h1 : nUnits l ≤ bulk l := sum_un l
  omega
def restTo (at' : List Int) (k j : Nat) : List Int := ((at'.take j).drop (k + 1)).map fun b => b - at'.getD k 0
theorem restTo_succ {at' : List Int} {k j : Nat} (h1 : k + 1 ≤ j) (h2 : j < at'.length) : restTo at' k (j + 1) = restTo at' k j ++ [at'.getD j 0 - at'.getD k 0] := by
  unfold restTo
  rw [List.take_add_one, List.getElem?_eq_getElem h2, List.drop_append_of_le_length (by rw [List.length_take]; omega), List.map_append, List.getD_eq_getElem?_getD (l := at') (i := j), List.getElem?_eq_getElem h2]
  rfl
theorem restTo_zero (at' : List Int) (k : Nat) : restTo at' k (k + 1) = [] := by
  unfold restTo
  rw [List.drop_of_length_le (by rw [List.length_take]; omega)]
  rfl
theorem restTo_all (at' : List Int) (k : Nat) : restTo at' k at'.length = (at'.drop (k + 1)).map fun b => b - at'.getD k 0 := by unfold restTo; rw [List.take_length]
theorem restTo_len (at' : List Int) (k j : Nat) : (restTo at' k j).length ≤ at'.length := by
  unfold restTo
  rw [List.length_map, List.length_drop, List.length_take]
  omega
theorem cell_new1g {w : World} {n : Nat} (hs : w.heap.size = n) (a : Value) (t : TypeId) : ∀ j u, [a][j]? = some u → (w.alloc (.cells #[a] t)).cell? ((⟨n, 0, none⟩ : Addr).add j) = some u := by
  subst hs
  intro j u hj
  match j, hj with
  | 0, hj => simp only [List.getElem?_cons_zero, Option.some.injEq] at hj; subst hj; exact (Lib.cell_of_heap (heap_alloc_new w (.cells #[a] t)) 0).trans rfl
theorem own_sliceg {w : World} {B t sz n : Nat} {v : Value} {xs : List Value} (h : w.ownsRow B t sz v n xs) : ∃ p c, v = .slice p n c := by
  rcases h.2 with ⟨rfl, h0⟩ | ⟨g, cap, cur, rfl, _⟩
  · exact ⟨none, 0, by rw [h0]⟩
  · exact ⟨_, _, rfl⟩
theorem info_int_g : ∃ i, Tryz.prog.info? 3 = some i ∧ i.zero = some (.int .i64 0) ∧ i.size = 1 ∧ i.bytes = 8 := by
  have h : (Tryz.prog.info? 3).map (fun i => (i.zero, i.size, i.bytes)) = some (some (.int .i64 0), 1, 8) := by kernel_rfl
  cases hq : Tryz.prog.info? 3 with
  | none => rw [hq] at h; cases h
  | some i => rw [hq] at h; simp only [Option.map_some, Option.some.injEq, Prod.mk.injEq] at h; exact ⟨i, rfl, h.1, h.2.1, h.2.2⟩
def cellsZ (us : List Int) : List Value := us.map fun z => .int .i64 z
theorem cellsZ_app (us : List Int) (z : Int) : cellsZ (us ++ [z]) = cellsZ us ++ [.int .i64 z] := by unfold cellsZ; rw [List.map_append]; rfl
theorem intsZ_own {B : Nat} {v : Value} {us : List Int} {w : World} (h : w.ownsRow B 3 1 v us.length (cellsZ us)) : IntsAt w v us := by
  have hc := h
  rcases h.2 with ⟨rfl, h0⟩ | ⟨g, cap, cur, rfl, hg, hh, hn, hm, _⟩
  · exact ⟨none, 0, by rw [h0], by omega, by unfold maxLen; omega, fun h => by omega⟩
  · refine ⟨some ⟨g, 0, none⟩, cap, rfl, hn, hm, fun _ => ⟨_, rfl, lt_of_block hh, fun i j hi hj => ?_⟩⟩
    obtain rfl : j = 0 := by omega
    refine World.ownsRow.cells hc (g := g) rfl _ _ ?_
    unfold cellsZ
    dsimp only
    rw [Nat.mul_one, Nat.add_zero, List.getElem?_map, List.getElem?_eq_getElem hi, List.getD_eq_getElem?_getD, List.getElem?_eq_getElem hi]
    rfl
theorem parts_a {Pa Pb P : List (List Pc)} (h : Pa ++ Pb = P) {i : Nat} (hi : i < Pa.length) : P.getD i [] = Pa.getD i [] := by
  rw [← h, List.getD_eq_getElem?_getD, List.getD_eq_getElem?_getD, List.getElem?_append_left hi]
theorem parts_b {Pa Pb P : List (List Pc)} (h : Pa ++ Pb = P) {i : Nat} (hi : Pa.length ≤ i) : P.getD i [] = Pb.getD (i - Pa.length) [] := by
  rw [← h, List.getD_eq_getElem?_getD, List.getD_eq_getElem?_getD, List.getElem?_append_right hi]
theorem ctR_none {l : List Pc} {at' : List Int} (h : ctE l at' ≠ 0) : ctR l at' = [] := by unfold ctR; rw [if_neg h]
set_option maxHeartbeats 64000000 in
theorem glued_law (l : List Pc) (at' : List Int) (z : Int) (v va : Value) (w : World) (hv : PcsAt w v l) (ha : IntsAt w va at')
    (hsz : ∀ x ∈ l, x.s.size ≤ 140737488355328) (hll : l.length ≤ 140737488355328) (hT : Tabs w)
    (hR : ∀ w', Below w.heap.size w w' → Calls Tryz.prog 8 #[] w' fun e w'' => e = .returned (.bool true) ∧ Below w'.heap.size w' w'') :
    Calls Tryz.prog 4 #[v, va, .int .i64 z] w fun e w' => e = .returned (.bool true) ∧ Below w.heap.size w w' := by
  have HB1 := Lib.hid (below_box (w := w) (.cells #[v] 22))
  have hv1 := hv.step HB1.out
  have cL := long_any l v w.heap.size (w.alloc (.cells #[v] 22)) (by rw [Lib.cell_of_heap (heap_alloc_new w _)]; rfl) hv1 hsz hll
  have HVu := Lib.hid hv
  have HAu := Lib.hid ha
  have HTu := Lib.hid hT
  obtain ⟨p, cap, rfl, hl, hc, _⟩ := id hv
  obtain ⟨pa, ca, rfl, hla, hca⟩ := ha.form
  unfold maxLen at hc hca
  by_cases h1 : at'.length ≤ 30
  · have h1I : ¬ (30 : Int) < (at'.length : Int) := by omega
    by_cases h3 : bulk l ≤ 2500
    · have cC1 := fun wr (h : Below w.heap.size w wr) => cut_any l at' _ _ wr (hv.step h) (ha.step h) (by omega) h1 (hT.step h)
      clear hv1 hv ha hT hsz
      by_cases hE : ctE l at' = 0
      · have hG := gl_facts hE
        have HTW := Lib.hid (fun k hk => @two_facts l at' hE k hk)
        have HAS := Lib.hid (fun k hk => @at_small l at' hE k hk)
        rw [hE] at cC1
        generalize ctR l at' = P at *
        have hcount := hG.count
        have hwl : IntKind.i64.wrap ((at'.length : Int) + 1) = (P.length : Int) := by rw [IntKind.wrap_i64]; omega
        have hP31 : P.length ≤ 31 := by omega
        have HG := Lib.hid hG
        have HCN := Lib.hid hcount
        clear hG hcount
        go_enter Tryz.func4, Tryz.ntmps4
        go_wp2_with (first
          | (go_at_call 7; (with_reducible refine (cL).mono ?_); rintro e w1 ⟨⟨b, rfl, hbb⟩, hw⟩; obtain rfl := hw.symm; cases b)
          | (go_at_call 9; (with_reducible refine (cC1 _ HB1.out).mono ?_); rintro e w2 ⟨⟨u, rfl, hu⟩, hb2⟩; obtain ⟨pp, cp, rfl, hlp, hcp⟩ := hu.form; have HP2 := Lib.hid hu; have HB2 := Lib.hid (below_next HB1.out hb2); clear hb2 hu)
          | (go_at_call 8; (with_reducible refine (hR _ HB1.out).mono ?_); rintro e w99 ⟨rfl, hb99⟩; have HB99 := Lib.hid (below_next HB1.out hb99); clear hb99))
        · clear cL cC1 hbb
          have hbp : bulkPs P ≤ 40000 := by have := HG.out.bps; omega
          go_loopw [9, 10, 11] (fun s f i wr => ∃ k : Nat, i = .int .i64 k ∧ f = .int .i64 (fromTo P k : Nat) ∧ s = .string (bytes (plTo P k)) ∧ k ≤ P.length ∧ Hid (Below w2.heap.size w2 wr)) (fun _ _ i _ => P.length - (RowKit.intOf i).toNat)
          case atStart => exact ⟨0, rfl, by simp [fromTo], by simp [plTo, bytes], Nat.zero_le _, Below.refl _ _⟩
          case round =>
            obtain ⟨k, rfl, rfl, rfl, hk, HX⟩ := hrel
            have HB := Lib.hid (below_next HB2.out HX.out)
            have hpl := plTo_le P k
            have hbs := bytes_size (plTo P k)
            by_cases hlt : k < P.length
            · have hki : (k : Int) < (P.length : Int) := by omega
              have hk0 : (0 : Int) ≤ (k : Int) := by omega
              obtain ⟨us, q5, c5, e5, _, _, g5⟩ := pts_get (HP2.out.step HX.out)
              injection e5 with e51 _ e52
              subst e51 e52
              obtain ⟨A5, rfl, x5, hp5⟩ := g5 k hlt
              obtain ⟨o5, d5, f5, _, _⟩ := id hp5
              rw [f5] at x5 hp5
              have hok := HG.out.ok k hlt
              have hbk := HG.out.bp k hlt
              have hA5 : (A5.add k).block < wr.heap.size := World.block_lt_of_cell? wr _ x5
              have cU := refUnits_any (P.getD k []) _ wr hp5 (by omega)
              rw [unE_ok hok, hok] at cU
              have cPl := fun wr2 (h : Below wr.heap.size wr wr2) => plain_any (P.getD k []) _ wr2 (hp5.step h) (by omega)
              have HFS := Lib.hid (fromTo_succ hlt)
              have HPS := Lib.hid (plTo_succ hlt)
              have hfl := fromTo_le P (k + 1)
              have hpl2 := plain_length (P.getD k [])
              have hbs2 := bytes_size (plainB (P.getD k []))
              have HCU := Lib.hid (HG.out.cum k)
              clear g5 hp5 f5 hok
              generalize hn1 : nUnits (P.getD k []) = n1 at *
              generalize plainB (P.getD k []) = s1 at *
              generalize hf2 : fromTo P (k + 1) = f2 at *
              generalize hf1 : fromTo P k = f1 at *
              have hwf : IntKind.i64.wrap ((f1 : Int) + (n1 : Int)) = (f2 : Int) := by rw [HFS.out, IntKind.wrap_i64]; have := HFS.out; omega
              have HF2 := Lib.hid hf2
              clear hn1 hf1 hf2
              generalize P.getD k [] = q at *
              by_cases hka : k < at'.length
              · have hkai : (k : Int) < (at'.length : Int) := by omega
                obtain ⟨Aa, rfl, _⟩ := HAu.out.cell (Below.refl _ _) hka
                go_wp2_with (first
                  | (go_at_call 14; (with_reducible refine cU.mono ?_); rintro e w4 ⟨rfl, hb4⟩; have HX4 := Lib.hid hb4; have x4 := (hb4.cell (p := A5.add k) hA5).trans x5; clear hb4)
                  | (go_at_call 15; (with_reducible refine (cPl _ HX4.out).mono ?_); rintro e w5 ⟨rfl, hb5⟩; have HX5 := Lib.hid (below_next HX.out (below_next HX4.out hb5)); obtain ⟨Ab, eb, y5⟩ := HAu.out.cell (below_next HB2.out HX5.out) hka; (injection eb with eb; subst eb); rw [← HCU.out hka] at y5; clear hb5))
                go_roundw
                case rel => exact ⟨k + 1, by go_num, by rw [HF2.out], by rw [HPS.out, bytes_app]; rfl, by omega, HX5.out⟩
                case measure => simp [RowKit.intOf]; omega
              · have hkai : ¬ (k : Int) < (at'.length : Int) := by omega
                go_wp2_with (first
                  | (go_at_call 14; (with_reducible refine cU.mono ?_); rintro e w4 ⟨rfl, hb4⟩; have HX4 := Lib.hid hb4; have x4 := (hb4.cell (p := A5.add k) hA5).trans x5; clear hb4)
                  | (go_at_call 15; (with_reducible refine (cPl _ HX4.out).mono ?_); rintro e w5 ⟨rfl, hb5⟩; have HX5 := Lib.hid (below_next HX.out (below_next HX4.out hb5)); clear hb5))
                go_roundw
                case rel => exact ⟨k + 1, by go_num, by rw [HF2.out], by rw [HPS.out, bytes_app]; rfl, by omega, HX5.out⟩
                case measure => simp [RowKit.intOf]; omega
            · have hki : ¬ (k : Int) < (P.length : Int) := by omega
              obtain rfl : k = P.length := by omega
              rw [HG.out.plain]
              clear hpl hbs
              have hgl := HG.out.gl
              have hge := HG.out.ge
              have HP3 := Lib.hid (HP2.out.step HX.out)
              have cG := glue_any P _ wr HP3.out (by omega) (by omega) (HTu.out.step HB.out)
              rw [hge, hgl] at cG
              have hbl := blen l
              have cPl := fun wr2 (h : Below w.heap.size w wr2) => plain_any l _ wr2 (HVu.out.step h) (by omega)
              clear hgl hge
              generalize bytes (plainB l) = sl at *
              by_cases ha0 : at'.length = 0
              · have hai : (at'.length : Int) = 0 := by omega
                have hPp : 0 < P.length := by have := HCN.out; omega
                have hfirst := HG.out.first (List.eq_nil_of_length_eq_zero ha0)
                obtain ⟨us, q5, c5, e5, _, _, g5⟩ := pts_get HP3.out
                injection e5 with e51 _ e52
                subst e51 e52
                obtain ⟨A5, rfl, x5, hp5⟩ := g5 0 hPp
                obtain ⟨o5, d5, f5, _, _⟩ := id hp5
                rw [f5] at x5 hp5
                rw [hfirst] at hp5 x5
                rw [show A5.add 0 = A5 by simp [Addr.add]] at x5
                have hA5 : A5.block < wr.heap.size := World.block_lt_of_cell? wr _ x5
                have HP5 := Lib.hid hp5
                have hPi : (0 : Int) < (P.length : Int) := by omega
                clear g5 hp5 f5 hfirst
                go_wp2_with (first
                  | (go_at_call 12; (with_reducible refine cG.mono ?_); rintro e w6 ⟨⟨u6, rfl, hu6⟩, hb6⟩; have HG6 := Lib.hid hu6; obtain ⟨g1, g2, rfl⟩ := hu6.form; have HB6 := Lib.hid (below_next HB.out hb6); have x6 := (hb6.cell (p := A5) hA5).trans x5; have HQ6 := Lib.hid (HP5.out.step hb6); clear hb6 hu6)
                  | (go_at_call 11; (with_reducible refine (sameP_any l _ _ w6 HG6.out.at (HVu.out.step HB6.out) (by omega)).mono ?_); rintro e w7 ⟨rfl, n7, rfl⟩)
                  | (go_at_call 15; (with_reducible refine (cPl _ (below_next HB6.out (below_dn _ n7))).mono ?_); rintro e w8 ⟨rfl, hb8⟩; have HB8 := Lib.hid (below_next (below_next HB6.out (below_dn _ n7)) hb8); have x8 := (hb8.cell (p := A5) (World.block_lt_of_cell? w6 _ x6)).trans x6; have HQ8 := Lib.hid ((HQ6.out.step (below_dn _ n7)).step hb8); clear hb8)
                  | (go_at_call 11; (with_reducible refine (sameP_any l _ _ w8 HQ8.out (HVu.out.step HB8.out) (by omega)).mono ?_); rintro e w9 ⟨rfl, n9, rfl⟩; have HB9 := Lib.hid (below_next HB8.out (below_dn _ n9)))
                  | (go_at_call 8; (with_reducible refine (hR _ HB9.out).mono ?_); rintro e w99 ⟨rfl, hb99⟩; have HB99 := Lib.hid (below_next HB9.out hb99); clear hb99))
                go_ret
                exact ⟨rfl, HB99.out⟩
              · have hai : ¬ (at'.length : Int) = 0 := by omega
                have hnp : (0 : Int) < (at'.length : Int) := by omega
                obtain ⟨t, ht⟩ : ∃ t, z.tmod (at'.length : Int) = t := ⟨_, rfl⟩
                have ht1 := Int.tmod_lt_of_pos z hnp
                have ht2 := Int.lt_tmod_of_pos z hnp
                rw [ht] at ht1 ht2
                obtain ⟨s, hs⟩ : ∃ s, t + (at'.length : Int) = s := ⟨_, rfl⟩
                have hs2 : IntKind.i64.wrap (t + (at'.length : Int)) = s := by rw [IntKind.wrap_i64]; omega
                have hs0 : 0 ≤ s := by omega
                obtain ⟨k, hk⟩ : ∃ k : Nat, s.tmod (at'.length : Int) = (k : Int) := ⟨(s.tmod (at'.length : Int)).toNat, by have := Int.tmod_nonneg (at'.length : Int) hs0; omega⟩
                have hkl : k < at'.length := by have := Int.tmod_lt_of_pos s hnp; rw [hk] at this; omega
                have hk1 : IntKind.i64.wrap ((k : Int) + 1) = ((k + 1 : Nat) : Int) := by rw [IntKind.wrap_i64]; omega
                have hk0 : (0 : Int) ≤ (k : Int) := by omega
                have hk2 : (k : Int) ≤ ((k + 1 : Nat) : Int) := by omega
                have hk3 : ((k + 1 : Nat) : Int) ≤ (ca : Int) := by omega
                have hk4 : (k : Int) ≤ (ca : Int) := by omega
                obtain ⟨Aa, rfl, _⟩ := HAu.out.cell (Below.refl _ _) hkl
                have hkl' : (k : Int) < (at'.length : Int) := by omega
                have c2 := fun wr2 (h : Below w.heap.size w wr2) => cut_any l [at'.getD k 0] _ _ wr2 (HVu.out.step h) (ints_sub (HAu.out.step h) hkl) (by omega) (by simp) (HTu.out.step h)
                clear hs ht1 ht2 hs0 hnp
                rcases HTW.out k hkl with h33 | ⟨h00, L0, L1, Pa, Pb, hTF⟩
                · rw [h33, ctR_none (by rw [h33]; decide)] at c2
                  go_wp2_with (first
                    | (go_at_call 12; (with_reducible refine cG.mono ?_); rintro e w6 ⟨⟨u6, rfl, hu6⟩, hb6⟩; have HG6 := Lib.hid hu6; obtain ⟨g1, g2, rfl⟩ := hu6.form; have HB6 := Lib.hid (below_next HB.out hb6); have HP6 := Lib.hid (HP3.out.step hb6); clear hb6 hu6)
                    | (go_at_call 11; (with_reducible refine (sameP_any l _ _ w6 HG6.out.at (HVu.out.step HB6.out) (by omega)).mono ?_); rintro e w7 ⟨rfl, n7, rfl⟩)
                    | (go_at_call 15; (with_reducible refine (cPl _ (below_next HB6.out (below_dn _ n7))).mono ?_); rintro e w8 ⟨rfl, hb8⟩; have HB8 := Lib.hid (below_next (below_next HB6.out (below_dn _ n7)) hb8); have HP8 := Lib.hid ((HP6.out.step (below_dn _ n7)).step hb8); clear hb8)
                    | (go_at_call 9; (with_reducible refine (c2 _ HB8.out).mono ?_); rintro e w9 ⟨⟨u9, rfl, hu9⟩, hb9⟩; obtain ⟨pt, ct, rfl, hlt, hct⟩ := hu9.form; have HT9 := Lib.hid hu9; have HB9 := Lib.hid (below_next HB8.out hb9); have HP9 := Lib.hid (HP8.out.step hb9); clear hb9 hu9)
                    | (go_at_call 8; (with_reducible refine (hR _ HB9.out).mono ?_); rintro e w99 ⟨rfl, hb99⟩; have HB99 := Lib.hid (below_next HB9.out hb99); clear hb99))
                  go_ret
                  exact ⟨rfl, HB99.out⟩
                · rw [h00, hTF.two] at c2
                  have HTF := Lib.hid hTF
                  clear hTF h00
                  go_wp2_with (first
                    | (go_at_call 12; (with_reducible refine cG.mono ?_); rintro e w6 ⟨⟨u6, rfl, hu6⟩, hb6⟩; have HG6 := Lib.hid hu6; obtain ⟨g1, g2, rfl⟩ := hu6.form; have HB6 := Lib.hid (below_next HB.out hb6); have HP6 := Lib.hid (HP3.out.step hb6); clear hb6 hu6)
                    | (go_at_call 11; (with_reducible refine (sameP_any l _ _ w6 HG6.out.at (HVu.out.step HB6.out) (by omega)).mono ?_); rintro e w7 ⟨rfl, n7, rfl⟩)
                    | (go_at_call 15; (with_reducible refine (cPl _ (below_next HB6.out (below_dn _ n7))).mono ?_); rintro e w8 ⟨rfl, hb8⟩; have HB8 := Lib.hid (below_next (below_next HB6.out (below_dn _ n7)) hb8); have HP8 := Lib.hid ((HP6.out.step (below_dn _ n7)).step hb8); clear hb8)
                    | (go_at_call 9; (with_reducible refine (c2 _ HB8.out).mono ?_); rintro e w9 ⟨⟨u9, rfl, hu9⟩, hb9⟩; obtain ⟨pt, ct, rfl, hlt, hct⟩ := hu9.form; have HT9 := Lib.hid hu9; have HB9 := Lib.hid (below_next HB8.out hb9); have HP9 := Lib.hid (HP8.out.step hb9); clear hb9 hu9))
                  obtain ⟨i0, hi0, hz0, hz1, hz2⟩ := info_int_g
                  clear c2 cG cPl
                  go_loopw [19, 20] (fun o i wr => ∃ j : Nat, i = .int .i64 j ∧ k + 1 ≤ j ∧ j ≤ at'.length ∧ Hid (wr.ownsRow w9.heap.size 3 1 o (restTo at' k j).length (cellsZ (restTo at' k j))) ∧ Hid (Below w9.heap.size w9 wr)) (fun _ i _ => at'.length - (RowKit.intOf i).toNat)
                  case atStart => exact ⟨k + 1, rfl, Nat.le_refl _, hkl, (show w9.ownsRow w9.heap.size 3 1 _ (restTo at' k (k + 1)).length (cellsZ (restTo at' k (k + 1))) by rw [restTo_zero]; exact World.ownsRow_nil _ _ _ _), Below.refl _ _⟩
                  case round =>
                    obtain ⟨j, rfl, hj1, hj2, HO, HX9⟩ := hrel
                    have HX := Lib.hid (below_next HB9.out HX9.out)
                    have hrl := restTo_len at' k j
                    by_cases hlt : j < at'.length
                    · have hji : (j : Int) < (at'.length : Int) := by omega
                      have hj0 : (0 : Int) ≤ (j : Int) := by omega
                      obtain ⟨Ab, eb, x0⟩ := HAu.out.cell HX.out hlt
                      obtain ⟨Ac, ec, x1⟩ := HAu.out.cell HX.out hkl
                      injection eb with eb
                      injection ec with ec
                      subst eb ec
                      have hs1 := HAS.out j hlt
                      have hs2 := HAS.out k hkl
                      have HRS := Lib.hid (restTo_succ hj1 hlt)
                      have hszw := HX9.out.size
                      generalize at'.getD j 0 = y1 at x0 hs1 HRS
                      generalize at'.getD k 0 = y2 at x1 hs2 HRS
                      generalize restTo at' k j = us at HO HRS hrl
                      obtain ⟨ao, co, hfo⟩ := own_sliceg HO.out
                      subst hfo
                      have hw : IntKind.i64.wrap (y1 - y2) = y1 - y2 := by rw [IntKind.wrap_i64]; omega
                      have HO2 := Lib.hid (show (wr.alloc (.cells #[.int .i64 (y1 - y2)] 3)).drew.ownsRow w9.heap.size 3 1 (.slice ao us.length co) us.length (cellsZ us) from (HO.out.alloc _).drew)
                      have HNW := Lib.hid (show ∀ j u, [Value.int .i64 (y1 - y2)][j]? = some u → (wr.alloc (.cells #[.int .i64 (y1 - y2)] 3)).drew.cell? ((⟨wr.heap.size, 0, none⟩ : Addr).add j) = some u from cell_new1g rfl _ _)
                      have HON := Lib.hid (show ∀ u ∈ [Value.int .i64 (y1 - y2)], u.oneCell' = true from fun u hu => by simp at hu; rw [hu]; rfl)
                      have q1 := Lib.hid (show us.length + 1 ≤ maxLen by unfold maxLen; omega)
                      have q2 := Lib.hid (show (us.length + 1) * 8 ≤ 140737488355328 by omega)
                      have q3 := Lib.hid (show w9.heap.size ≤ (wr.alloc (.cells #[.int .i64 (y1 - y2)] 3)).drew.heap.size by show _ ≤ (wr.alloc _).heap.size; simp; omega)
                      have q4 := Lib.hid (show 0 < 1 by decide)
                      have HXA := Lib.hid ((HX9.out.alloc hszw (.cells #[.int .i64 (y1 - y2)] 3)).drew)
                      clear hs1 hs2
                      go_wp2
                      go_region_law (refine step_append_lies _ (by rfl) _ _ _ (by rfl) w9.heap.size 3 i0 _ 1 8 Tryz.underlying23 hi0 hz0 hz1 hz2 rfl (by decide) (.slice ao us.length co) us.length (cellsZ us) (by rfl) HO2.out ⟨wr.heap.size, 0, none⟩ 1 1 [.int .i64 (y1 - y2)] (by rfl) rfl HNW.out HON.out q4.out q1.out q2.out q3.out _ rfl ?_; intro g12 c12 w12 hown12 hgrow12 hat12 hlt12; have HO12 := Lib.hid (show w12.ownsRow w9.heap.size 3 1 (.slice (some ⟨g12, 0, none⟩) (us.length + 1) c12) (us ++ [y1 - y2]).length (cellsZ (us ++ [y1 - y2])) by rw [List.length_append, List.length_singleton, cellsZ_app]; exact hown12); have HX12 := Lib.hid (HXA.out.grown hgrow12 q3.out (fun k hk => (HO2.out.lt k hk).1)); clear hgrow12 hown12 hat12 hlt12)
                      go_wp2
                      all_goals exact ⟨⟨j + 1, rfl, by omega, by omega, (by rw [HRS.out]; exact HO12), HX12⟩, by simp [RowKit.intOf]; omega⟩
                    · have hji : ¬ (j : Int) < (at'.length : Int) := by omega
                      obtain rfl : j = at'.length := by omega
                      generalize hrs : restTo at' k at'.length = rs at HO hrl
                      have heb : ctE L1 rs = 0 := by rw [← hrs, restTo_all]; exact HTF.out.eb
                      have hrb : ctR L1 rs = Pb := by rw [← hrs, restTo_all]; exact HTF.out.rb
                      obtain ⟨ao, co, hfo⟩ := own_sliceg HO.out
                      subst hfo
                      have HRI := Lib.hid (intsZ_own HO.out)
                      clear hrs
                      obtain ⟨us9, q9, c9, e9, _, _, g9⟩ := pts_get (HT9.out.step HX9.out)
                      injection e9 with e91 _ e92
                      subst e91 e92
                      obtain ⟨A9, rfl, x0, hp0⟩ := g9 0 (by simp)
                      obtain ⟨A9', e9, x1, hp1⟩ := g9 1 (by simp)
                      injection e9 with e9
                      subst e9
                      rw [show A9.add 0 = A9 by simp [Addr.add]] at x0
                      obtain ⟨o0, d0, f0, _, _⟩ := id hp0
                      obtain ⟨o1, d1, f1, _, _⟩ := id hp1
                      rw [f0] at x0 hp0
                      rw [f1] at x1 hp1
                      have hp0 : PcsAt wr (.slice o0 L0.length d0) L0 := hp0
                      have hp1 : PcsAt wr (.slice o1 L1.length d1) L1 := hp1
                      have x0 : wr.cell? A9 = some (.slice o0 L0.length d0) := x0
                      have x1 : wr.cell? (A9.add 1) = some (.slice o1 L1.length d1) := x1
                      have hb0 := HTF.out.b0
                      have hb1 := HTF.out.b1
                      have hA1 : A9.block < wr.drew.heap.size := by have := World.block_lt_of_cell? wr _ x1; rwa [add_block] at this
                      have HPD := Lib.hid (show PcsAt wr.drew (.slice o1 L1.length d1) L1 from hp1)
                      have x0d : wr.drew.cell? A9 = some (.slice o0 L0.length d0) := x0
                      have x1d : wr.drew.cell? { block := A9.block, off := A9.off + 1 } = some (.slice o1 L1.length d1) := by
                        have hh := cell_off (w := wr.drew) (a := A9) (n := 0) (d := 1) (by omega) x1
                        rwa [show A9.add 0 = A9 by simp [Addr.add]] at hh
                      have HAD := Lib.hid (show IntsAt wr.drew (.slice (some Aa) at'.length ca) at' from HAu.out.step HX.out.drew)
                      have HBD := Lib.hid (show Below w.heap.size w wr.drew from HX.out.drew)
                      have HRD := Lib.hid (show IntsAt wr.drew (.slice ao rs.length co) rs from HRI.out)
                      have HPW := Lib.hid (show PtsAt wr.drew (.slice pp P.length cp) P from HP9.out.step HX9.out.drew)
                      have c3 := cut_any L0 (at'.take k) (.slice o0 L0.length d0) (.slice (some Aa) k ca) wr.drew hp0 (ints_take HAD.out (by omega)) (by omega) (by rw [List.length_take]; omega) (HTu.out.step HBD.out)
                      rw [HTF.out.ea, HTF.out.ra] at c3
                      have c4 := fun wr2 (h : Below wr.drew.heap.size wr.drew wr2) => cut_any L1 rs (.slice o1 L1.length d1) (.slice ao rs.length co) wr2 (HPD.out.step h) (HRD.out.step h) (by omega) (by omega) ((HTu.out.step HBD.out).step h)
                      rw [heb, hrb] at c4
                      clear heb hrb
                      have HAL := Lib.hid HTF.out.all
                      have hsum : Pa.length + Pb.length = P.length := by rw [← HAL.out, List.length_append]
                      have hlw : IntKind.i64.wrap ((Pa.length : Int) + (Pb.length : Int)) = (P.length : Int) := by rw [IntKind.wrap_i64]; omega
                      clear g9 hp0 hp1 f0 f1
                      go_wp2
                      go_region_held3 (fun w' => w'.cell? A9 = some (.slice o0 L0.length d0))
                        (first
                          | exact g0
                          | (go_keep; done))
                        ((go_simp; go_at_call 9; (with_reducible refine c3.mono ?_); rintro e w10 ⟨⟨u10, rfl, hu10⟩, hb10⟩; obtain ⟨pA, cA, rfl, _, _⟩ := hu10.form; have HPA := Lib.hid hu10; have HD10 := Lib.hid hb10; have z1 := (hb10.cell (p := { block := A9.block, off := A9.off + 1 }) hA1).trans x1d; have g0 := (hb10.cell (p := A9) hA1).trans x0d; clear hb10 hu10))
                      go_wp2_with (go_at_call 9; (with_reducible refine (c4 _ HD10.out).mono ?_); rintro e w11 ⟨⟨u11, rfl, hu11⟩, hb11⟩; obtain ⟨pB, cB, rfl, _, _⟩ := hu11.form; have HPB := Lib.hid hu11; have HPA2 := Lib.hid (HPA.out.step hb11); have HD11 := Lib.hid (below_next HD10.out hb11); clear hb11 hu11)
                      have HB11 := Lib.hid (below_next HBD.out HD11.out)
                      have HP11 := Lib.hid (HPW.out.step HD11.out)
                      go_loopw [23] (fun i wr => ∃ j : Nat, i = .int .i64 j ∧ j ≤ P.length ∧ Hid (Below w11.heap.size w11 wr)) (fun i _ => P.length - (RowKit.intOf i).toNat)
                      case atStart => exact ⟨0, rfl, Nat.zero_le _, Below.refl _ _⟩
                      case round =>
                        obtain ⟨j, rfl, hj, HY⟩ := hrel
                        by_cases hlt : j < P.length
                        · have hji : (j : Int) < (P.length : Int) := by omega
                          have hj0 : (0 : Int) ≤ (j : Int) := by omega
                          obtain ⟨vs, q5, c5, e5, _, _, g5⟩ := pts_get (HP11.out.step HY.out)
                          injection e5 with e51 _ e52
                          subst e51 e52
                          obtain ⟨A5, rfl, x5, hp5⟩ := g5 j hlt
                          obtain ⟨o5, d5, f5, _, _⟩ := id hp5
                          have hbj := HG.out.bp j hlt
                          have hlj := blen (P.getD j [])
                          rw [f5] at x5 hp5
                          by_cases hja : j < Pa.length
                          · have hjai : (j : Int) < (Pa.length : Int) := by omega
                            obtain ⟨va6, q6, c6, e6, _, _, g6⟩ := pts_get (HPA2.out.step HY.out)
                            injection e6 with e61 _ e62
                            subst e61 e62
                            obtain ⟨A6, rfl, x6, hp6⟩ := g6 j hja
                            obtain ⟨o6, d6, f6, _, _⟩ := id hp6
                            rw [f6] at x6 hp6
                            rw [← parts_a HAL.out hja] at x6 hp6
                            have cS := fun wr2 (h : Below wr.heap.size wr wr2) => sameP_any (P.getD j []) _ _ wr2 (hp5.step h) (hp6.step h) (by omega)
                            clear g5 g6 hp5 hp6 f5 f6
                            generalize P.getD j [] = q at *
                            go_wp2_with (go_at_call 11; (with_reducible refine (cS _ (Below.refl _ _)).mono ?_); rintro e w12 ⟨rfl, n12, rfl⟩; have HY12 := Lib.hid (below_next HY.out (below_dn _ n12)))
                            go_roundw
                            case rel => exact ⟨j + 1, by go_num, by omega, HY12.out⟩
                            case measure => simp [RowKit.intOf]; omega
                          · have hjai : ¬ (j : Int) < (Pa.length : Int) := by omega
                            have hjge : (Pa.length : Int) ≤ (j : Int) := by omega
                            obtain ⟨va6, q6, c6, e6, _, _, g6⟩ := pts_get (HPB.out.step HY.out)
                            injection e6 with e61 _ e62
                            subst e61 e62
                            obtain ⟨A6, rfl, x6, hp6⟩ := g6 (j - Pa.length) (by omega)
                            obtain ⟨o6, d6, f6, _, _⟩ := id hp6
                            rw [f6] at x6 hp6
                            rw [← parts_b HAL.out (by omega)] at x6 hp6
                            have cS := fun wr2 (h : Below wr.heap.size wr wr2) => sameP_any (P.getD j []) _ _ wr2 (hp5.step h) (hp6.step h) (by omega)
                            have hwj : IntKind.i64.wrap ((j : Int) - (Pa.length : Int)) = ((j - Pa.length : Nat) : Int) := by rw [IntKind.wrap_i64]; omega
                            have hd0 : (0 : Int) ≤ ((j - Pa.length : Nat) : Int) := by omega
                            have hd1 : ((j - Pa.length : Nat) : Int) < (Pb.length : Int) := by omega
                            clear g5 g6 hp5 hp6 f5 f6
                            generalize P.getD j [] = q at *
                            generalize j - Pa.length = d at *
                            go_wp2_with (go_at_call 11; (with_reducible refine (cS _ (Below.refl _ _)).mono ?_); rintro e w12 ⟨rfl, n12, rfl⟩; have HY12 := Lib.hid (below_next HY.out (below_dn _ n12)))
                            go_roundw
                            case rel => exact ⟨j + 1, by go_num, by omega, HY12.out⟩
                            case measure => simp [RowKit.intOf]; omega
                        · have hji : ¬ (j : Int) < (P.length : Int) := by omega
                          have HBZ := Lib.hid (below_next HB11.out HY.out)
                          go_wp2_with (go_at_call 8; (with_reducible refine (hR _ HBZ.out).mono ?_); rintro e w99 ⟨rfl, hb99⟩; have HB99 := Lib.hid (below_next HBZ.out hb99); clear hb99)
                          go_ret
                          exact ⟨rfl, HB99.out⟩
        all_goals
          go_ret
          exact ⟨rfl, HB99.out⟩
      · have hN := ctR_none hE
        rw [hN] at cC1
        generalize ctE l at' = Z at *
        have hz : (Z != 0) = true := by simpa using hE
        go_enter Tryz.func4, Tryz.ntmps4
        go_wp2_with (first
          | (go_at_call 7; (with_reducible refine (cL).mono ?_); rintro e w1 ⟨⟨b, rfl, hbb⟩, hw⟩; obtain rfl := hw.symm; cases b)
          | (go_at_call 9; (with_reducible refine (cC1 _ HB1.out).mono ?_); rintro e w2 ⟨⟨u, rfl, hu⟩, hb2⟩; obtain ⟨pp, cp, rfl, hlp, hcp⟩ := hu.form; have HP2 := Lib.hid hu; have HB2 := Lib.hid (below_next HB1.out hb2); clear hb2 hu)
          | (go_at_call 8; (with_reducible refine (hR _ HB2.out).mono ?_); rintro e w99 ⟨rfl, hb99⟩; have HB99 := Lib.hid (below_next HB2.out hb99); clear hb99)
          | (go_at_call 8; (with_reducible refine (hR _ HB1.out).mono ?_); rintro e w99 ⟨rfl, hb99⟩; have HB99 := Lib.hid (below_next HB1.out hb99); clear hb99))
        all_goals
          go_ret
          exact ⟨rfl, HB99.out⟩
    · clear hv1 hv ha hT hsz
      go_enter Tryz.func4, Tryz.ntmps4
      go_wp2_with (first
        | (go_at_call 7; (with_reducible refine (cL).mono ?_); rintro e w1 ⟨⟨b, rfl, hbb⟩, hw⟩; obtain rfl := hw.symm; cases b; exact absurd (hbb rfl) h3)
        | (go_at_call 8; (with_reducible refine (hR _ HB1.out).mono ?_); rintro e w99 ⟨rfl, hb99⟩; have HB99 := Lib.hid (below_next HB1.out hb99); clear hb99))
      go_ret
      exact ⟨rfl, HB99.out⟩
  · have h1I : (30 : Int) < (at'.length : Int) := by omega
    clear hv1 hv ha hT hsz
    go_enter Tryz.func4, Tryz.ntmps4
    go_wp2_with (first
      | (go_at_call 7; (with_reducible refine (cL).mono ?_); rintro e w1 ⟨⟨b, rfl, hbb⟩, hw⟩; obtain rfl := hw.symm; cases b)
      | (go_at_call 8; (with_reducible refine (hR _ HB1.out).mono ?_); rintro e w99 ⟨rfl, hb99⟩; have HB99 := Lib.hid (below_next HB1.out hb99); clear hb99))
    all_goals
      go_ret
      exact ⟨rfl, HB99.out⟩
end Go.Proofs.YtnkpjkomokkhcaaGreatDoor
