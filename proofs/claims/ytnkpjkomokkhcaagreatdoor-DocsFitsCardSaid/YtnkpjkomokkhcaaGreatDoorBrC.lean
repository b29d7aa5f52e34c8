/- The units of a list, gathered in a row, by the program. The units that the program gathers are those of the data, in places 0, 1, .. No run of any program here. The gathered units in memory; the tests of a pattern made: one, same, symbol. A pattern compiled, by the program. -/
import Derived.Test.YtnkpjkomokkhcaaGreatDoorCuC
import Derived.Test.YtnkpjkomokkhcaaGreatDoorCuD
import Derived.Test.YtnkpjkomokkhcaaGreatDoorBrA
import Derived.Lib.TrimUEq
namespace Go.Proofs.YtnkpjkomokkhcaaGreatDoor
open Go Go.RowKit Go.Lib
set_option maxRecDepth 100000
attribute [local go_sem] Oper.semAt_some
/-- a range over such an iterator, in a function's own frame; each round lays a box for what it is handed first -/
theorem range_over2 {α : Type} {n : Nat} {P : Program} {g : Operand} {ps : Array Tmp} {assign body : Code} {Q : Exit → Act → World → Prop} {a : Act} {w : World}
    {gf : Nat} {lb : Array Value} (hg : a.eval g = .func (.func gf) #[] lb) (eg : ∀ args w, (callFunc gf args).run P w = .ok (.enter gf args) w)
    {encs : α → Array Value} {Kp : World → World → Prop} {S Sp : List α → Prop} {N : Nat} {w0 : World} (hseq : SeqOver (n - 1) P gf lb encs Kp S Sp N w0)
    (hKt : ∀ {A B C : World}, Kp A B → Kp B C → Kp A C) (hKb : ∀ (W : World) (l : Nat) (o o' : Obj), w.heap.size ≤ l → W.heap[l]? = some o → o.isCells = false → o.isWalk = false → Kp W (W.putObj l o')) (hb0 : Below w0.heap.size w0 w) (hps : ∀ x, (encs x).size = ps.size)
    (I : List α → World → Prop) (Ix : Code → List α → World → Prop) (hI : OwnFrom w.heap.size I) (hIx : ∀ c, OwnFrom w.heap.size (Ix c)) (h0 : I [] w) (a₁ : α → World → Act) (asg : α → World → World) (hasg : ∀ x W, Below W.heap.size W (asg x W)) (hasK : ∀ x W, w.heap.size ≤ W.heap.size → Kp W (asg x W))
    (hassign : ∀ (l : Nat) (x : α) (W : World) (K : Act → World → Prop), K (a₁ x W) (asg x W) →
      assign.wpIn (Fence.wide.inRound l) (n - 1 - 1) P (Exit.then K (fun _ _ _ => False)) { tmps := (ps.zip (encs x)).foldl (fun t (p, v) => t.setIfInBounds p v) a.tmps, defers := [] } W)
    (hbody : ∀ (l : Nat) (pre : List α) (x : α) (W0 W : World), I pre W0 → I pre W → pre.length < N → (∀ (k : Nat) (o : Obj), (asg x W0).heap[k]? = some o → o.isCells = true → W.heap[k]? = some o) → body.wpIn (Fence.wide.inRound l) (n - 1 - 1) P (ownPostG w.heap.size Kp I Ix (pre ++ [x]) W) (a₁ x W0) W)
    (hdone : ∀ (D : Nat) (xs : List α) (W : World), w.heap.size ≤ D → S xs → I xs W → W.heap[D]? = some (.deferred (some [])) → Q .normal { a with defers := { target := .collected D, args := #[] } :: a.defers } W)
    (hstop : ∀ (D : Nat) (c : Code) (pre : List α) (W : World), w.heap.size ≤ D → Sp pre → Ix c pre W → W.heap[D]? = some (.deferred (some [])) → c.wpIn Fence.wide n P Q { a with defers := { target := .collected D, args := #[] } :: a.defers } W) :
    (Code.rangeFunc g ps assign body).wpIn Fence.wide n P Q a w := by
  refine wpIn_rangeFunc fun fn _ => ?_
  obtain ⟨rc, hrc⟩ : ∃ rc : LoopState → Option Code → Loop, rc = fun st pe => { state := st, pending := pe, fn, tmps := a.tmps, params := ps, assign, body, defers := w.heap.size } := ⟨_, rfl⟩
  have hz : (w.alloc (.deferred (some []))).heap.size = w.heap.size + 1 := World.size_alloc ..
  obtain ⟨V, hV⟩ : ∃ V, V = (w.alloc (.deferred (some []))).alloc (.loop (rc .ready none)) := ⟨_, rfl⟩
  have hVs : V.heap.size = w.heap.size + 2 := by rw [hV, World.size_alloc, hz]
  have hVl : V.heap[w.heap.size + 1]? = some (.loop (rc .ready none)) := by rw [hV, ← hz]; exact World.alloc_heap_new ..
  have hVd : V.heap[w.heap.size]? = some (.deferred (some [])) := by rw [hV]; exact (Below.heap_alloc _ _ _ (by omega)).trans (World.alloc_heap_new w _)
  have hVb : Below w0.heap.size w0 V := by rw [hV]; exact hb0.trans ((((Below.refl _ w).alloc (Nat.le_refl _) _).alloc (by omega) _).mono hb0.size)
  have hVi : I [] V := by rw [hV]; exact hI.alloc _ (hI.alloc _ h0)
  refine ⟨w.heap.size + 1, [{ target := .collected w.heap.size, args := #[] }], V, { target := .fn (.func gf) lb, args := #[.func (.yield (w.heap.size + 1)) #[] #[]] }, V, gf,
    #[.func (.yield (w.heap.size + 1)) #[] #[]] ++ lb, V, ?_, ?_, ?_, ?_, (fun h => by cases h), ?_⟩
  · rw [hV, hrc]; exact run_enterLoop_outer _ _ _ _ _
  · simp only [resolve, hg]
    simp [go_sem]
  · exact fun _ _ => trivial
  · simp [invoke, go_sem, eg]
  · have low : ∀ {X : World} {row : Option Nat}, (∀ r, row = some r → V.heap.size ≤ r ∧ ∃ q : Obj, X.heap[r]? = some q ∧ q.isCells = false) → ∀ r, row = some r → w.heap.size ≤ r ∧ ∃ q : Obj, X.heap[r]? = some q ∧ q.isCells = false :=
      fun h r e => ⟨by have := (h r e).1; omega, (h r e).2⟩
    refine (hseq (w.heap.size + 1)
      (fun pre W => I pre W ∧ W.heap[w.heap.size + 1]? = some (.loop (rc .ready none)) ∧ W.heap[w.heap.size]? = some (.deferred (some [])))
      (fun pre W => ∃ c, Ix c pre W ∧ W.heap[w.heap.size + 1]? = some (.loop (rc .done (some c))) ∧ W.heap[w.heap.size]? = some (.deferred (some [])))
      V hVb (fun s X Y row hs hgr hr => ⟨hI s X Y row hs.1 hgr (low hr), turn_ge hs.2.1 (by omega) hgr hr, turn_ge hs.2.2 (by omega) hgr hr⟩)
      (fun s X Y row ⟨c, h1, h2, h3⟩ hgr hr => ⟨c, hIx c s X Y row h1 hgr (low hr), turn_ge h2 (by omega) hgr hr, turn_ge h3 (by omega) hgr hr⟩)
      ?_ ⟨hVi, hVl, hVd⟩).mono ?_
    · rintro pre x W0 ⟨hi, hl, hd⟩ hlen
      have hy := run_yield (P := P) (args := encs x) hl (by rw [hrc]; exact hps x)
      rw [hrc] at hy
      refine ⟨fn, _, assign, body, hy, roundIn_of_wpIn trivial (hassign _ x W0 _ ?_)⟩
      have hi0 := hi
      have hb1 := hasg x W0
      have hk1 := hasK x W0 (by have := lt_of_block hl; omega)
      have hi := own_step hI hi hb1
      have hl := (hb1.block _ (lt_of_block hl)).trans hl
      have hd := (hb1.block _ (lt_of_block hd)).trans hd
      have hf1 : KeepsFrom V.heap.size W0 (asg x W0) := KeepsFrom.of_below hb1
      obtain ⟨W, hWe⟩ : ∃ W, asg x W0 = W := ⟨_, rfl⟩
      rw [hWe] at hi hl hd hk1 hf1 ⊢
      have hlt := lt_of_block hl
      refine ⟨_, run_beginRound hl (by rw [hrc]), ?_⟩
      have hl2 : (W.putObj (w.heap.size + 1) (.loop { rc .ready none with state := .busy })).heap[w.heap.size + 1]? = some (.loop { rc .ready none with state := .busy }) := World.putObj_heap_same hlt
      have hd2 : (W.putObj (w.heap.size + 1) (.loop { rc .ready none with state := .busy })).heap[w.heap.size]? = some (.deferred (some [])) := (World.putObj_heap_other (by omega)).trans hd
      have hk2 : Kp W0 (W.putObj (w.heap.size + 1) (.loop { rc .ready none with state := .busy })) := hKt hk1 (hKb _ _ _ _ (by omega) hl rfl rfl)
      have hf2 : KeepsFrom V.heap.size W0 (W.putObj (w.heap.size + 1) (.loop { rc .ready none with state := .busy })) := hf1.trans (KeepsFrom.putObj (by omega))
      refine wpIn_mono (hbody _ pre x W0 _ hi0 (hI.putObj _ hi (by omega) hl rfl) hlen (fun k o hk ho => (World.putObj_heap_other (fun e => by rw [e, hWe, hl] at hk; cases hk; cases ho)).trans (hWe ▸ hk))) ?_
      have fin : ∀ (jump : Option Code) (W3 : World), KeepsFrom w.heap.size (W.putObj (w.heap.size + 1) (.loop { rc .ready none with state := .busy })) W3 →
          ∃ W4, (Instr.endRound (w.heap.size + 1) jump).run P W3 = .ok (.bool jump.isNone) W4 ∧ W4 = W3.putObj (w.heap.size + 1) (.loop (rc (if jump.isNone then .ready else .done) jump)) ∧ (∃ o, W3.heap[w.heap.size + 1]? = some o ∧ o.isCells = false ∧ o.isWalk = false) ∧
          W4.heap[w.heap.size + 1]? = some (.loop (rc (if jump.isNone then .ready else .done) jump)) ∧ W4.heap[w.heap.size]? = some (.deferred (some [])) ∧ KeepsFrom V.heap.size W0 W4 := fun jump W3 hk3 => by
        have hl3 := hk3.same _ _ (by omega) hl2 rfl
        have hr3 := run_endRound (P := P) jump hl3
        rw [hrc] at hr3
        refine ⟨_, by rw [hrc]; exact hr3, rfl, ⟨_, hl3, rfl, rfl⟩, World.putObj_heap_same (lt_of_block hl3), (World.putObj_heap_other (by omega)).trans (hk3.same _ _ (Nat.le_refl _) hd2 rfl), (hf2.trans ?_).trans (KeepsFrom.putObj (by omega))⟩
        exact ⟨hk3.size, fun k o hk ho hc => hk3.same k o (by omega) ho hc⟩
      rintro e a3 W3 hp
      cases e with
      | normal =>
        obtain ⟨hk3, hkp3, hi3⟩ := hp
        obtain ⟨W4, hr, rfl, ⟨o, ho, hc, hw⟩, hl4, hd4, hf4⟩ := fin none W3 hk3
        exact ⟨_, _, hr, .inl ⟨rfl, ⟨hI.putObj _ hi3 (by omega) ho hc, hl4, hd4⟩, hKt (hKt hk2 hkp3) (hKb _ _ _ _ (by omega) ho hc hw), hf4⟩⟩
      | ret =>
        obtain ⟨hk3, hi3⟩ := hp
        obtain ⟨W4, hr, rfl, ⟨o, ho, hc, hw⟩, hl4, hd4, hf4⟩ := fin (some .ret) W3 hk3
        exact ⟨_, _, hr, .inr ⟨rfl, ⟨.ret, (hIx _).putObj _ hi3 (by omega) ho hc, hl4, hd4⟩, hf4⟩⟩
      | exit id =>
        obtain ⟨hk3, hi3⟩ := hp
        obtain ⟨W4, hr, rfl, ⟨o, ho, hc, hw⟩, hl4, hd4, hf4⟩ := fin (some (.exit id)) W3 hk3
        exact ⟨_, _, hr, .inr ⟨rfl, ⟨.exit id, (hIx _).putObj _ hi3 (by omega) ho hc, hl4, hd4⟩, hf4⟩⟩
      | goto t =>
        obtain ⟨hk3, hi3⟩ := hp
        obtain ⟨W4, hr, rfl, ⟨o, ho, hc, hw⟩, hl4, hd4, hf4⟩ := fin (some (.goto t)) W3 hk3
        exact ⟨_, _, hr, .inr ⟨rfl, ⟨.goto t, (hIx _).putObj _ hi3 (by omega) ho hc, hl4, hd4⟩, hf4⟩⟩
      | panic ch => exact hp.elim
      | outgrown => exact hp.elim
    · rintro e W2 ⟨⟨v, rfl⟩, (⟨xs, hS, hi, hl, hd⟩ | ⟨pre, hSp, c, hi, hl, hd⟩)⟩
      · exact ⟨none, _, by have := run_endLoop (P := P) hl (by rw [hrc]; simp); rw [hrc] at this; exact this, hdone _ xs _ (Nat.le_refl _) hS (hI.putObj _ hi (by omega) hl rfl) ((World.putObj_heap_other (by omega)).trans hd)⟩
      · exact ⟨some c, _, by have := run_endLoop (P := P) hl (by rw [hrc]; simp); rw [hrc] at this; exact this, hstop _ c pre _ (Nat.le_refl _) hSp ((hIx c).putObj _ hi (by omega) hl rfl) ((World.putObj_heap_other (by omega)).trans hd)⟩
theorem info_unitG : (Tryz.prog.info? 152).map (fun i => (i.zero, i.size, i.bytes)) = some (some (.agg #[.int .u8 0, .int .i32 0]), 2, 8) := by kernel_rfl
/-- units in a row -/
def cellsU (us : List (Int × Nat)) : List Value := us.flatMap fun u => [.int .u8 u.1, .int .i32 (u.2 : Int)]
theorem cellsU_app (us vs : List (Int × Nat)) : cellsU (us ++ vs) = cellsU us ++ cellsU vs := by unfold cellsU; exact List.flatMap_append
def GathAt (B b : Nat) (us : List (Int × Nat)) (W : World) : Prop := ∃ v, W.heap[b]? = some (.cells #[v] 106 (0, 0)) ∧ W.ownsRow B 152 2 v us.length (cellsU us)
theorem GathAt.step {B b : Nat} {us : List (Int × Nat)} {W W' : World} (h : GathAt B b us W) (hb : Below W.heap.size W W') : GathAt B b us W' := by
  obtain ⟨v, h1, h2⟩ := h
  have hk := Keeps.below (C := fun _ => True) hb
  exact ⟨v, hk.same _ _ h1 trivial, hk.row h2 fun _ => trivial⟩
theorem GathAt.turned {B b base : Nat} {us : List (Int × Nat)} {X Y : World} {row : Option Nat} (h : GathAt B b us X) (hg : X.grownBy Y row) (hr : ∀ r, row = some r → base ≤ r ∧ ∃ o : Obj, X.heap[r]? = some o ∧ o.isCells = false) : GathAt B b us Y := by
  obtain ⟨v, h1, h2⟩ := h
  have hk : Keeps (fun o => o.isCells = true) X Y := ⟨hg.size, fun k o hk ho => (hg.block k (lt_of_block hk) (fun e => by obtain ⟨_, q, hq, hqc⟩ := hr k e.symm; rw [hk] at hq; cases hq; rw [ho] at hqc; cases hqc)).trans hk⟩
  exact ⟨v, hk.same _ _ h1 rfl, hk.row h2 fun _ => rfl⟩
theorem GathAt.put {B b : Nat} {us : List (Int × Nat)} {W W2 : World} {v0 v' : Value} {u : Int × Nat} {o : Obj} (hbx : W.heap[b]? = some (.cells #[v0] 106 (0, 0))) (hown : W.ownsRow B 152 2 v0 us.length (cellsU us)) (hB : B ≤ b) (hg : (W.alloc o).grownBy W2 v0.ownBlock) (hr : W2.ownsRow B 152 2 v' (us.length + 1) (cellsU us ++ [.int .u8 u.1, .int .i32 (u.2 : Int)])) :
    GathAt B b (us ++ [u]) (W2.setCell ⟨b, 0, none⟩ v') ∧ Acc B W (W2.setCell ⟨b, 0, none⟩ v') := by
  have hBW : B ≤ W.heap.size := by have := lt_of_block hbx; omega
  have hl := lt_of_block hbx
  have hbx1 : (W.alloc o).heap[b]? = some (.cells #[v0] 106 (0, 0)) := (Below.heap_alloc _ _ _ hl).trans hbx
  have hown1 : (W.alloc o).ownsRow B 152 2 v0 us.length (cellsU us) := hown.alloc _
  have h2 : W2.heap[b]? = some (.cells #[v0] 106 (0, 0)) := (hg.block b (lt_of_block hbx1) (fun e => own_other hown1 hbx1 (by decide) e.symm)).trans hbx1
  have hk : Keeps calmI (W.alloc o) W2 := Keeps.grown hown1 hg (fun _ => not_calmI_of (by decide) (by decide))
  have hn : ∀ (k : Nat) (q : Obj), (W.alloc o).heap[k]? = some q → q.isCells = false → W2.heap[k]? = some q := fun k q hk hq => (hg.block k (lt_of_block hk) (fun e => by
    rcases hown1.2 with ⟨rfl, _⟩ | ⟨g, cap, cur, rfl, _, hgg, _⟩
    · simp [Value.ownBlock] at e
    · simp only [Value.ownBlock, Option.some.injEq] at e
      subst e
      rw [hgg] at hk; cases hk; cases hq)).trans hk
  have hb2 : Below B (W.alloc o) W2 := (Below.refl _ _).grown hg (by simp; omega) (fun k e => (hown1.lt k e).1)
  have hz : Keeps (fun q => match q with | .cells _ t _ => t ≠ 106 | _ => True) W2 (W2.setCell ⟨b, 0, none⟩ v') :=
    (Keeps.refl _ _).setCell h2 (fun h => h rfl) 0 _
  refine ⟨⟨v', by rw [heap_set h2]; rfl, ?_⟩, (Acc.step hBW (below_box o)).trans (Acc.trans ⟨hb2, hn, hk⟩ (Acc.set h2 hB (not_calmI_of (by decide) (by decide)) 0 _))⟩
  rw [List.length_append, List.length_singleton, cellsU_app]
  exact hz.row hr fun _ => (show 152 ≠ 106 by decide)
theorem own_form {W : World} {B sz n : Nat} {e : TypeId} {v : Value} {xs : List Value} (h : W.ownsRow B e sz v (n + 1) xs) : ∃ q c, v = .slice q (n + 1) c := by
  rcases h.2 with ⟨_, h0⟩ | ⟨g, cp, cur, hv9, _⟩
  · omega
  · exact ⟨_, _, hv9⟩
def asgU (x : Nat × (Int × Nat)) (W : World) : World := W.alloc (.cells #[.int .u8 x.2.1, .int .i32 (x.2.2 : Int)] 152)
set_option maxHeartbeats 16000000 in
theorem gather_any (f : Nat → Int) (l : List Pc) (v : Value) (w : World) (hv : PcsAt w v l) (hE : checkE l = 0) (hb : bulk l ≤ 10000) (hT : Tabs w) (hf : ClsAt f w) :
    Calls Tryz.prog 56 #[v] w fun e w' => (∃ r, e = .returned r ∧ w'.ownsRow w.heap.size 152 2 r (unitsP f (placed 0 (singleL l))).length (cellsU ((unitsP f (placed 0 (singleL l))).map Prod.snd))) ∧ Below w.heap.size w w' := by
  have hG := hT.2.2
  have hu8 := hT.2.1
  have hV := hv
  obtain ⟨p, cap, rfl, hl, hc, hrow⟩ := hv
  unfold maxLen at hc
  clear hrow
  have hval := all_valid hE
  have cU := fun w => unitsIt_any p l.length cap w
  have hNs : (singleL l).length ≤ 10000 := Nat.le_trans (flat_len l) hb
  have au := Tryz.isAgg152
  have zu := Tryz.sizeOf152
  obtain ⟨i0, hi0, hz0, hz1, hz2⟩ : ∃ i, Tryz.prog.info? 152 = some i ∧ i.zero = some (.agg #[.int .u8 0, .int .i32 0]) ∧ i.size = 2 ∧ i.bytes = 8 := by
    have h := info_unitG
    cases hq : Tryz.prog.info? 152 with
    | none => rw [hq] at h; cases h
    | some i => rw [hq] at h; simp only [Option.map_some, Option.some.injEq, Prod.mk.injEq] at h; exact ⟨i, rfl, h.1, h.2.1, h.2.2⟩
  refine (callsIn_wide (n := 9)).1 ?_
  refine callsIn_of_wp_marks Tryz.func56 rfl trivial ?_ rfl
  simp only [Tryz.ntmps56, List.size_toArray, List.length_cons, List.length_nil, Nat.reduceAdd, Nat.reduceSub, Array.replicate_succ, Array.replicate_zero, List.push_toArray, List.append_toArray, List.nil_append, List.cons_append]
  gi_wp2_with (refine ⟨trivial, ?_⟩; gi_at_call 52; (with_reducible refine (callsIn_wide.2 (cU _)).mono ?_); rintro e w3 ⟨rfl, rfl⟩)
  have HN0 := Lib.hid (show GathAt w.heap.size w.heap.size [] ((w.alloc (.cells #[.slice none 0 0] 106)).alloc (.cells #[.slice p l.length cap] 22)) from ⟨.slice none 0 0, by rw [Below.heap_alloc _ _ _ (by simp)]; exact heap_alloc_new w _, World.ownsRow_nil _ _ _ _⟩)
  have HX0 := Lib.hid (show ((w.alloc (.cells #[.slice none 0 0] 106)).alloc (.cells #[.slice p l.length cap] 22)).heap[w.heap.size + 1]? = some (.cells #[.slice p l.length cap] 22 (0, 0)) by
    have := heap_alloc_new (w.alloc (.cells #[.slice none 0 0] 106)) (.cells #[.slice p l.length cap] 22)
    rwa [show (w.alloc (.cells #[.slice none 0 0] 106)).heap.size = w.heap.size + 1 by simp] at this)
  have HB2 := Lib.hid (below_next (below_box (w := w) (.cells #[.slice none 0 0] 106)) (below_box (w := w.alloc (.cells #[.slice none 0 0] 106)) (.cells #[.slice p l.length cap] 22)))
  have hs2 : ((w.alloc (.cells #[.slice none 0 0] 106)).alloc (.cells #[.slice p l.length cap] 22)).heap.size = w.heap.size + 2 := by simp
  generalize (w.alloc (.cells #[.slice none 0 0] 106)).alloc (.cells #[.slice p l.length cap] 22) = Wr at *
  have cT := units_over f (9 - 1) (by omega) w.heap.size (w.heap.size + 1) l p cap Wr (fun i hi h => text_pc (hval i hi) h) (fun i hi => by have := bulk_getD hi; omega) (fun i hi h => small_pc (hval i hi) h) (by omega) HX0.out (by omega) hG (Utf8Tabs_below hu8 HB2.out) (hf.below HB2.out (by omega)) (hV.below HB2.out)
  have hpl : (placed 0 (singleL l)).length ≤ 10000 := by rw [placed_len]; exact hNs
  refine range_over2 (gf := 85) (lb := #[.pointer (some ⟨w.heap.size + 1, 0, none⟩)]) rfl (enters_of Tryz.func85 (by kernel_rfl) rfl)
    cT KpS.t (KpS.b (by omega)) (Below.refl _ _) (fun _ => rfl)
    (fun (pre : List (Nat × (Int × Nat))) W' => GathAt w.heap.size w.heap.size (pre.map Prod.snd) W' ∧ Below w.heap.size w W')
    (fun _ _ _ => False)
    (fun pre X Y row ⟨h1, h2⟩ hg hr => ⟨h1.turned hg hr, h2.grown hg h2.size (fun k e => by have := (hr k e).1; omega)⟩)
    (fun c pre X Y row h => h.elim)
    ⟨HN0.out, HB2.out⟩
    (fun y W => { tmps := #[.slice p l.length cap, undef, .slice none 0 0, .pointer (some ⟨w.heap.size, 0, none⟩), undef, .pointer (some ⟨W.heap.size, 0, none⟩), .slice p l.length cap, .func (.func 85) #[] #[.pointer (some ⟨w.heap.size + 1, 0, none⟩)], .int .i64 (y.1 : Int), unV y.2, undef, undef, undef, undef, undef], defers := [] })
    asgU (fun x W => below_box _) (fun x W h => (Acc.step (Nat.le_trans HB2.out.size h) (below_box _)).kp) ?assign ?body ?done ?stop
  case assign =>
    intro l1 y W K hK
    unfold encU unV
    gi_wp2
    exact hK
  case body =>
    rintro lp pre y W0 W' ⟨g1, g2⟩ ⟨h1, h2⟩ hlt hbx
    obtain ⟨v0, hb0, hown⟩ := h1
    have hx0 := hbx W0.heap.size _ (heap_alloc_new W0 _) rfl
    have hA := g2.size
    have c0 : W'.cell? ⟨w.heap.size, 0, none⟩ = some v0 := (Lib.cell_of_heap hb0 0).trans rfl
    have f0 := Lib.frozen_of_heap hb0 0
    have x0 : W'.cell? ⟨W0.heap.size, 0, none⟩ = some (.int .u8 y.2.1) := (Lib.cell_of_heap hx0 0).trans rfl
    have x1 : W'.cell? ⟨W0.heap.size, 1, none⟩ = some (.int .i32 (y.2.2 : Int)) := (Lib.cell_of_heap hx0 1).trans rfl
    have fin := Lib.hid (fun (v' : Value) (W2 : World) (hr : W2.ownsRow w.heap.size 152 2 v' ((pre.map Prod.snd).length + 1) (cellsU (pre.map Prod.snd) ++ [.int .u8 y.2.1, .int .i32 (y.2.2 : Int)])) (hg : (W'.alloc (.cells #[.int .u8 y.2.1, .int .i32 (y.2.2 : Int)] 152)).grownBy W2 v0.ownBlock) =>
      show KeepsFrom Wr.heap.size W' (W2.setCell ⟨w.heap.size, 0, none⟩ v') ∧ KpS w.heap.size W' (W2.setCell ⟨w.heap.size, 0, none⟩ v') ∧ GathAt w.heap.size w.heap.size ((pre ++ [y]).map Prod.snd) (W2.setCell ⟨w.heap.size, 0, none⟩ v') ∧ Below w.heap.size w (W2.setCell ⟨w.heap.size, 0, none⟩ v') from by
        obtain ⟨q1, q2⟩ := GathAt.put (u := y.2) hb0 hown (Nat.le_refl _) hg hr
        exact ⟨q2.from, q2.kp, by rw [List.map_append]; exact q1, h2.trans q2.bel⟩)
    have hlen : (pre.map Prod.snd).length ≤ 10000 := by rw [List.length_map]; omega
    have hsz : w.heap.size ≤ W'.heap.size := h2.size
    obtain ⟨us, hus⟩ : ∃ us, pre.map Prod.snd = us := ⟨_, rfl⟩
    rw [hus] at hown hlen
    have FIN := Lib.hid (hus ▸ fin.out)
    have HOWN := Lib.hid hown
    have HB0 := Lib.hid hb0
    have hlt0 := lt_of_block hb0
    clear hb0 h2 hbx hx0 fin hus hown
    gi_wp2_with (gi_at_builtin; refine wpListIn_append_own _ rfl _ _ 106 rfl w.heap.size 152 i0 _ 2 8 Tryz.underlying106 hi0 hz0 hz1 hz2 rfl (by decide) _ _ _ rfl (HOWN.out.alloc _) ⟨W'.heap.size, 0, none⟩ 1 1 [.int .u8 y.2.1, .int .i32 (y.2.2 : Int)] rfl rfl (cell_new2 _ _ _ _) (fun u hu => by simp at hu; rcases hu with rfl | rfl <;> rfl) (by unfold maxLen; omega) (by omega) (by simp; omega) ?_; intro v9 w9 hown9 hgrow9 hnil9; have HF := Lib.hid (FIN.out v9 w9 hown9 hgrow9); have hb9 : w9.heap[w.heap.size]? = some (.cells #[v0] 106 (0, 0)) := (hgrow9.block _ (by simp; omega) (fun e => own_other (HOWN.out) HB0.out (by decide) e.symm)).trans ((Below.heap_alloc _ _ _ (lt_of_block HB0.out)).trans HB0.out); have c9 : w9.cell? ⟨w.heap.size, 0, none⟩ = some v0 := (Lib.cell_of_heap hb9 0).trans rfl; have f9 := Lib.frozen_of_heap hb9 0; obtain ⟨o9, c9', rfl⟩ : ∃ o9 c9', v9 = .slice o9 (us.length + 1) c9' := own_form hown9; clear hown9 hgrow9 hnil9 hb9)
    exact HF.out
  case done =>
    rintro D ys Wd hD rfl ⟨⟨v0, hb0, hown⟩, h2⟩ hK
    have HK := Lib.hid hK
    have H2 := Lib.hid h2
    have HO := Lib.hid hown
    have hc0 : Wd.cell? ⟨w.heap.size, 0, none⟩ = some v0 := (Lib.cell_of_heap hb0 0).trans rfl
    clear hK h2 hb0 hown
    rw [List.length_map] at HO
    gi_wp2
    exact leavesMarks (fun W' => Below w.heap.size w W' ∧ W'.ownsRow w.heap.size 152 2 v0 (unitsP f (placed 0 (singleL l))).length (cellsU ((unitsP f (placed 0 (singleL l))).map Prod.snd))) Wr.heap.size (fun W1 D1 h hD1 hk1 => ⟨h.1.trans (belowK_b (w := w) (Nat.le_refl _) W1 D1 _ _ (by omega) hk1 rfl rfl), (Keeps.putObj (C := fun o => o.isCells = true) hk1 (by simp [Obj.isCells])).row h.2 (fun _ => rfl)⟩) (fun W1 h => ⟨_, results_tmp rfl _ _ _, ⟨_, rfl, h.2⟩, h.1⟩) [D] _ ⟨H2.out, HO.out⟩ ((MarksAt.nil _ _).cons hD (by simp) HK.out)
  case stop =>
    rintro D c pre Wd hD hpre h
    exact h.elim
end Go.Proofs.YtnkpjkomokkhcaaGreatDoor
namespace Go.Proofs.YtnkpjkomokkhcaaGreatDoor
open Go Go.RowKit Go.Lib
set_option maxRecDepth 100000
theorem decN_take {n n' b0 b1 b2 b3 b1' b2' b3' : Nat} (hn : (decodeN n b0 b1 b2 b3).2 ≤ n') (h1 : 1 < n' → b1' = b1) (h2 : 2 < n' → b2' = b2) (h3 : 3 < n' → b3' = b3) (hv : ¬ ((decodeN n b0 b1 b2 b3).1 = 65533 ∧ (decodeN n b0 b1 b2 b3).2 = 1)) :
    decodeN n' b0 b1' b2' b3' = decodeN n b0 b1 b2 b3 := by
  unfold decodeN at hv hn ⊢
  by_cases c0 : b0 < 128
  · rw [if_pos c0, if_pos c0]
  rw [if_neg c0] at hv hn ⊢
  rw [if_neg c0]
  by_cases c1 : b0 / 32 = 6 ∧ (1 < n ∧ b1 / 64 = 2)
  · rw [if_pos c1] at hv hn ⊢
    split at hn
    · rename_i v1
      have e1 := h1 (by omega)
      have hn2 : 2 ≤ n' := hn
      rw [if_pos ⟨c1.1, by omega, by rw [e1]; exact c1.2.2⟩, e1]
    · rename_i v1
      rw [if_neg v1] at hv
      exact absurd ⟨rfl, rfl⟩ hv
  rw [if_neg c1] at hv hn ⊢
  by_cases c2 : b0 / 16 = 14 ∧ (1 < n ∧ b1 / 64 = 2) ∧ (2 < n ∧ b2 / 64 = 2)
  · rw [if_pos c2] at hv hn ⊢
    split at hn
    · rename_i v1
      have hn3 : 3 ≤ n' := hn
      have e1 := h1 (by omega)
      have e2 := h2 (by omega)
      rw [if_neg (by omega), if_pos ⟨c2.1, ⟨by omega, by rw [e1]; exact c2.2.1.2⟩, by omega, by rw [e2]; exact c2.2.2.2⟩, e1, e2]
    · rename_i v1
      rw [if_neg v1] at hv
      exact absurd ⟨rfl, rfl⟩ hv
  rw [if_neg c2] at hv hn ⊢
  by_cases c3 : b0 / 8 = 30 ∧ (1 < n ∧ b1 / 64 = 2) ∧ (2 < n ∧ b2 / 64 = 2) ∧ (3 < n ∧ b3 / 64 = 2)
  · rw [if_pos c3] at hv hn ⊢
    split at hn
    · rename_i v1
      have hn4 : 4 ≤ n' := hn
      have e1 := h1 (by omega)
      have e2 := h2 (by omega)
      have e3 := h3 (by omega)
      rw [if_neg (by omega), if_neg (by omega), if_pos ⟨c3.1, ⟨by omega, by rw [e1]; exact c3.2.1.2⟩, ⟨by omega, by rw [e2]; exact c3.2.2.1.2⟩, by omega, by rw [e3]; exact c3.2.2.2.2⟩, e1, e2, e3]
    · rename_i v1
      rw [if_neg v1] at hv
      exact absurd ⟨rfl, rfl⟩ hv
  rw [if_neg c3] at hv
  exact absurd ⟨rfl, rfl⟩ hv
theorem getD_take {a : List UInt8} {i d : Nat} (h : i < d) : (a.take d).getD i 0 = a.getD i 0 := by
  rw [List.getD_eq_getElem?_getD, List.getD_eq_getElem?_getD, List.getElem?_take_of_lt h]
theorem dec_take {a : List UInt8} (hne : a ≠ []) (hv : ¬ ((decodeL a).1 = 65533 ∧ (decodeL a).2 = 1)) : decodeL (a.take (decodeL a).2) = decodeL a := by
  have hw := decodeL_width a
  have hle := decodeL_le a hne
  generalize hd : (decodeL a).2 = d at hw hle
  have hlen : (a.take d).length = d := by rw [List.length_take]; omega
  have h0 : (a.take d).getD 0 0 = a.getD 0 0 := getD_take (by omega)
  have hv' := hv
  have hd' := hd
  rw [decodeL_N] at hv' hd'
  rw [decodeL_N, decodeL_N, h0, hlen]
  exact decN_take (Nat.le_of_eq hd') (fun h => by rw [getD_take h]) (fun h => by rw [getD_take h]) (fun h => by rw [getD_take h]) hv'
theorem size_pos_ne {s : ByteArray} (hp : 0 < s.size) : s.data.toList ≠ [] := by
  intro h
  have h2 := bytes_len s
  rw [h, List.length_nil] at h2
  omega
theorem dec_enc {s : ByteArray} (hp : 0 < s.size) (ht : textB s = true) : (Lib.decodeGo (Utf8.encode ((Utf8.decode s 0).1 : Int))).1 = (Utf8.decode s 0).1 := by
  have hne := size_pos_ne hp
  have hd : decodeL s.data.toList = Utf8.decode s 0 := by have := decodeL_drop s 0; rwa [List.drop_zero] at this
  rw [textB_L, textL_step _ hne] at ht
  simp only [Bool.and_eq_true, Bool.not_eq_true', decide_eq_false_iff_not] at ht
  obtain ⟨⟨h1, _⟩, _⟩ := ht
  have hr := roundtrip _ hne h1
  have hk := dec_take hne h1
  rw [hd] at hr hk
  obtain ⟨t, hT⟩ : ∃ t, Utf8.encode ((Utf8.decode s 0).1 : Int) = t := ⟨_, rfl⟩
  rw [hT] at hr ⊢
  have hw := width_pos s 0
  have hle := decodeL_le _ hne
  rw [hd] at hle
  have htp : t.size ≠ 0 := by
    rw [← bytes_len, hr, List.length_take]
    omega
  have ht0 : decodeL t.data.toList = Utf8.decode t 0 := by have := decodeL_drop t 0; rwa [List.drop_zero] at this
  unfold Lib.decodeGo
  rw [if_neg htp, ← ht0, hr, hk]
theorem dec_all : ∀ (n : Nat) (s : ByteArray), s.size ≤ n → textB s = true → ∀ r ∈ runesOf s, (Lib.decodeGo (Utf8.encode (r : Int))).1 = r ∧ ctl r = false
  | 0, s, hn, ht, r, hr => by rw [runes_end (by omega)] at hr; cases hr
  | n + 1, s, hn, ht, r, hr => by
    by_cases hp : 0 < s.size
    · rw [runes_step hp] at hr
      rcases List.mem_cons.1 hr with rfl | h
      · exact ⟨dec_enc hp ht, (enc_ext0 hp (by rw [← textB_L]; exact ht)).2.2.1⟩
      · have hw := width_pos s 0
        exact dec_all n _ (by rw [ByteArray.size_extract]; omega) (text_rest hp ht) r h
    · rw [runes_end hp] at hr; cases hr
def gUn (f : Nat → Int) (x : Pc) : List (Int × Nat) := if isTagB (clip x) = true then [] else [uOf f (clip x)]
theorem units_snd (f : Nat → Int) : ∀ (S : List Pc) (p : Nat), (unitsP f (placed p S)).map Prod.snd = S.flatMap (gUn f)
  | [], p => rfl
  | x :: S, p => by
    have h := units_snd f S (cutUn p x)
    unfold unitsP at h ⊢
    simp only [placed, List.flatMap_cons, List.map_append, h]
    congr 1
    unfold unitP gUn
    split <;> rfl
theorem units_fst (f : Nat → Int) : ∀ (S : List Pc) (p : Nat), (∀ x ∈ S, x.s.size ≤ 16 ∧ (x.k = 1 ∨ x.k = 2 ∨ x.k = 3 ∨ x.k = 4 ∨ x.k = 5)) → (unitsP f (placed p S)).map Prod.fst = List.range' p (unitsP f (placed p S)).length
  | [], p, _ => rfl
  | x :: S, p, hS => by
    have h := units_fst f S (cutUn p x) (fun y hy => hS y (List.mem_cons_of_mem _ hy))
    obtain ⟨h16, hk⟩ := hS x (List.mem_cons_self ..)
    unfold unitsP at h ⊢
    simp only [placed, List.flatMap_cons, List.map_append, List.length_append]
    generalize (placed (cutUn p x) S).flatMap (unitP f) = Q at *
    rw [h]
    generalize Q.length = q at *
    unfold unitP
    dsimp only
    rw [clip_of h16]
    unfold cutUn isTagB
    clear h hS
    rcases hk with e | e | e | e | e <;> simp [e, List.range'_succ, Nat.add_comm]
theorem small_run (r : Nat) : (runP r).s.size ≤ 16 := by
  have h4 := enc_small (r : Int)
  unfold runP
  dsimp only
  omega
theorem single_ok {l : List Pc} (h : ∀ x ∈ l, pieceE x = 0) : ∀ x ∈ singleL l, x.s.size ≤ 16 ∧ (x.k = 1 ∨ x.k = 2 ∨ x.k = 3 ∨ x.k = 4 ∨ x.k = 5) := by
  intro y hy
  unfold singleL at hy
  obtain ⟨x, hx, hy⟩ := List.mem_flatMap.1 hy
  unfold unP at hy
  split at hy
  · obtain ⟨r, _, rfl⟩ := List.mem_map.1 hy
    exact ⟨small_run r, .inl rfl⟩
  · rename_i hk
    rw [List.mem_singleton.1 hy]
    exact ⟨small_pc (h x hx) hk, kind_pc (h x hx)⟩
theorem clsF_R {f : Nat → Int} (hf : ∀ r, r < 128 → f r = clsR r) (r : Nat) : clsF f r = clsR r := by
  unfold clsF
  split
  · rename_i h
    unfold clsR letR
    simp [h]
  · exact hf r (by omega)
def unP2 (u : Un) : Int × Nat := (clsU u, u.r)
theorem gUn_pc {f : Nat → Int} (hf : ∀ r, r < 128 → f r = clsR r) {x : Pc} (h : pieceE x = 0) : (unP x).flatMap (gUn f) = (unsP x).map unP2 := by
  unfold unP unsP
  by_cases h1 : x.k = 1
  · rw [if_pos h1, if_neg (by omega), if_pos h1, List.map_map, List.flatMap_map]
    have key : ∀ rs : List Nat, (∀ r ∈ rs, r ∈ runesOf x.s) → (rs.flatMap fun r => gUn f (runP r)) = rs.map (unP2 ∘ fun r => (⟨r, false⟩ : Un)) := by
      intro rs
      induction rs with
      | nil => intro _; rfl
      | cons r rs ih =>
        intro hm
        rw [List.flatMap_cons, List.map_cons, ih (fun q hq => hm q (List.mem_cons_of_mem _ hq))]
        have hr := (dec_all _ x.s (Nat.le_refl _) (text_pc h h1) r (hm r (List.mem_cons_self ..))).1
        unfold gUn
        rw [clip_of (small_run r)]
        have ht : isTagB (runP r) = false := by unfold isTagB runP; simp
        rw [ht]
        unfold uOf runP
        simp only [if_true]
        rw [hr, clsF_R hf]
        rfl
    exact key _ (fun _ h => h)
  · rw [if_neg h1]
    have hs := small_pc h h1
    simp only [List.flatMap_cons, List.flatMap_nil, List.append_nil]
    unfold gUn
    rw [clip_of hs]
    unfold isTagB uOf
    rcases kind_pc h with e | e | e | e | e
    · exact absurd e h1
    all_goals simp [e, unP2, clsU]
theorem gather_units {f : Nat → Int} (hf : ∀ r, r < 128 → f r = clsR r) {l : List Pc} (h : ∀ x ∈ l, pieceE x = 0) : (unitsP f (placed 0 (singleL l))).map Prod.snd = (unsL l).map unP2 := by
  rw [units_snd]
  unfold singleL unsL
  induction l with
  | nil => rfl
  | cons x l ih =>
    rw [List.flatMap_cons, List.flatMap_append, List.flatMap_cons, List.map_append, ih (fun y hy => h y (List.mem_cons_of_mem _ hy)), gUn_pc hf (h x (List.mem_cons_self ..))]
theorem uns_ok {l : List Pc} (h : ∀ x ∈ l, pieceE x = 0) : ∀ u ∈ unsL l, okU u := by
  intro u hu
  unfold unsL at hu
  obtain ⟨x, hx, hu⟩ := List.mem_flatMap.1 hu
  unfold unsP at hu
  split at hu
  · rw [List.mem_singleton.1 hu]
    exact ⟨fun _ => rfl, fun h => (by cases h)⟩
  · split at hu
    · rename_i hk
      obtain ⟨r, hr, rfl⟩ := List.mem_map.1 hu
      exact ⟨fun h => (by cases h), fun _ => (dec_all _ x.s (Nat.le_refl _) (text_pc (h x hx) hk) r hr).2⟩
    · cases hu
end Go.Proofs.YtnkpjkomokkhcaaGreatDoor
namespace Go.Proofs.YtnkpjkomokkhcaaGreatDoor
open Go Go.RowKit Go.Lib
set_option maxRecDepth 100000
theorem cellsU_get : ∀ (L : List Un) (i j : Nat), i < L.length → j < 2 → (cellsU (L.map unP2))[i * 2 + j]? = some (uF L i j)
  | [], i, j, hi, _ => by cases hi
  | u :: L, 0, j, _, hj => by
    have e : cellsU ((u :: L).map unP2) = [.int .u8 (clsU u), .int .i32 (u.r : Int)] ++ cellsU (L.map unP2) := rfl
    rw [e]
    obtain rfl | rfl : j = 0 ∨ j = 1 := by omega
    · rfl
    · rfl
  | u :: L, i + 1, j, hi, hj => by
    have e : cellsU ((u :: L).map unP2) = [.int .u8 (clsU u), .int .i32 (u.r : Int)] ++ cellsU (L.map unP2) := rfl
    rw [e, List.getElem?_append_right (by show 2 ≤ _; omega)]
    have h := cellsU_get L i j (by rw [List.length_cons] at hi; omega) hj
    show (cellsU (L.map unP2))[(i + 1) * 2 + j - 2]? = _
    rw [show (i + 1) * 2 + j - 2 = i * 2 + j by omega, h]
    rfl
theorem unsAt_own {B : Nat} {v : Value} {L : List Un} {w : World} (h : w.ownsRow B 152 2 v L.length (cellsU (L.map unP2))) : UnsAt w v L := by
  have hc := h
  rcases h.2 with ⟨rfl, h0⟩ | ⟨g, cap, cur, rfl, hg, hh, hn, hm, _⟩
  · exact ⟨none, 0, by rw [h0], by omega, by unfold maxLen; omega, fun h => by omega⟩
  · refine ⟨some ⟨g, 0, none⟩, cap, rfl, hn, hm, fun _ => ⟨_, rfl, lt_of_block hh, fun i j hi hj => ?_⟩⟩
    exact World.ownsRow.cells hc (g := g) rfl _ _ (cellsU_get L i j hi hj)
theorem gatherU_any (f : Nat → Int) (hf : ∀ r, r < 128 → f r = clsR r) (l : List Pc) (v : Value) (w : World) (hv : PcsAt w v l) (hE : checkE l = 0) (hb : bulk l ≤ 10000) (hT : Tabs w) (hc : ClsAt f w) :
    Calls Tryz.prog 56 #[v] w fun e w' => (∃ r, e = .returned r ∧ UnsAt w' r (unsL l)) ∧ Below w.heap.size w w' := by
  refine (gather_any f l v w hv hE hb hT hc).mono ?_
  rintro e w' ⟨⟨r, rfl, h⟩, hb⟩
  have hu := gather_units hf (valid_mem hE)
  rw [hu] at h
  have hl : (unitsP f (placed 0 (singleL l))).length = (unsL l).length := by
    have := congrArg List.length hu
    rwa [List.length_map, List.length_map] at this
  rw [hl] at h
  exact ⟨⟨r, rfl, unsAt_own h⟩, hb⟩
set_option maxHeartbeats 2000000 in
theorem one_new (ask : Value) (fa : Nat) (cs : Array Value) (he : ask = .func (.func fa) #[] cs) (w : World) : Calls Tryz.prog 141 #[ask] w fun e w' => e = .returned (.func (.func 161) #[] #[.pointer (some ⟨w.heap.size, 0, none⟩)]) ∧ w' = w.alloc (.cells #[ask] 210) := by
  subst he
  go_enter Tryz.func141, Tryz.ntmps141
  go_wp2
  go_ret
  exact ⟨rfl, rfl⟩
def TestEnd (x : Ft) (w : World) (e : Ending) (w' : World) : Prop := (∃ v, e = .returned v ∧ TestAt w' v x ∧ ∃ f cs, v = .func (.func f) #[] cs) ∧ Below w.heap.size w w'
set_option maxHeartbeats 2000000 in
theorem same_new (r : Nat) (c : Bool) (hc : c = false ∨ r = 37) (w : World) : Calls Tryz.prog 122 #[.int .i32 (r : Int)] w fun e w' => TestEnd ⟨c, r⟩ w e w' := by
  have cO := one_new (.func (.func 142) #[] #[.pointer (some ⟨w.heap.size, 0, none⟩)]) _ _ rfl (w.alloc (.cells #[.int .i32 (r : Int)] 21))
  have HI : ftIs ⟨c, r⟩ = false := by
    unfold ftIs
    rcases hc with rfl | rfl <;> simp
  go_enter Tryz.func122, Tryz.ntmps122
  go_wp2_with (go_at_call 141; (with_reducible refine cO.mono ?_); rintro e w3 ⟨rfl, rfl⟩)
  go_ret
  have h1 := heap_alloc_new (w.alloc (.cells #[.int .i32 (r : Int)] 21)) (.cells #[.func (.func 142) #[] #[.pointer (some ⟨w.heap.size, 0, none⟩)]] 210)
  rw [show (w.alloc (.cells #[.int .i32 (r : Int)] 21)).heap.size = w.heap.size + 1 by simp] at h1
  refine ⟨⟨_, rfl, .inr ⟨HI, _, _, rfl, h1, .inl ⟨hc, _, rfl, ?_⟩⟩, _, _, rfl⟩, below_next (below_box _) (below_box _)⟩
  rw [Below.heap_alloc _ _ _ (by simp)]
  exact heap_alloc_new w _
theorem test_one (s : Nat) (hs : s = 97 ∨ s = 117 ∨ s = 108 ∨ s = 100 ∨ s = 115 ∨ s = 112 ∨ s = 104 ∨ s = 46) (w : World) : TestEnd ⟨true, s⟩ w (.returned (.func (.func 161) #[] #[.pointer (some ⟨w.heap.size, 0, none⟩)])) (w.alloc (.cells #[.func (.func (symF s)) #[] #[]] 210)) := by
  refine ⟨⟨_, rfl, .inr ⟨?_, _, _, rfl, heap_alloc_new _ _, .inr ⟨rfl, hs, rfl⟩⟩, _, _, rfl⟩, below_box _⟩
  unfold ftIs
  rcases hs with rfl | rfl | rfl | rfl | rfl | rfl | rfl | rfl <;> rfl
set_option maxHeartbeats 16000000 in
theorem symbol_new (s : Nat) (hs : symB s = true) (w : World) : Calls Tryz.prog 123 #[.int .i32 (s : Int)] w fun e w' => TestEnd ⟨true, s⟩ w e w' := by
  unfold symB at hs
  simp only [Bool.or_eq_true, decide_eq_true_eq] at hs
  have hs' : (s = 97 ∨ s = 117 ∨ s = 108 ∨ s = 100 ∨ s = 115 ∨ s = 112 ∨ s = 104 ∨ s = 46) ∨ s = 37 ∨ s = 98 := by omega
  clear hs
  rcases hs' with h | rfl | rfl
  · have HE := Lib.hid (test_one s h w)
    have cO := one_new (.func (.func (symF s)) #[] #[]) _ _ rfl w
    rcases h with rfl | rfl | rfl | rfl | rfl | rfl | rfl | rfl
    all_goals
      unfold symF at cO HE
      simp only [Nat.reduceEqDiff, if_true, if_false] at cO HE
      go_enter Tryz.func123, Tryz.ntmps123
      go_wp2_with (go_at_call 141; (with_reducible refine cO.mono ?_); rintro e w3 ⟨rfl, rfl⟩)
      go_ret
      exact HE.out
  · have cS : Calls Tryz.prog 122 #[.int .i32 37] w fun e w' => TestEnd ⟨true, 37⟩ w e w' := same_new 37 true (.inr rfl) w
    go_enter Tryz.func123, Tryz.ntmps123
    go_wp2_with (go_at_call 122; (with_reducible refine cS.mono ?_); rintro e w3 ⟨⟨v, rfl, h1, f, cs, rfl⟩, hb⟩; have H1 := Lib.hid h1; have HB := Lib.hid hb; clear h1 hb)
    go_ret
    exact ⟨⟨_, rfl, H1.out, _, _, rfl⟩, HB.out⟩
  · go_enter Tryz.func123, Tryz.ntmps123
    go_wp2
    go_ret
    exact ⟨⟨_, rfl, .inl ⟨rfl, rfl⟩, _, _, rfl⟩, Below.refl _ _⟩
set_option maxHeartbeats 16000000 in
theorem symbol_no (s : Nat) (hs : symB s = false) (w : World) : Calls Tryz.prog 123 #[.int .i32 (s : Int)] w fun e w' => e = .returned .nilFunc ∧ w' = w := by
  unfold symB at hs
  simp only [Bool.or_eq_false_iff, decide_eq_false_iff_not] at hs
  have n1 : ¬ (s : Int) = 97 := by omega
  have n2 : ¬ (s : Int) = 117 := by omega
  have n3 : ¬ (s : Int) = 108 := by omega
  have n4 : ¬ (s : Int) = 100 := by omega
  have n5 : ¬ (s : Int) = 115 := by omega
  have n6 : ¬ (s : Int) = 112 := by omega
  have n7 : ¬ (s : Int) = 104 := by omega
  have n8 : ¬ (s : Int) = 46 := by omega
  have n9 : ¬ (s : Int) = 37 := by omega
  have n10 : ¬ (s : Int) = 98 := by omega
  clear hs
  go_enter Tryz.func123, Tryz.ntmps123
  go_wp2
  go_ret
  exact ⟨rfl, rfl⟩
end Go.Proofs.YtnkpjkomokkhcaaGreatDoor
namespace Go.Proofs.YtnkpjkomokkhcaaGreatDoor
open Go Go.RowKit Go.Lib
set_option maxRecDepth 100000
/-- the items of a row of runes, rune by rune: a % that stands right ahead, the items so far -/
def cmp : List Nat → Bool → List Ft → Option (List Ft × Bool)
  | [], b, X => some (X, b)
  | r :: rs, b, X => if b = true then (if symB r = true then cmp rs false (X ++ [⟨true, r⟩]) else none) else (if r = 37 then cmp rs true X else cmp rs false (X ++ [⟨false, r⟩]))
theorem cmp_fts : ∀ (rs : List Nat) (X : List Ft), match ftsL rs with
    | some Y => cmp rs false X = some (X ++ Y, false)
    | none => cmp rs false X = none ∨ ∃ Z, cmp rs false X = some (Z, true)
  | [], X => by simp [ftsL, cmp]
  | [r], X => by
    unfold ftsL
    by_cases h : r = 37
    · subst h; simp [cmp]
    · simp [cmp, h]
  | r :: s :: l, X => by
    unfold ftsL
    by_cases h : r = 37
    · subst h
      simp only [if_true, cmp, Bool.false_eq_true, if_false]
      by_cases hs : symB s = true
      · rw [if_pos hs, if_pos hs]
        have ih := cmp_fts l (X ++ [⟨true, s⟩])
        cases hq : ftsL l with
        | none => rw [hq] at ih; exact ih
        | some Y => rw [hq] at ih; dsimp only [Option.map_some]; rw [ih]; simp
      · rw [if_neg hs, if_neg hs]
        exact .inl rfl
    · rw [if_neg h]
      have e : cmp (r :: s :: l) false X = cmp (s :: l) false (X ++ [⟨false, r⟩]) := by
        rw [cmp]; simp [h]
      rw [e]
      have ih := cmp_fts (s :: l) (X ++ [⟨false, r⟩])
      cases hq : ftsL (s :: l) with
      | none => rw [hq] at ih; exact ih
      | some Y => rw [hq] at ih; dsimp only [Option.map_some]; rw [ih]; simp
def runesAt (s : ByteArray) (fuel pos : Nat) : List Nat := runesG fuel (s.data.toList.drop pos)
theorem runesAt_step (s : ByteArray) (fuel pos : Nat) (hp : pos < s.size) : runesAt s (fuel + 1) pos = (Utf8.decode s pos).1 :: runesAt s fuel (pos + (Utf8.decode s pos).2) := by
  unfold runesAt
  have hne : s.data.toList.drop pos ≠ [] := by
    intro h
    have := congrArg List.length h
    rw [List.length_drop, bytes_len] at this
    simp at this; omega
  simp only [runesG, if_neg hne, decodeL_drop, List.drop_drop]
theorem runesAt_end (s : ByteArray) (fuel pos : Nat) (hp : ¬ pos < s.size) : runesAt s fuel pos = [] := by
  unfold runesAt
  have h : s.data.toList.drop pos = [] := by
    apply List.drop_eq_nil_of_le
    rw [bytes_len]; omega
  rw [h]
  cases fuel <;> simp [runesG]
theorem runesAt_all (s : ByteArray) : runesAt s s.size 0 = runesOf s := by
  unfold runesAt runesOf
  rw [List.drop_zero, bytes_len]
/-- a pattern under way, in its block -/
def PatM (B b : Nat) (X : List Ft) (w : World) : Prop := ∃ (v : Value) (us : List Value), w.heap[b]? = some (.cells #[v, .int .i64 (ftW X : Nat)] 110 (0, 0)) ∧ w.ownsRow B 187 1 v X.length us ∧ us.length = X.length ∧ ∀ i, i < X.length → TestAt w (us.getD i nilV1) (X.getD i nilF)
theorem PatM.step {B b : Nat} {X : List Ft} {w w' : World} (h : PatM B b X w) (hb : Below w.heap.size w w') : PatM B b X w' := by
  obtain ⟨v, us, h1, h2, h3, h4⟩ := h
  have hk := Keeps.below (C := fun _ => True) hb
  exact ⟨v, us, hk.same _ _ h1 trivial, hk.row h2 fun _ => trivial, h3, fun i hi => (h4 i hi).step hb⟩
theorem ftW_app (X : List Ft) (x : Ft) : ftW (X ++ [x]) = ftW X + (if ftIs x = true then 0 else 1) := by
  unfold ftW
  rw [List.filter_append, List.length_append]
  congr 1
  cases h : ftIs x <;> simp [h]
theorem PatM.tests {B : Nat} {X : List Ft} {w : World} {v : Value} {us : List Value} (h2 : w.ownsRow B 187 1 v X.length us) (h3 : us.length = X.length) (h4 : ∀ i, i < X.length → TestAt w (us.getD i nilV1) (X.getD i nilF)) : TestsAt w v X := by
  refine ⟨us, h3, ?_, h4⟩
  have hc := h2
  rcases h2.2 with ⟨rfl, h0⟩ | ⟨g, cap, cur, rfl, hg, hh, hn, hm, _⟩
  · exact ⟨none, 0, by rw [h0], by omega, by unfold maxLen; omega, fun h => by omega⟩
  · refine ⟨some ⟨g, 0, none⟩, cap, rfl, hn, hm, fun _ => ⟨_, rfl, lt_of_block hh, fun i j hi hj => ?_⟩⟩
    obtain rfl : j = 0 := by omega
    refine World.ownsRow.cells hc (g := g) rfl _ _ ?_
    rw [Nat.mul_one, Nat.add_zero, List.getElem?_eq_getElem (by omega)]
    unfold ptF
    rw [List.getD_eq_getElem?_getD, List.getElem?_eq_getElem (by omega)]
    rfl
theorem PatM.put {B b : Nat} {X : List Ft} {x : Ft} {w w4 w5 : World} {v v' t : Value} {us : List Value} {o : Obj} {W : Nat} (hB : B ≤ b) (hW : W = ftW (X ++ [x]))
    (h1 : w.heap[b]? = some (.cells #[v, .int .i64 (ftW X : Nat)] 110 (0, 0))) (h2 : w.ownsRow B 187 1 v X.length us) (h3 : us.length = X.length) (h4 : ∀ i, i < X.length → TestAt w (us.getD i nilV1) (X.getD i nilF)) (hx : TestAt w t x)
    (h5 : w4 = w ∨ w4 = w.setCell ⟨b, 1, none⟩ (.int .i64 (W : Nat))) (h6 : w4 = w → W = ftW X) (hg : (w4.alloc o).grownBy w5 v.ownBlock) (hr : w5.ownsRow B 187 1 v' (X.length + 1) (us ++ [t])) :
    PatM B b (X ++ [x]) (w5.setCell ⟨b, 0, none⟩ v') ∧ Below B w (w5.setCell ⟨b, 0, none⟩ v') ∧ (∀ (k : Nat) (q : Obj), w.heap[k]? = some q → k ≠ b → (∀ cs, q ≠ .cells cs 187 (0, 0)) → (w5.setCell ⟨b, 0, none⟩ v').heap[k]? = some q) ∧ w5.heap[b]? = some (.cells #[v, .int .i64 (W : Nat)] 110 (0, 0)) := by
  have hBW : B ≤ w.heap.size := by have := lt_of_block h1; omega
  have hs4 : w4.heap.size = w.heap.size := by rcases h5 with rfl | rfl <;> simp
  have hb4 : w4.heap[b]? = some (.cells #[v, .int .i64 (W : Nat)] 110 (0, 0)) := by
    rcases h5 with h | h
    · rw [h6 h, h]; exact h1
    · rw [h, heap_set h1]; rfl
  have ho4 : ∀ k, k ≠ b → w4.heap[k]? = w.heap[k]? := fun k hk => by
    rcases h5 with h | h
    · rw [h]
    · rw [h]; exact Below.heap_setCell _ _ _ _ hk
  have hl4 : Below B w w4 := by
    rcases h5 with h | h
    · rw [h]; exact Below.refl _ _
    · rw [h]; exact (Below.refl _ _).setCell (p := ⟨b, 1, none⟩) hB _
  have h2a : (w4.alloc o).ownsRow B 187 1 v X.length us := by
    refine World.ownsRow.alloc ?_ _
    refine ⟨h2.1, ?_⟩
    rcases h2.2 with hn | ⟨g, cap, cur, hv, hbg, hgg, rest⟩
    · exact .inl hn
    · refine .inr ⟨g, cap, cur, hv, hbg, (ho4 g ?_).trans hgg, rest⟩
      rintro rfl
      rw [hgg] at h1
      cases h1
  have hba : (w4.alloc o).heap[b]? = some (.cells #[v, .int .i64 (W : Nat)] 110 (0, 0)) := (Below.heap_alloc _ _ _ (lt_of_block hb4)).trans hb4
  have hb5 : w5.heap[b]? = some (.cells #[v, .int .i64 (W : Nat)] 110 (0, 0)) := (hg.block b (lt_of_block hba) (fun e => own_other h2a hba (by decide) e.symm)).trans hba
  have hk : ∀ (k : Nat) (q : Obj), w.heap[k]? = some q → k ≠ b → (∀ cs, q ≠ .cells cs 187 (0, 0)) → (w5.setCell ⟨b, 0, none⟩ v').heap[k]? = some q := fun k q hq hkb hne => by
    have e1 : (w4.alloc o).heap[k]? = some q := (Below.heap_alloc _ _ _ (by rw [hs4]; exact lt_of_block hq)).trans ((ho4 k hkb).trans hq)
    refine (Below.heap_setCell _ _ _ _ hkb).trans ((hg.block k (lt_of_block e1) (fun e => ?_)).trans e1)
    rcases h2a.2 with ⟨rfl, _⟩ | ⟨g, cap, cur, rfl, _, hgg, _⟩
    · simp [Value.ownBlock] at e
    · simp only [Value.ownBlock, Option.some.injEq] at e
      subst e
      rw [hgg] at e1
      cases e1
      exact hne _ rfl
  have hkk : Keeps (fun q => match q with | .cells _ t _ => t ≠ 187 ∧ t ≠ 110 | _ => False) w (w5.setCell ⟨b, 0, none⟩ v') := by
    refine ⟨by have := hg.size; simp at this ⊢; omega, fun k q hq hc => hk k q hq ?_ ?_⟩
    · rintro rfl; rw [h1] at hq; cases hq; exact hc.2 rfl
    · rintro cs rfl; exact hc.1 rfl
  refine ⟨⟨v', us ++ [t], ?_, ?_, by simp [h3], fun i hi => ?_⟩, ?_, hk, hb5⟩
  · rw [heap_set hb5, hW]; rfl
  · rw [List.length_append, List.length_singleton]
    have hz : Keeps (fun q => match q with | .cells _ t _ => t ≠ 110 | _ => True) w5 (w5.setCell ⟨b, 0, none⟩ v') := (Keeps.refl _ _).setCell hb5 (fun h => h rfl) 0 _
    exact hz.row hr fun _ => (show 187 ≠ 110 by decide)
  · rw [List.length_append, List.length_singleton] at hi
    by_cases hio : i < X.length
    · rw [getD_left us _ _ (by rw [h3]; exact hio), getD_left X _ _ hio]
      exact (h4 i hio).keeps hkk (fun _ => ⟨by decide, by decide⟩) (fun _ => ⟨by decide, by decide⟩)
    · obtain rfl : i = X.length := by omega
      have e1 : (us ++ [t]).getD X.length nilV1 = t := by rw [List.getD_eq_getElem?_getD, List.getElem?_append_right (by rw [h3]; exact Nat.le_refl _), h3]; simp
      have e2 : (X ++ [x]).getD X.length nilF = x := by rw [List.getD_eq_getElem?_getD, List.getElem?_append_right (Nat.le_refl _)]; simp
      rw [e1, e2]
      exact hx.keeps hkk (fun _ => ⟨by decide, by decide⟩) (fun _ => ⟨by decide, by decide⟩)
  · exact ((hl4.alloc (by rw [hs4]; exact hBW) o).grown hg (by simp; omega) (fun k e => (h2a.lt k e).1)).setCell (p := ⟨b, 0, none⟩) hB _
end Go.Proofs.YtnkpjkomokkhcaaGreatDoor
