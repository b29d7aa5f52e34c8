/- A range over an iterator that ranges over another one itself: its caller's word is stronger (what is no cells may be turned beyond where the iterator began), and so is what it is told. The units of a list: the program's iterator over them, which ranges over the steps; how many there are. How many units a list has, by the program. -/
import Derived.Test.YtnkpjkomokkhcaaGreatDoorCuB
import Derived.Sort.LoopGhostIn
import Derived.Maps.AppendAt
import Derived.Scope
import Derived.Test.YtnkpjkomokkhcaaGreatDoorGlC
namespace Go.Proofs.YtnkpjkomokkhcaaGreatDoor
open Go Go.RowKit Go.Lib
set_option maxRecDepth 100000
/-- what an iterator that ranges over another one does; of the caller it knows that it minds no turn of a block without cells beyond its own begin, and that it turns none itself -/
def SeqOver {α : Type} (n : Nat) (P : Program) (g : Nat) (lb : Array Value) (encs : α → Array Value) (Kp : World → World → Prop) (S Sp : List α → Prop) (N : Nat) (w : World) : Prop :=
  ∀ (l : Nat) (J Jx : List α → World → Prop) (W : World), Below w.heap.size w W → OwnFrom W.heap.size J → OwnFrom W.heap.size Jx →
    (∀ pre x W1, J pre W1 → pre.length < N → YieldAt Fence.wide (n - 1) P l (encs x) W1 fun e W' =>
      (e = .returned (.bool true) ∧ J (pre ++ [x]) W' ∧ Kp W1 W' ∧ KeepsFrom W.heap.size W1 W') ∨ (e = .returned (.bool false) ∧ Jx (pre ++ [x]) W' ∧ KeepsFrom W.heap.size W1 W')) →
    J [] W →
    CallsIn Fence.wide n P g (#[.func (.yield l) #[] #[]] ++ lb) W fun e W' => (∃ v, e = .returned v) ∧ ((∃ xs, S xs ∧ J xs W') ∨ (∃ pre, Sp pre ∧ Jx pre W'))
theorem turn_ge {X Y : World} {row : Option Nat} {b k : Nat} {o : Obj} (hk : X.heap[k]? = some o) (hlt : k < b) (hg : X.grownBy Y row) (hr : ∀ r, row = some r → b ≤ r ∧ ∃ q : Obj, X.heap[r]? = some q ∧ q.isCells = false) : Y.heap[k]? = some o :=
  (hg.block k (lt_of_block hk) (fun e => by have := (hr k e.symm).1; omega)).trans hk
theorem KeepsFrom.putObj {b l : Nat} {W : World} {o : Obj} (hl : l < b) : KeepsFrom b W (W.putObj l o) := ⟨by simp, fun k _ hb hk _ => (World.putObj_heap_other (by omega)).trans hk⟩
/-- a range over such an iterator, in a function's own frame -/
theorem range_over {α : Type} {n : Nat} {P : Program} {g : Operand} {ps : Array Tmp} {assign body : Code} {Q : Exit → Act → World → Prop} {a : Act} {w : World}
    {gf : Nat} {lb : Array Value} (hg : a.eval g = .func (.func gf) #[] lb) (eg : ∀ args w, (callFunc gf args).run P w = .ok (.enter gf args) w)
    {encs : α → Array Value} {Kp : World → World → Prop} {S Sp : List α → Prop} {N : Nat} {w0 : World} (hseq : SeqOver (n - 1) P gf lb encs Kp S Sp N w0)
    (hKt : ∀ {A B C : World}, Kp A B → Kp B C → Kp A C) (hKb : ∀ (W : World) (l : Nat) (o o' : Obj), w.heap.size ≤ l → W.heap[l]? = some o → o.isCells = false → o.isWalk = false → Kp W (W.putObj l o')) (hb0 : Below w0.heap.size w0 w) (hps : ∀ x, (encs x).size = ps.size)
    (I : List α → World → Prop) (Ix : Code → List α → World → Prop) (hI : OwnFrom w.heap.size I) (hIx : ∀ c, OwnFrom w.heap.size (Ix c)) (h0 : I [] w) (a₁ : α → Act)
    (hassign : ∀ (l : Nat) (x : α) (W : World) (K : Act → World → Prop), K (a₁ x) W →
      assign.wpIn (Fence.wide.inRound l) (n - 1 - 1) P (Exit.then K (fun _ _ _ => False)) { tmps := (ps.zip (encs x)).foldl (fun t (p, v) => t.setIfInBounds p v) a.tmps, defers := [] } W)
    (hbody : ∀ (l : Nat) (pre : List α) (x : α) (W : World), I pre W → pre.length < N → body.wpIn (Fence.wide.inRound l) (n - 1 - 1) P (ownPostG w.heap.size Kp I Ix (pre ++ [x]) W) (a₁ x) W)
    (hdone : ∀ (D : Nat) (xs : List α) (W : World), w.heap.size ≤ D → S xs → I xs W → W.heap[D]? = some (.deferred (some [])) → Q .normal { a with defers := { target := .collected D, args := #[] } :: a.defers } W)
    (hstop : ∀ (D : Nat) (c : Code) (pre : List α) (W : World), w.heap.size ≤ D → Sp pre → Ix c pre W → W.heap[D]? = some (.deferred (some [])) → c.wpIn Fence.wide n P Q { a with defers := { target := .collected D, args := #[] } :: a.defers } W) :
    (Code.rangeFunc g ps assign body).wpIn Fence.wide n P Q a w := by
  refine wpIn_rangeFunc fun fn _ => ?_
  obtain ⟨rc, hrc⟩ : ∃ rc : LoopState → Option Code → Loop, rc = fun st pe => { state := st, pending := pe, fn, tmps := a.tmps, params := ps, assign, body, defers := w.heap.size } := ⟨_, rfl⟩
  have hz : (w.alloc (.deferred (some []))).heap.size = w.heap.size + 1 := World.size_alloc ..
  obtain ⟨V, hV⟩ : ∃ V, V = (w.alloc (.deferred (some []))).alloc (.loop (rc .ready none)) := ⟨_, rfl⟩
  have hVs : V.heap.size = w.heap.size + 2 := by rw [hV, World.size_alloc, hz]
  have hVl : V.heap[w.heap.size + 1]? = some (.loop (rc .ready none)) := by rw [hV, ← hz]; exact World.alloc_heap_new ..
  have hVd : V.heap[w.heap.size]? = some (.deferred (some [])) := by rw [hV]; exact (Below.heap_alloc _ _ _ (by omega)).trans (World.alloc_heap_new w _)
  have hVb : Below w0.heap.size w0 V := by rw [hV]; exact hb0.trans ((((Below.refl _ w).alloc (Nat.le_refl _) _).alloc (by omega) _).mono hb0.size)
  have hVi : I [] V := by rw [hV]; exact hI.alloc _ (hI.alloc _ h0)
  refine ⟨w.heap.size + 1, [{ target := .collected w.heap.size, args := #[] }], V, { target := .fn (.func gf) lb, args := #[.func (.yield (w.heap.size + 1)) #[] #[]] }, V, gf,
    #[.func (.yield (w.heap.size + 1)) #[] #[]] ++ lb, V, ?_, ?_, ?_, ?_, (fun h => by cases h), ?_⟩
  · rw [hV, hrc]; exact run_enterLoop_outer _ _ _ _ _
  · simp only [resolve, hg]
    simp [go_sem]
  · exact fun _ _ => trivial
  · simp [invoke, go_sem, eg]
  · have low : ∀ {X : World} {row : Option Nat}, (∀ r, row = some r → V.heap.size ≤ r ∧ ∃ q : Obj, X.heap[r]? = some q ∧ q.isCells = false) → ∀ r, row = some r → w.heap.size ≤ r ∧ ∃ q : Obj, X.heap[r]? = some q ∧ q.isCells = false :=
      fun h r e => ⟨by have := (h r e).1; omega, (h r e).2⟩
    refine (hseq (w.heap.size + 1)
      (fun pre W => I pre W ∧ W.heap[w.heap.size + 1]? = some (.loop (rc .ready none)) ∧ W.heap[w.heap.size]? = some (.deferred (some [])))
      (fun pre W => ∃ c, Ix c pre W ∧ W.heap[w.heap.size + 1]? = some (.loop (rc .done (some c))) ∧ W.heap[w.heap.size]? = some (.deferred (some [])))
      V hVb (fun s X Y row hs hgr hr => ⟨hI s X Y row hs.1 hgr (low hr), turn_ge hs.2.1 (by omega) hgr hr, turn_ge hs.2.2 (by omega) hgr hr⟩)
      (fun s X Y row ⟨c, h1, h2, h3⟩ hgr hr => ⟨c, hIx c s X Y row h1 hgr (low hr), turn_ge h2 (by omega) hgr hr, turn_ge h3 (by omega) hgr hr⟩)
      ?_ ⟨hVi, hVl, hVd⟩).mono ?_
    · rintro pre x W ⟨hi, hl, hd⟩ hlen
      have hy := run_yield (P := P) (args := encs x) hl (by rw [hrc]; exact hps x)
      rw [hrc] at hy
      have hlt := lt_of_block hl
      refine ⟨fn, _, assign, body, hy, roundIn_of_wpIn trivial (hassign _ x W _ ?_)⟩
      refine ⟨_, run_beginRound hl (by rw [hrc]), ?_⟩
      have hl2 : (W.putObj (w.heap.size + 1) (.loop { rc .ready none with state := .busy })).heap[w.heap.size + 1]? = some (.loop { rc .ready none with state := .busy }) := World.putObj_heap_same hlt
      have hd2 : (W.putObj (w.heap.size + 1) (.loop { rc .ready none with state := .busy })).heap[w.heap.size]? = some (.deferred (some [])) := (World.putObj_heap_other (by omega)).trans hd
      have hk2 : Kp W (W.putObj (w.heap.size + 1) (.loop { rc .ready none with state := .busy })) := hKb _ _ _ _ (by omega) hl rfl rfl
      have hf2 : KeepsFrom V.heap.size W (W.putObj (w.heap.size + 1) (.loop { rc .ready none with state := .busy })) := KeepsFrom.putObj (by omega)
      refine wpIn_mono (hbody _ pre x _ (hI.putObj _ hi (by omega) hl rfl) hlen) ?_
      have fin : ∀ (jump : Option Code) (W3 : World), KeepsFrom w.heap.size (W.putObj (w.heap.size + 1) (.loop { rc .ready none with state := .busy })) W3 →
          ∃ W4, (Instr.endRound (w.heap.size + 1) jump).run P W3 = .ok (.bool jump.isNone) W4 ∧ W4 = W3.putObj (w.heap.size + 1) (.loop (rc (if jump.isNone then .ready else .done) jump)) ∧ (∃ o, W3.heap[w.heap.size + 1]? = some o ∧ o.isCells = false ∧ o.isWalk = false) ∧
          W4.heap[w.heap.size + 1]? = some (.loop (rc (if jump.isNone then .ready else .done) jump)) ∧ W4.heap[w.heap.size]? = some (.deferred (some [])) ∧ KeepsFrom V.heap.size W W4 := fun jump W3 hk3 => by
        have hl3 := hk3.same _ _ (by omega) hl2 rfl
        have hr3 := run_endRound (P := P) jump hl3
        rw [hrc] at hr3
        refine ⟨_, by rw [hrc]; exact hr3, rfl, ⟨_, hl3, rfl, rfl⟩, World.putObj_heap_same (lt_of_block hl3), (World.putObj_heap_other (by omega)).trans (hk3.same _ _ (Nat.le_refl _) hd2 rfl), (hf2.trans ?_).trans (KeepsFrom.putObj (by omega))⟩
        exact ⟨hk3.size, fun k o hk ho hc => hk3.same k o (by omega) ho hc⟩
      rintro e a3 W3 hp
      cases e with
      | normal =>
        obtain ⟨hk3, hkp3, hi3⟩ := hp
        obtain ⟨W4, hr, rfl, ⟨o, ho, hc, hw⟩, hl4, hd4, hf4⟩ := fin none W3 hk3
        exact ⟨_, _, hr, .inl ⟨rfl, ⟨hI.putObj _ hi3 (by omega) ho hc, hl4, hd4⟩, hKt (hKt hk2 hkp3) (hKb _ _ _ _ (by omega) ho hc hw), hf4⟩⟩
      | ret =>
        obtain ⟨hk3, hi3⟩ := hp
        obtain ⟨W4, hr, rfl, ⟨o, ho, hc, hw⟩, hl4, hd4, hf4⟩ := fin (some .ret) W3 hk3
        exact ⟨_, _, hr, .inr ⟨rfl, ⟨.ret, (hIx _).putObj _ hi3 (by omega) ho hc, hl4, hd4⟩, hf4⟩⟩
      | exit id =>
        obtain ⟨hk3, hi3⟩ := hp
        obtain ⟨W4, hr, rfl, ⟨o, ho, hc, hw⟩, hl4, hd4, hf4⟩ := fin (some (.exit id)) W3 hk3
        exact ⟨_, _, hr, .inr ⟨rfl, ⟨.exit id, (hIx _).putObj _ hi3 (by omega) ho hc, hl4, hd4⟩, hf4⟩⟩
      | goto t =>
        obtain ⟨hk3, hi3⟩ := hp
        obtain ⟨W4, hr, rfl, ⟨o, ho, hc, hw⟩, hl4, hd4, hf4⟩ := fin (some (.goto t)) W3 hk3
        exact ⟨_, _, hr, .inr ⟨rfl, ⟨.goto t, (hIx _).putObj _ hi3 (by omega) ho hc, hl4, hd4⟩, hf4⟩⟩
      | panic ch => exact hp.elim
      | outgrown => exact hp.elim
    · rintro e W2 ⟨⟨v, rfl⟩, (⟨xs, hS, hi, hl, hd⟩ | ⟨pre, hSp, c, hi, hl, hd⟩)⟩
      · exact ⟨none, _, by have := run_endLoop (P := P) hl (by rw [hrc]; simp); rw [hrc] at this; exact this, hdone _ xs _ (Nat.le_refl _) hS (hI.putObj _ hi (by omega) hl rfl) ((World.putObj_heap_other (by omega)).trans hd)⟩
      · exact ⟨some c, _, by have := run_endLoop (P := P) hl (by rw [hrc]; simp); rw [hrc] at this; exact this, hstop _ c pre _ (Nat.le_refl _) hSp ((hIx c).putObj _ hi (by omega) hl rfl) ((World.putObj_heap_other (by omega)).trans hd)⟩
end Go.Proofs.YtnkpjkomokkhcaaGreatDoor
namespace Go.Proofs.YtnkpjkomokkhcaaGreatDoor
open Go Go.RowKit Go.Lib
set_option maxRecDepth 100000
attribute [local go_sem] Oper.semAt_some
def isTagB (x : Pc) : Bool := decide (x.k = 2) || decide (x.k = 3) || decide (x.k = 4)
set_option maxHeartbeats 2000000 in
theorem isTag_any (x : Pc) (w : World) : Calls Tryz.prog 86 #[pcV x] w fun e w' => e = .returned (.bool (isTagB x)) ∧ Below w.heap.size w w' := by
  obtain ⟨k, s, c⟩ := x
  unfold isTagB pcV
  have ag := Tryz.isAgg52
  have zg := Tryz.sizeOf52
  by_cases h2 : k = 2 <;> by_cases h3 : k = 3 <;> by_cases h4 : k = 4
  all_goals first
  | (exfalso; omega)
  | (go_enter Tryz.func86, Tryz.ntmps86
     go_wp2
     go_ret
     exact ⟨ret_bool (by simp [h2, h3, h4]), below_box _⟩)
/-- the table of classes, whatever it says -/
def ClsAt (f : Nat → Int) (w : World) : Prop := ∀ c, c < 128 → w.cell? ⟨0, c, none⟩ = some (.int .u8 (f c))
theorem ClsAt.below {f : Nat → Int} {B : Nat} {w w' : World} (h : ClsAt f w) (hb : Below B w w') (hB : 0 < B) : ClsAt f w' := fun c hc => by
  rw [hb.cell (p := ⟨0, c, none⟩) hB]; exact h c hc
def clsF (f : Nat → Int) (r : Nat) : Int := if 127 < r then 1 else f r
set_option maxHeartbeats 1000000 in
theorem classOfF_any (f : Nat → Int) (r : Nat) (w : World) (hC : ClsAt f w) :
    Calls Tryz.prog 87 #[.int .i32 (r : Int)] w fun e w' => e = .returned (.int .u8 (clsF f r)) ∧ w' = w := by
  by_cases h : 127 < r
  · have hI : (127 : Int) < (r : Int) := by omega
    have hc : clsF f r = 1 := if_pos h
    have HC := Lib.hid hc; clear hc
    go_enter Tryz.func87, Tryz.ntmps87
    go_wp2
    go_ret
    exact ⟨ret_u8 HC.out.symm, rfl⟩
  · have hI : ¬ (127 : Int) < (r : Int) := by omega
    have h1 := hC r (by omega)
    have hc : clsF f r = f r := if_neg h
    rw [hc]
    generalize f r = z at h1
    clear hC
    go_enter Tryz.func87, Tryz.ntmps87
    go_wp2
    go_ret
    exact ⟨rfl, rfl⟩
/-- a unit: its class and its rune -/
def uOf (f : Nat → Int) (x : Pc) : Int × Nat := if x.k = 1 then (clsF f (Lib.decodeGo x.s).1, (Lib.decodeGo x.s).1) else (5, 0)
def unV (u : Int × Nat) : Value := .agg #[.int .u8 u.1, .int .i32 (u.2 : Int)]
def encU (u : Nat × (Int × Nat)) : Array Value := #[.int .i64 (u.1 : Int), unV u.2]
def unitP (f : Nat → Int) (y : Nat × Pc) : List (Nat × (Int × Nat)) := if isTagB (clip y.2) = true then [] else [(y.1, uOf f (clip y.2))]
def unitsP (f : Nat → Int) (S : List (Nat × Pc)) : List (Nat × (Int × Nat)) := S.flatMap (unitP f)
theorem unitsP_app (f : Nat → Int) (S : List (Nat × Pc)) (y : Nat × Pc) : unitsP f (S ++ [y]) = unitsP f S ++ unitP f y := by unfold unitsP; simp
theorem unitsP_len (f : Nat → Int) : ∀ S : List (Nat × Pc), (unitsP f S).length ≤ S.length
  | [] => Nat.le_refl _
  | y :: S => by
    have h := unitsP_len f S
    unfold unitsP at h ⊢
    rw [List.flatMap_cons, List.length_append, List.length_cons]
    have h1 : (unitP f y).length ≤ 1 := by unfold unitP; split <;> simp
    omega
theorem unitsP_pre (f : Nat → Int) {A S : List (Nat × Pc)} (h : A <+: S) : unitsP f A <+: unitsP f S := by
  obtain ⟨R, rfl⟩ := h
  unfold unitsP
  rw [List.flatMap_append]
  exact List.prefix_append _ _
theorem roundIn_any {n m l l' : Nat} {P : Program} {f : FuncId} {tmps : Array Value} {assign body : Code} {w : World} {R : Ending → World → Prop} (h : RoundIn Fence.wide n P l f tmps assign body w R) : RoundIn (Fence.wide.inRound l') m P l f tmps assign body w R :=
  ⟨trivial, fun c cs _ => h.2 c cs (room_wide _)⟩
/-- a mark among the deferred calls: a range over a function was there -/
def rfMark (D : Nat) : Deferred := { target := .collected D, args := #[] }
/-- the blocks of the marks -/
def MarksAt (B : Nat) (Ds : List Nat) (W : World) : Prop := Ds.Nodup ∧ ∀ D ∈ Ds, B ≤ D ∧ W.heap[D]? = some (.deferred (some []))
theorem MarksAt.nil (B : Nat) (W : World) : MarksAt B [] W := ⟨List.nodup_nil, fun _ h => by cases h⟩
theorem MarksAt.cons {B D : Nat} {Ds : List Nat} {W : World} (h : MarksAt B Ds W) (hD : B ≤ D) (hn : D ∉ Ds) (hW : W.heap[D]? = some (.deferred (some []))) : MarksAt B (D :: Ds) W :=
  ⟨List.nodup_cons.2 ⟨hn, h.1⟩, fun E hE => (List.mem_cons.1 hE).elim (fun e => e ▸ ⟨hD, hW⟩) (h.2 E)⟩
theorem MarksAt.step {B : Nat} {Ds : List Nat} {W W' : World} (h : MarksAt B Ds W) (hb : Below W.heap.size W W') : MarksAt B Ds W' :=
  ⟨h.1, fun D hD => ⟨(h.2 D hD).1, (hb.block D (lt_of_block (h.2 D hD).2)).trans (h.2 D hD).2⟩⟩
theorem MarksAt.others {B : Nat} {Ds : List Nat} {W W' : World} (h : MarksAt B Ds W) (hb : KeepsOthers W W') : MarksAt B Ds W' :=
  ⟨h.1, fun D hD => ⟨(h.2 D hD).1, hb.same D _ (h.2 D hD).2 rfl⟩⟩
theorem MarksAt.lt {B : Nat} {Ds : List Nat} {W : World} (h : MarksAt B Ds W) : ∀ D ∈ Ds, D < W.heap.size := fun D hD => lt_of_block (h.2 D hD).2
theorem leavesMarks {P : Program} {n : Nat} {fn : Func} {tmps : Array Value} {R : Ending → World → Prop} (I : World → Prop) (B : Nat) (hI : ∀ W D, I W → B ≤ D → W.heap[D]? = some (.deferred (some [])) → I (W.putObj D (.deferred none)))
    (hR : ∀ W, I W → LeavesIn Fence.wide n P fn tmps R [] .returning W) : ∀ (Ds : List Nat) (W : World), I W → MarksAt B Ds W → LeavesInM Fence.wide n P fn tmps R (Ds.map rfMark) .returning W
  | [], W, hi, _ => hR W hi
  | D :: Ds, W, hi, hm => by
    obtain ⟨h1, h2⟩ := hm.2 D (List.mem_cons_self ..)
    refine ⟨by simp, .inl ⟨D, W.putObj D (.deferred none), rfl, run_takeDeferred h2, ?_⟩⟩
    refine leavesMarks I B hI hR Ds _ (hI W D hi h1 h2) ⟨(List.nodup_cons.1 hm.1).2, fun E hE => ?_⟩
    obtain ⟨k1, k2⟩ := hm.2 E (List.mem_cons_of_mem _ hE)
    refine ⟨k1, (World.putObj_heap_other ?_).trans k2⟩
    rintro rfl
    exact (List.nodup_cons.1 hm.1).1 hE
theorem KeepsFrom.of_below {b : Nat} {W W' : World} (hb : Below W.heap.size W W') : KeepsFrom b W W' := ⟨hb.size, fun k _ _ hk _ => (hb.block k (lt_of_block hk)).trans hk⟩
theorem keeps_mono {b b' : Nat} {W W' : World} (h : KeepsFrom b W W') (hb : b ≤ b') : KeepsFrom b' W W' := ⟨h.size, fun k o hk ho hc => h.same k o (by omega) ho hc⟩
theorem own_step {α : Type} {J : List α → World → Prop} {base : Nat} (hJ : OwnFrom base J) {pre : List α} {X Y : World} (h : J pre X) (hb : Below X.heap.size X Y) : J pre Y :=
  hJ pre X Y none h (grownBy_below (show X.grownBy X none from ⟨rfl, rfl, rfl, Nat.le_refl _, fun _ _ _ => rfl⟩) hb) (fun r e => by cases e)
set_option maxHeartbeats 1000000 in
theorem unitsIt_any (p : Option Addr) (n c : Nat) (w : World) : Calls Tryz.prog 52 #[.slice p n c] w fun e w' => e = .returned (.func (.func 85) #[] #[.pointer (some ⟨w.heap.size, 0, none⟩)]) ∧ w' = w.alloc (.cells #[.slice p n c] 22) := by
  go_enter Tryz.func52, Tryz.ntmps52
  go_wp2
  go_ret
  exact ⟨rfl, rfl⟩
set_option maxHeartbeats 16000000 in
theorem units_over (f : Nat → Int) (n : Nat) (hn : 5 ≤ n) (B Bn : Nat) (l : List Pc) (p : Option Addr) (cap : Nat) (w : World)
    (hval : ∀ i, i < l.length → (l.getD i nil).k = 1 → textB (l.getD i nil).s = true) (hsz : ∀ i, i < l.length → (l.getD i nil).s.size ≤ 1000000) (hnm : ∀ i, i < l.length → (l.getD i nil).k ≠ 1 → (l.getD i nil).s.size ≤ 16) (hN : (singleL l).length ≤ 1000000)
    (hBx : w.heap[Bn]? = some (.cells #[.slice p l.length cap] 22 (0, 0))) (hBW : B ≤ w.heap.size) (hGB : 5 ≤ B) (hT : Lib.Utf8Tabs 2 3 w) (hC : ClsAt f w) (hv : SliceAt B w (.slice p l.length cap) l.length 3 (pcF l)) :
    SeqOver n Tryz.prog 85 #[.pointer (some ⟨Bn, 0, none⟩)] encU (KpS B) (fun ys => ys = unitsP f (placed 0 (singleL l))) (fun pre => pre <+: unitsP f (placed 0 (singleL l))) (placed 0 (singleL l)).length w := by
  intro lb J Jx W hW hJ hJx hY h0
  have hBx := (hW.block _ (lt_of_block hBx)).trans hBx
  have hBW := Nat.le_trans hBW hW.size
  have hT := Utf8Tabs_below hT hW
  have hC := hC.below hW (by omega)
  have hv := hv.below (hW.mono (by omega))
  have c0 : W.cell? ⟨Bn, 0, none⟩ = some (.slice p l.length cap) := (Lib.cell_of_heap hBx 0).trans rfl
  have hbn : Bn < W.heap.size := lt_of_block hBx
  have hn1 : 1 ≤ n := by omega
  have cS := fun w => steps_any p l.length cap w
  have ag := Tryz.isAgg52
  have zg := Tryz.sizeOf52
  refine callsIn_of_wp_marks Tryz.func85 rfl trivial ?_ rfl
  simp only [Tryz.ntmps85, List.size_toArray, List.length_cons, List.length_nil, Nat.reduceAdd, Nat.reduceSub, Array.replicate_succ, Array.replicate_zero, List.push_toArray, List.append_toArray, List.nil_append, List.cons_append]
  gi_wp2_with (refine ⟨trivial, ?_⟩; gi_at_call 35; (with_reducible refine (callsIn_wide.2 (cS _)).mono ?_); rintro e w3 ⟨rfl, rfl⟩)
  have hs0 : ((W.alloc (.cells #[.func (.yield lb) #[] #[]] 149)).alloc (.cells #[.slice p l.length cap] 22)).heap.size = W.heap.size + 2 := by simp
  have HF0 := Lib.hid (show ((W.alloc (.cells #[.func (.yield lb) #[] #[]] 149)).alloc (.cells #[.slice p l.length cap] 22)).heap[W.heap.size]? = some (.cells #[.func (.yield lb) #[] #[]] 149 (0, 0)) by rw [Below.heap_alloc _ _ _ (by simp)]; exact heap_alloc_new W _)
  have HX0 := Lib.hid (show ((W.alloc (.cells #[.func (.yield lb) #[] #[]] 149)).alloc (.cells #[.slice p l.length cap] 22)).heap[W.heap.size + 1]? = some (.cells #[.slice p l.length cap] 22 (0, 0)) by
    have := heap_alloc_new (W.alloc (.cells #[.func (.yield lb) #[] #[]] 149)) (.cells #[.slice p l.length cap] 22)
    rwa [show (W.alloc (.cells #[.func (.yield lb) #[] #[]] 149)).heap.size = W.heap.size + 1 by simp] at this)
  have HB0 := Lib.hid (below_next (below_box (w := W) (.cells #[.func (.yield lb) #[] #[]] 149)) (below_box (w := W.alloc (.cells #[.func (.yield lb) #[] #[]] 149)) (.cells #[.slice p l.length cap] 22)))
  have HJ0 := Lib.hid (own_step hJ h0 HB0.out)
  generalize (W.alloc (.cells #[.func (.yield lb) #[] #[]] 149)).alloc (.cells #[.slice p l.length cap] 22) = Wr at *
  have cT := steps_stops (n - 1) (by omega) B (W.heap.size + 1) l p cap Wr hval hsz hnm hN HX0.out (by omega) hGB (Utf8Tabs_below hT HB0.out) (hv.below (HB0.out.mono hBW))
  refine wpIn_rangeFunc_ownH rfl (by omega) (gf := 72) (lb := #[.pointer (some ⟨W.heap.size + 1, 0, none⟩)]) rfl trivial (enters_of Tryz.func72 (by kernel_rfl) rfl)
    cT KpS.t (KpS.b (by omega)) (Below.refl _ _) (fun _ => rfl)
    (fun pre W' => J (unitsP f pre) W' ∧ Below B W W' ∧ W'.heap[W.heap.size]? = some (.cells #[.func (.yield lb) #[] #[]] 149 (0, 0)))
    (fun c pre W' => c = .ret ∧ Jx (unitsP f pre) W')
    (fun pre X Y row ⟨h1, h2, h3⟩ hg hr => ⟨hJ _ X Y row h1 hg (fun r e => ⟨by have := (hr r e).1; omega, (hr r e).2⟩), h2.grown hg (Nat.le_trans hBW (by have := lt_of_block h3; omega)) (fun k e => by have := (hr k e).1; omega), (hg.block _ (lt_of_block h3) (fun e => by have := (hr _ e.symm).1; omega)).trans h3⟩)
    (fun c pre X Y row ⟨h1, h2⟩ hg hr => ⟨h1, hJx _ X Y row h2 hg (fun r e => ⟨by have := (hr r e).1; omega, (hr r e).2⟩)⟩)
    ⟨HJ0.out, HB0.out.mono hBW, HF0.out⟩
    (fun y a' W' => (∃ b4 : Nat, a' = { tmps := #[.func (.yield lb) #[] #[], .pointer (some ⟨Bn, 0, none⟩), .pointer (some ⟨W.heap.size, 0, none⟩), .int .i64 (y.1 : Int), .pointer (some ⟨b4, 0, none⟩), undef, undef, undef, .slice p l.length cap, .func (.func 72) #[] #[.pointer (some ⟨W.heap.size + 1, 0, none⟩)], .int .i64 (y.1 : Int), pcV (clip y.2), undef, undef, undef, undef, undef, undef, undef, undef, undef, undef, undef, undef, undef, undef, undef, undef, undef, undef, undef, undef, undef], defers := [] } ∧ W'.heap[b4]? = some (pcC (clip y.2))))
    (fun y a' _ X Y row ⟨b4, h1, h2⟩ hg hr => ⟨b4, h1, (hg.block _ (lt_of_block h2) (fun e => by obtain ⟨o, ho, hc⟩ := (hr _ e.symm).2; rw [h2] at ho; cases ho; cases hc)).trans h2⟩)
    ?assign ?body ?done ?stop
  case assign =>
    rintro l1 pre y W1 K ⟨h1, h2, h3⟩ hK
    have HK := Lib.hid hK
    have HB1 := Lib.hid (below_box (w := W1) (pcC (clip y.2)))
    have HN1 := Lib.hid (heap_alloc_new W1 (pcC (clip y.2)))
    have HI1 := Lib.hid (own_step hJ h1 HB1.out)
    have hs1 := h2.size
    have hl3 := lt_of_block h3
    have HF1 := Lib.hid ((HB1.out.block _ hl3).trans h3)
    have HL1 := Lib.hid (h2.trans (HB1.out.mono (by omega)))
    clear hK h1 h2 h3
    unfold encS
    generalize clip y.2 = q at *
    obtain ⟨k, s, c⟩ := q
    unfold pcC at HB1 HN1 HI1 HF1 HL1
    unfold pcV
    gi_wp2
    exact HK.out _ _ (KeepsFrom.of_below HB1.out) (KpS.of_below (by omega) HB1.out) ⟨HI1.out, HL1.out, HF1.out⟩ ⟨_, rfl, HN1.out⟩
  case body =>
    rintro lp pre y a' W1 hlp ⟨r0, hr0⟩ ⟨h1, h2, h3⟩ ⟨b4, rfl, h4⟩ hlt
    have HY := Lib.hid hY
    have HC1 := Lib.hid (hC.below h2 (by omega))
    have HT1 := Lib.hid (Utf8Tabs_belowB hT (B := B) (by omega) (by omega) h2)
    have HJ1 := Lib.hid h1
    have HF1 := Lib.hid h3
    have hf1 : W1.cell? ⟨W.heap.size, 0, none⟩ = some (.func (.yield lb) #[] #[]) := (Lib.cell_of_heap h3 0).trans rfl
    have hl3 := lt_of_block h3
    have hsz1 := h2.size
    have HU := Lib.hid (unitsP_app f pre y)
    have HLT := Lib.hid (Nat.lt_of_le_of_lt (unitsP_len f pre) hlt)
    have HL1 := Lib.hid h2
    have HJW := Lib.hid hJ
    have cI := isTag_any (clip y.2) W1
    have hb4 := lt_of_block h4
    have hn2 : 1 ≤ n - 1 := by omega
    have hn3 : 1 ≤ n - 1 - 1 := by omega
    have hn4 : 1 ≤ n - 1 - 1 - 1 := by omega
    obtain ⟨z0, z1, z2⟩ := pc_box h4
    have H4 := Lib.hid h4
    clear hY hC hT h1 h2 h3 h0 hJ hJx cT hr0 HJ0 HB0 HF0 HX0 hlt h4
    unfold unitP at HU
    generalize clip y.2 = q at *
    by_cases ht : isTagB q = true
    · have HU1 := Lib.hid (show unitsP f (pre ++ [y]) = unitsP f pre by rw [HU.out, if_pos ht, List.append_nil])
      rw [ht] at cI
      clear HU
      obtain ⟨k, s, c⟩ := q
      unfold pcV at cI ⊢
      dsimp only at z0 z1 z2 cI
      gi_wp2_with (refine ⟨trivial, ?_⟩; gi_at_call 86; (with_reducible refine (CallsIn.inRound lp (callsIn_wide.2 cI)).mono ?_); rintro e w2 ⟨rfl, hb2⟩; have HB2 := Lib.hid hb2; clear hb2)
      exact ⟨KeepsFrom.of_below HB2.out, KpS.of_below (by omega) HB2.out, by rw [HU1.out]; exact own_step HJW.out HJ1.out HB2.out, HL1.out.trans (HB2.out.mono (by omega)), (HB2.out.block _ hl3).trans HF1.out⟩
    · have HU1 := Lib.hid (show unitsP f (pre ++ [y]) = unitsP f pre ++ [(y.1, uOf f q)] by rw [HU.out, if_neg ht])
      have htf : isTagB q = false := by simpa using ht
      rw [htf] at cI
      clear HU ht htf
      obtain ⟨k, s, c⟩ := q
      unfold pcV at cI ⊢
      dsimp only at z0 z1 z2 cI
      have au := Tryz.isAgg152
      have zu := Tryz.sizeOf152
      by_cases hk : k = 1
      · subst hk
        have cD := fun w' (hb : Below W1.heap.size W1 w') => utf8_DecodeRuneInString s w' (Utf8Tabs_below HT1.out hb)
        have HUO := Lib.hid (show uOf f ⟨1, s, c⟩ = (clsF f (Lib.decodeGo s).1, (Lib.decodeGo s).1) from if_pos rfl)
        rw [HUO.out] at HU1
        clear HUO
        generalize (Lib.decodeGo s).1 = r at *
        generalize (Lib.decodeGo s).2 = d at *
        gi_wp2_with (first
          | (refine ⟨trivial, ?_⟩; gi_at_call 86; (with_reducible refine (CallsIn.inRound lp (callsIn_wide.2 cI)).mono ?_); rintro e w2 ⟨rfl, hb2⟩; have HB2 := Lib.hid hb2; have y0 := (hb2.cell (p := ⟨b4, 0, none⟩) hb4).trans z0; have y1 := (hb2.cell (p := ⟨b4, 1, none⟩) hb4).trans z1; have hb42 := Nat.lt_of_lt_of_le hb4 hb2.size; have hl32 := Nat.lt_of_lt_of_le hl3 hb2.size; have hs2 := hb2.size; have HBX := Lib.hid (below_next hb2 (below_box (w := w2) (.cells #[.int .u8 5, .int .i32 0] 152))); have HNX := Lib.hid (heap_alloc_new w2 (.cells #[.int .u8 5, .int .i32 0] 152)); clear hb2)
          | (refine ⟨trivial, ?_⟩; gi_at_call 73; (with_reducible refine (CallsIn.inRound lp (callsIn_wide.2 (cD _ HBX.out))).mono ?_); rintro e w4 ⟨rfl, hb4'⟩; have hu4 := (hb4'.block _ (lt_of_block HNX.out)).trans HNX.out; have d0 := (Lib.cell_of_heap hu4 0).trans rfl; have d1 := (Lib.cell_of_heap hu4 1).trans rfl; have f0 := Lib.frozen_of_heap hu4 0; have f1 := Lib.frozen_of_heap hu4 1; have HB4 := Lib.hid (below_next HBX.out hb4'); have cK := classOfF_any f r w4 (HC1.out.below HB4.out (by omega)); have hf4 := (HB4.out.cell (p := ⟨W.heap.size, 0, none⟩) hl3).trans hf1; have hs4 := HB4.out.size; have HB5 := Lib.hid ((HB4.out.setCell (p := ⟨w2.heap.size, 0, none⟩) hs2 (.int .u8 (clsF f r))).setCell (p := ⟨w2.heap.size, 1, none⟩) hs2 (.int .i32 (r : Int))); have HJ5 := Lib.hid (own_step HJW.out HJ1.out HB5.out); obtain ⟨fn, tmps, assign, body, hy, hR⟩ := HY.out (unitsP f pre) (y.1, (clsF f r, r)) _ HJ5.out HLT.out; unfold encU unV at hy; dsimp only at hy; clear hb4')
          | (refine ⟨trivial, ?_⟩; gi_at_call 87; (with_reducible refine (CallsIn.inRound lp (callsIn_wide.2 cK)).mono ?_); rintro e w5 ⟨rfl, rfl⟩))
        refine (roundIn_any hR).mono ?_
        rintro e W3 (⟨rfl, hJ3, hk3, hf3⟩ | ⟨rfl, hJx3, hf3⟩)
        · have H3 := Lib.hid (And.intro hJ3 (And.intro hk3 hf3))
          clear hJ3 hk3 hf3 hR
          gi_wp2
          exact ⟨(KeepsFrom.of_below HB5.out).trans (keeps_mono H3.out.2.2 (by omega)), (KpS.of_below (by omega) HB5.out).t H3.out.2.1, by rw [HU1.out]; exact H3.out.1, HL1.out.trans ((HB5.out.mono (by omega)).trans H3.out.2.1.1), H3.out.2.1.2.2.same _ _ ((HB5.out.block _ hl3).trans HF1.out) (.inr rfl)⟩
        · have H3 := Lib.hid (And.intro hJx3 hf3)
          clear hJx3 hf3 hR
          gi_wp2
          exact ⟨(KeepsFrom.of_below HB5.out).trans (keeps_mono H3.out.2 (by omega)), rfl, by rw [HU1.out]; exact H3.out.1⟩
      · have hkb : (k == 1) = false := beq_eq_false_iff_ne.2 hk
        have HUO := Lib.hid (show uOf f ⟨k, s, c⟩ = (5, 0) from if_neg hk)
        rw [HUO.out] at HU1
        clear HUO
        gi_wp2_with (refine ⟨trivial, ?_⟩; gi_at_call 86; (with_reducible refine (CallsIn.inRound lp (callsIn_wide.2 cI)).mono ?_); rintro e w2 ⟨rfl, hb2⟩; have HB2 := Lib.hid hb2; have hf2 := (hb2.cell (p := ⟨W.heap.size, 0, none⟩) hl3).trans hf1; have y0 := (hb2.cell (p := ⟨b4, 0, none⟩) hb4).trans z0; have hb42 := Nat.lt_of_lt_of_le hb4 hb2.size; have hl32 := Nat.lt_of_lt_of_le hl3 hb2.size; have HBX := Lib.hid (below_next hb2 (below_box (w := w2) (.cells #[.int .u8 5, .int .i32 0] 152))); have HJX := Lib.hid (own_step HJW.out HJ1.out HBX.out); obtain ⟨fn, tmps, assign, body, hy, hR⟩ := HY.out (unitsP f pre) (y.1, (5, 0)) _ HJX.out HLT.out; unfold encU unV at hy; dsimp only at hy; rw [show ((0 : Nat) : Int) = 0 from rfl] at hy; clear hb2)
        refine (roundIn_any hR).mono ?_
        rintro e W3 (⟨rfl, hJ3, hk3, hf3⟩ | ⟨rfl, hJx3, hf3⟩)
        · have H3 := Lib.hid (And.intro hJ3 (And.intro hk3 hf3))
          clear hJ3 hk3 hf3 hR
          gi_wp2
          exact ⟨(KeepsFrom.of_below HBX.out).trans (keeps_mono H3.out.2.2 (by omega)), (KpS.of_below (by omega) HBX.out).t H3.out.2.1, by rw [HU1.out]; exact H3.out.1, HL1.out.trans ((HBX.out.mono (by omega)).trans H3.out.2.1.1), H3.out.2.1.2.2.same _ _ ((HBX.out.block _ hl3).trans HF1.out) (.inr rfl)⟩
        · have H3 := Lib.hid (And.intro hJx3 hf3)
          clear hJx3 hf3 hR
          gi_wp2
          exact ⟨(KeepsFrom.of_below HBX.out).trans (keeps_mono H3.out.2 (by omega)), rfl, by rw [HU1.out]; exact H3.out.1⟩
  case done =>
    rintro D ys Wd hD rfl ⟨h1, h2, h3⟩ hK
    have HK := Lib.hid hK
    have H1 := Lib.hid h1
    have HJ := Lib.hid hJ
    clear hK h1 hJ hJx hY
    gi_wp2
    exact leavesMarks (fun W' => J (unitsP f (placed 0 (singleL l))) W') Wr.heap.size (fun W1 D1 h hD1 hk1 => HJ.out.putObj _ h (by omega) hk1 rfl) (fun W1 h => ⟨_, results_none rfl _ _ _, ⟨_, rfl⟩, .inl ⟨_, rfl, h⟩⟩) [D] _ H1.out ((MarksAt.nil _ _).cons hD (by simp) HK.out)
  case stop =>
    rintro D c pre Wd hD hpre ⟨rfl, h1⟩ hK
    have HK := Lib.hid hK
    have H1 := Lib.hid h1
    have HJ := Lib.hid hJx
    clear hK h1 hJ hJx hY
    gi_wp2
    exact leavesMarks (fun W' => Jx (unitsP f pre) W') Wr.heap.size (fun W1 D1 h hD1 hk1 => HJ.out.putObj _ h (by omega) hk1 rfl) (fun W1 h => ⟨_, results_none rfl _ _ _, ⟨_, rfl⟩, .inr ⟨_, unitsP_pre f hpre, h⟩⟩) [D] _ H1.out ((MarksAt.nil _ _).cons hD (by simp) HK.out)
end Go.Proofs.YtnkpjkomokkhcaaGreatDoor
namespace Go.Proofs.YtnkpjkomokkhcaaGreatDoor
open Go Go.RowKit Go.Lib
set_option maxRecDepth 100000
attribute [local go_sem] Oper.semAt_some
theorem uP_sum (f : Nat → Int) : ∀ (S : List Pc) (p : Nat), (unitsP f (placed p S)).length = (S.map fun x => if isTagB (clip x) = true then 0 else 1).sum
  | [], p => rfl
  | x :: S, p => by
    have h := uP_sum f S (cutUn p x)
    unfold unitsP at h ⊢
    simp only [placed, List.flatMap_cons, List.length_append, List.map_cons, List.sum_cons, h]
    congr 1
    unfold unitP
    split <;> simp
theorem sum_runs : ∀ rs : List Nat, ((rs.map runP).map fun x => if isTagB (clip x) = true then 0 else 1).sum = rs.length
  | [] => rfl
  | r :: rs => by
    rw [List.map_cons, List.map_cons, List.sum_cons, sum_runs rs, List.length_cons]
    have : isTagB (clip (runP r)) = false := by
      have h4 := enc_small (r : Int)
      have h5 : clip (runP r) = runP r := clip_of (by unfold runP; dsimp only; omega)
      rw [h5]
      unfold isTagB runP
      simp
    rw [this]
    simp
    omega
theorem small_pc {x : Pc} (h : pieceE x = 0) (hk : x.k ≠ 1) : x.s.size ≤ 16 := by
  unfold pieceE at h
  rw [if_neg hk] at h
  split at h
  · cases h
  · split at h
    · cases h
    · split at h
      · rename_i h2
        unfold nameB at h2
        simp only [Bool.and_eq_true, decide_eq_true_eq] at h2
        exact h2.1.1.2
      · cases h
theorem kind_pc {x : Pc} (h : pieceE x = 0) : x.k = 1 ∨ x.k = 2 ∨ x.k = 3 ∨ x.k = 4 ∨ x.k = 5 := by
  unfold pieceE at h
  split at h
  · cases h
  · rename_i h1
    omega
theorem text_pc {x : Pc} (h : pieceE x = 0) (hk : x.k = 1) : textB x.s = true := by
  unfold pieceE at h
  rw [if_pos hk] at h
  split at h
  · cases h
  · split at h
    · cases h
    · split at h
      · cases h
      · rename_i h3
        simp only [not_or] at h3
        simpa using h3.2
theorem un_sum {x : Pc} (h : pieceE x = 0) : ((unP x).map fun x => if isTagB (clip x) = true then 0 else 1).sum = unN x := by
  unfold unP unN
  by_cases h1 : x.k = 1
  · rw [if_pos h1, if_neg (by omega), if_pos h1, sum_runs]
  · rw [if_neg h1, clip_of (small_pc h h1) |> fun e => show ([x].map fun x => if isTagB (clip x) = true then 0 else 1).sum = (if isTagB x = true then 0 else 1) by simp [e]]
    unfold isTagB
    rcases kind_pc h with e | e | e | e | e
    · exact absurd e h1
    all_goals simp [e]
theorem units_len (f : Nat → Int) {l : List Pc} (h : ∀ x ∈ l, pieceE x = 0) : (unitsP f (placed 0 (singleL l))).length = nUnits l := by
  rw [uP_sum]
  unfold singleL nUnits
  induction l with
  | nil => rfl
  | cons x l ih => rw [List.flatMap_cons, List.map_append, List.sum_append, un_sum (h x (List.mem_cons_self ..)), ih (fun y hy => h y (List.mem_cons_of_mem _ hy)), List.map_cons, List.sum_cons]
theorem valid_mem {l : List Pc} (h : checkE l = 0) : ∀ x ∈ l, pieceE x = 0 := fun x hx => by
  obtain ⟨i, hi, rfl⟩ := List.getElem_of_mem hx
  have := all_valid h i hi
  rwa [List.getD_eq_getElem?_getD, List.getElem?_eq_getElem hi] at this
theorem Cls.at {w : World} (h : Cls w) : ∃ f, ClsAt f w := by
  refine ⟨fun c => if hc : c < 128 then Classical.choose (h c hc) else 0, fun c hc => ?_⟩
  dsimp only
  rw [dif_pos hc]
  exact (Classical.choose_spec (h c hc)).1
def CntAt (b : Nat) (n : Nat) (W : World) : Prop := W.heap[b]? = some (.cells #[.int .i64 (n : Int)] 3 (0, 0))
theorem CntAt.put {b n : Nat} {W : World} (h : CntAt b n W) (k : Nat) : CntAt b k (W.setCell ⟨b, 0, none⟩ (.int .i64 (k : Int))) := by
  unfold CntAt at h ⊢
  simp [World.setCell, Array.getElem?_modify, h]
theorem not_calmI_int (cs : Array Value) (fr : Nat × Nat) : ¬ calmI (.cells cs 3 fr) := by
  rintro (⟨h, _⟩ | h)
  · exact absurd h (by decide)
  · exact absurd h (by decide)
set_option maxHeartbeats 16000000 in
theorem units_count (l : List Pc) (v : Value) (w : World) (hv : PcsAt w v l) (hb : bulk l ≤ 10000) (hT : Tabs w) :
    Calls Tryz.prog 18 #[v] w fun e w' => e = .returned (.tuple #[.int .i64 (unE l : Nat), .int .u8 (checkE l)]) ∧ Below w.heap.size w w' := by
  have cC := checkPieces_any l v w hv (short_mem (by omega)) hT
  obtain ⟨f, hf⟩ := hT.1.at
  have hG := hT.2.2
  have hu8 := hT.2.1
  have hV := hv
  obtain ⟨p, cap, rfl, hl, hc, hrow⟩ := hv
  unfold maxLen at hc
  clear hrow
  by_cases hE : checkE l = 0
  · have hval := all_valid hE
    have hlen := units_len f (valid_mem hE)
    have HU := Lib.hid (show unE l = nUnits l by unfold unE; rw [if_pos hE])
    have HE := Lib.hid hE
    rw [hE] at cC
    have cU := fun w => unitsIt_any p l.length cap w
    have hNs : (singleL l).length ≤ 10000 := Nat.le_trans (flat_len l) hb
    clear hE
    refine (callsIn_wide (n := 9)).1 ?_
    refine callsIn_of_wp_marks Tryz.func18 rfl trivial ?_ rfl
    simp only [Tryz.ntmps18, List.size_toArray, List.length_cons, List.length_nil, Nat.reduceAdd, Nat.reduceSub, Array.replicate_succ, Array.replicate_zero, List.push_toArray, List.append_toArray, List.nil_append, List.cons_append]
    gi_wp2_with (first
      | (refine ⟨trivial, ?_⟩; gi_at_call 44; (with_reducible refine (callsIn_wide.2 cC).mono ?_); rintro e w1 ⟨rfl, hb1⟩; have HB1 := Lib.hid hb1; clear hb1)
      | (refine ⟨trivial, ?_⟩; gi_at_call 52; (with_reducible refine (callsIn_wide.2 (cU _)).mono ?_); rintro e w3 ⟨rfl, rfl⟩))
    have hs1 := HB1.out.size
    have HN0 := Lib.hid (show CntAt w1.heap.size 0 ((w1.alloc (.cells #[.int .i64 0] 3)).alloc (.cells #[.slice p l.length cap] 22)) by unfold CntAt; rw [Below.heap_alloc _ _ _ (by simp)]; exact heap_alloc_new w1 _)
    have HX0 := Lib.hid (show ((w1.alloc (.cells #[.int .i64 0] 3)).alloc (.cells #[.slice p l.length cap] 22)).heap[w1.heap.size + 1]? = some (.cells #[.slice p l.length cap] 22 (0, 0)) by
      have := heap_alloc_new (w1.alloc (.cells #[.int .i64 0] 3)) (.cells #[.slice p l.length cap] 22)
      rwa [show (w1.alloc (.cells #[.int .i64 0] 3)).heap.size = w1.heap.size + 1 by simp] at this)
    have HB2 := Lib.hid (below_next (below_next HB1.out (below_box (w := w1) (.cells #[.int .i64 0] 3))) (below_box (w := w1.alloc (.cells #[.int .i64 0] 3)) (.cells #[.slice p l.length cap] 22)))
    have hs2 : ((w1.alloc (.cells #[.int .i64 0] 3)).alloc (.cells #[.slice p l.length cap] 22)).heap.size = w1.heap.size + 2 := by simp
    generalize (w1.alloc (.cells #[.int .i64 0] 3)).alloc (.cells #[.slice p l.length cap] 22) = Wr at *
    have cT := units_over f (9 - 1) (by omega) w.heap.size (w1.heap.size + 1) l p cap Wr (fun i hi h => text_pc (hval i hi) h) (fun i hi => by have := bulk_getD hi; omega) (fun i hi h => small_pc (hval i hi) h) (by omega) HX0.out (by omega) hG (Utf8Tabs_below hu8 HB2.out) (hf.below HB2.out (by omega)) (hV.below HB2.out)
    have hpl : (placed 0 (singleL l)).length ≤ 10000 := by rw [placed_len]; exact hNs
    refine range_over (gf := 85) (lb := #[.pointer (some ⟨w1.heap.size + 1, 0, none⟩)]) rfl (enters_of Tryz.func85 (by kernel_rfl) rfl)
      cT KpS.t (KpS.b (by omega)) (Below.refl _ _) (fun _ => rfl)
      (fun pre W' => CntAt w1.heap.size pre.length W' ∧ Below w.heap.size w W')
      (fun _ _ _ => False)
      (fun pre X Y row ⟨h1, h2⟩ hg hr => ⟨(hg.block _ (lt_of_block h1) (fun e => by have := (hr _ e.symm).1; omega)).trans h1, h2.grown hg h2.size (fun k e => by have := (hr k e).1; omega)⟩)
      (fun c pre X Y row h => h.elim)
      ⟨HN0.out, HB2.out⟩
      (fun y => { tmps := #[.slice p l.length cap, undef, .int .i64 0, .int .u8 0, .int .u8 0, .pointer (some ⟨w1.heap.size, 0, none⟩), .slice p l.length cap, .int .u8 0, .int .u8 0, .bool false, undef, .slice p l.length cap, .func (.func 85) #[] #[.pointer (some ⟨w1.heap.size + 1, 0, none⟩)], .int .i64 (y.1 : Int), unV y.2, undef, undef, undef], defers := [] }) ?assign ?body ?done ?stop
    case assign =>
      intro l1 y W K hK
      unfold encU
      gi_wp2
      simpa using hK
    case body =>
      rintro lp pre y W' ⟨h1, h2⟩ hlt
      have hc0 := (Lib.cell_of_heap h1 0).trans rfl
      have hf0 := Lib.frozen_of_heap h1 0
      have hq : IntKind.i64.wrap ((pre.length : Int) + 1) = ((pre.length + 1 : Nat) : Int) := by rw [IntKind.wrap_i64]; omega
      have HE1 := Lib.hid (show KeepsFrom Wr.heap.size W' (W'.setCell ⟨w1.heap.size, 0, none⟩ (.int .i64 ((pre.length + 1 : Nat) : Int))) ∧ KpS w.heap.size W' (W'.setCell ⟨w1.heap.size, 0, none⟩ (.int .i64 ((pre.length + 1 : Nat) : Int))) ∧ CntAt w1.heap.size (pre ++ [y]).length (W'.setCell ⟨w1.heap.size, 0, none⟩ (.int .i64 ((pre.length + 1 : Nat) : Int))) ∧ Below w.heap.size w (W'.setCell ⟨w1.heap.size, 0, none⟩ (.int .i64 ((pre.length + 1 : Nat) : Int))) from
        ⟨(KeepsOthers.setCell _ _ _).from _, ⟨(Below.refl _ W').setCell (p := ⟨w1.heap.size, 0, none⟩) hs1 _, KeepsWalks.setCell _ _ _, (Keeps.refl _ W').setCell h1 (not_calmI_int _ _) 0 _⟩, by rw [List.length_append, List.length_singleton]; exact h1.put _, h2.setCell (p := ⟨w1.heap.size, 0, none⟩) hs1 _⟩)
      clear h1 h2
      gi_wp2
      exact HE1.out
    case done =>
      rintro D ys Wd hD rfl ⟨h1, h2⟩ hK
      have HK := Lib.hid hK
      have H2 := Lib.hid h2
      have hc0 := (Lib.cell_of_heap h1 0).trans rfl
      rw [hlen, ← HU.out] at hc0
      obtain ⟨q, hq⟩ : ∃ q, unE l = q := ⟨_, rfl⟩
      rw [hq] at hc0
      have HQ := Lib.hid hq
      clear hK h1 h2 hlen HU hq
      gi_wp2
      exact leavesMarks (fun W' => Below w.heap.size w W') Wr.heap.size (fun W1 D1 h hD1 hk1 => h.trans (belowK_b (w := w) (Nat.le_refl _) W1 D1 _ _ (by omega) hk1 rfl rfl)) (fun W1 h => ⟨_, results_tmp2 rfl _ _ _, by rw [HE.out, HQ.out]; rfl, h⟩) [D] _ H2.out ((MarksAt.nil _ _).cons hD (by simp) HK.out)
    case stop =>
      rintro D c pre Wd hD hpre h
      exact h.elim
  · obtain ⟨Z, hZ⟩ : ∃ Z, checkE l = Z := ⟨_, rfl⟩
    have HX := Lib.hid (show unE l = 0 by unfold unE; rw [if_neg hE])
    rw [hZ] at cC hE
    have HZ := Lib.hid hZ
    have hz2 : (Z != 0) = true := by simpa using hE
    clear hZ hE
    go_enter Tryz.func18, Tryz.ntmps18
    go_wp2_with (go_at_call 44; (with_reducible refine cC.mono ?_); rintro e w1 ⟨rfl, hb1⟩; have HB1 := Lib.hid hb1; clear hb1)
    go_ret2
    exact ⟨by rw [HX.out, HZ.out]; rfl, HB1.out⟩
end Go.Proofs.YtnkpjkomokkhcaaGreatDoor
