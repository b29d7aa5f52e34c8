/- Names from the last one to the first: the library's iterator over a stack. Cut by the program, as data: a fold over the steps of a list; it is the specification's. No run of any program here. The memory of Cut, by the program: the places left, the finished parts, the joiner, what is open, each in a block of its own. -/
import Derived.Test.YtnkpjkomokkhcaaGreatDoorCuC
import Derived.Test.YtnkpjkomokkhcaaGreatDoorCuA
import Derived.Test.YtnkpjkomokkhcaaGreatDoorGlD
import Derived.OwnWalkIn
import Derived.OrdersIn
namespace Go.Proofs.YtnkpjkomokkhcaaGreatDoor
open Go Go.RowKit Go.Lib
set_option maxRecDepth 100000
attribute [local go_sem] Oper.semAt_some
def clipS (s : ByteArray) : ByteArray := if s.size ≤ 1000000 then s else ByteArray.empty
theorem clipS_of {s : ByteArray} (h : s.size ≤ 1000000) : clipS s = s := if_pos h
theorem clipS_small (s : ByteArray) : (clipS s).size ≤ 1000000 := by
  unfold clipS
  split
  · assumption
  · decide
def backTo (ns : List ByteArray) : Nat → List (Nat × ByteArray)
  | 0 => []
  | j + 1 => (j, ns.getD j ByteArray.empty) :: backTo ns j
theorem backTo_len (ns : List ByteArray) : ∀ j, (backTo ns j).length = j
  | 0 => rfl
  | j + 1 => by simp [backTo, backTo_len ns j]
theorem take_succ_getS (ns : List ByteArray) (j : Nat) (h : j < ns.length) : ns.take (j + 1) = ns.take j ++ [ns.getD j ByteArray.empty] := by
  rw [List.take_add_one, List.getD_eq_getElem?_getD, List.getElem?_eq_getElem h]
  rfl
theorem backTo_rev (ns : List ByteArray) : ∀ j, j ≤ ns.length → (backTo ns j).map Prod.snd = (ns.take j).reverse
  | 0, _ => rfl
  | j + 1, h => by
    rw [backTo, List.map_cons, backTo_rev ns j (by omega), take_succ_getS ns j (by omega), List.reverse_append]
    rfl
def encB (y : Nat × ByteArray) : Array Value := #[.int .i64 (y.1 : Int), .string (clipS y.2)]
/-- what the joiner's own rows are not, of blocks of cells -/
def calmK : Obj → Prop
  | .cells cs t fr => calmJ (.cells cs t fr)
  | _ => False
theorem calmK_J {o : Obj} (h : calmK o) : calmJ o := by
  unfold calmK at h
  split at h
  · exact h
  · exact h.elim
theorem not_calmK {o : Obj} (hc : o.isCells = false) : ¬ calmK o := by
  unfold calmK
  split
  · cases hc
  · exact id
theorem keepsK_b (W : World) (l : Nat) (o o' : Obj) (h : W.heap[l]? = some o) (hc : o.isCells = false) : Keeps calmK W (W.putObj l o') := Keeps.putObj h (not_calmK hc)
set_option maxHeartbeats 1000000 in
theorem back_any (p : Option Addr) (n c : Nat) (w : World) : Calls Tryz.prog 36 #[.slice p n c] w fun e w' => e = .returned (.func (.func 74) #[] #[.pointer (some ⟨w.heap.size, 0, none⟩)]) ∧ w' = w.alloc (.cells #[.slice p n c] 67) := by
  go_enter Tryz.func36, Tryz.ntmps36
  go_wp2
  go_ret
  exact ⟨rfl, rfl⟩
set_option maxHeartbeats 16000000 in
theorem back_stops (n : Nat) (hn : 1 ≤ n) (B Bn : Nat) (ns : List ByteArray) (v : Value) (w : World) (hsz : ∀ s ∈ ns, s.size ≤ 1000000) (hlen : ns.length ≤ 1000000)
    (hBx : w.heap[Bn]? = some (.cells #[v] 67 (0, 0))) (hv : w.ownsRow B 9 1 v ns.length (ns.map Value.string)) :
    SeqStopsK Fence.wide n Tryz.prog 74 #[.pointer (some ⟨Bn, 0, none⟩)] encB (Keeps calmK) (fun ys => ys = backTo ns ns.length) (fun pre => pre <+: backTo ns ns.length) ns.length w := by
  intro lb J Jx W hW hJ hJx hY h0
  have hBx := (hW.block _ (lt_of_block hBx)).trans hBx
  have hv := ownsRow_step hW hv
  obtain ⟨ao, cap, rfl⟩ : ∃ ao cap, v = .slice ao ns.length cap := by
    rcases hv.2 with ⟨rfl, h0⟩ | ⟨g, cap, cur, rfl, _⟩
    · exact ⟨none, 0, by rw [h0]⟩
    · exact ⟨_, _, rfl⟩
  have hwl : IntKind.i64.wrap ((ns.length : Int) - 1) = ((ns.length : Int) - 1) := by rw [IntKind.wrap_i64]; omega
  have c0 : W.cell? ⟨Bn, 0, none⟩ = some (.slice ao ns.length cap) := (Lib.cell_of_heap hBx 0).trans rfl
  have HY := Lib.hid hY
  have HBX := Lib.hid hBx
  have HV := Lib.hid hv
  have H0 := Lib.hid h0
  have HSZ := Lib.hid hsz
  have HL := Lib.hid (backTo_len ns ns.length)
  clear hY hBx hv h0 hsz hJ hJx
  obtain ⟨S, hS⟩ : ∃ S, backTo ns ns.length = S := ⟨_, rfl⟩
  have HS0 := Lib.hid (show S = [] ++ backTo ns ns.length from hS.symm)
  rw [hS] at HL
  simp only [hS]
  clear hS
  refine callsIn_of_wp Tryz.func74 rfl trivial ?_ rfl
  simp only [Tryz.ntmps74, List.size_toArray, List.length_cons, List.length_nil, Nat.reduceAdd, Nat.reduceSub, Array.replicate_succ, Array.replicate_zero, List.push_toArray, List.append_toArray, List.nil_append, List.cons_append]
  gi_wp2
  gi_loopw [3] (fun v3 wr => ∃ (j : Nat) (pre : List (Nat × ByteArray)), v3 = .int .i64 ((j : Int) - 1) ∧ j ≤ ns.length ∧ Hid (S = pre ++ backTo ns j) ∧ Hid (J pre wr) ∧ Hid (wr.heap[Bn]? = some (.cells #[.slice ao ns.length cap] 67 (0, 0))) ∧ Hid (wr.ownsRow B 9 1 (.slice ao ns.length cap) ns.length (ns.map Value.string))) (fun v3 _ => (RowKit.intOf v3 + 1).toNat)
  case atStart =>
    exact ⟨ns.length, [], by rw [← hwl], Nat.le_refl _, HS0.out, H0.out, HBX.out, HV.out⟩
  case round =>
    obtain ⟨j, pre, rfl, hj, HS, HJP, HB, HR⟩ := hrel
    have c1 : wr.cell? ⟨Bn, 0, none⟩ = some (.slice ao ns.length cap) := (Lib.cell_of_heap HB.out 0).trans rfl
    rcases j with _ | j
    · have HE := Lib.hid (show pre = S by rw [HS.out]; simp [backTo])
      have hlt : ¬ (0 : Int) ≤ ((0 : Nat) : Int) - 1 := by omega
      gi_wp2
      go_end0
      exact ⟨⟨_, rfl⟩, .inl (by rw [← HE.out]; exact HJP.out)⟩
    · have hjj : ((j + 1 : Nat) : Int) - 1 = (j : Int) := by omega
      have hix : (0 : Int) ≤ (j : Int) := by omega
      have hix2 : (j : Int) < (ns.length : Int) := by omega
      have hq : IntKind.i64.wrap ((j : Int) - 1) = (j : Int) - 1 := by rw [IntKind.wrap_i64]; omega
      have HS1 := Lib.hid (show S = pre ++ (j, ns.getD j ByteArray.empty) :: backTo ns j from HS.out)
      have hsj : (ns.getD j ByteArray.empty).size ≤ 1000000 := by
        rw [List.getD_eq_getElem?_getD, List.getElem?_eq_getElem (by omega)]
        exact HSZ.out _ (List.getElem_mem _)
      obtain ⟨g, rfl⟩ : ∃ g, ao = some ⟨g, 0, none⟩ := by
        rcases HR.out.2 with ⟨_, h0⟩ | ⟨g, _, _, hv, _⟩
        · omega
        · injection hv with hv; exact ⟨g, hv⟩
      have cr : wr.cell? ⟨g, j, none⟩ = some (.string (ns.getD j ByteArray.empty)) := by
        rw [← add_at]
        refine World.ownsRow.cells HR.out (g := g) rfl j _ ?_
        rw [List.getElem?_map, List.getD_eq_getElem?_getD, List.getElem?_eq_getElem (by omega)]
        rfl
      obtain ⟨fn, tmps, assign, body, hy, hR⟩ := HY.out pre (j, ns.getD j ByteArray.empty) wr HJP.out (by have h1 := HL.out; rw [HS1.out] at h1; simp at h1; omega)
      unfold encB at hy
      dsimp only at hy
      rw [clipS_of hsj] at hy
      have HP := Lib.hid (pre_of HS1.out)
      have HS2 := Lib.hid (show S = (pre ++ [(j, ns.getD j ByteArray.empty)]) ++ backTo ns j by rw [HS1.out, List.append_assoc]; rfl)
      clear HS HS1 hsj
      rw [hjj]
      generalize ns.getD j ByteArray.empty = s at *
      have c9 : Tryz.prog.cellsOf 9 = 1 := by kernel_rfl
      gi_wp2
      refine hR.mono ?_
      rintro e W3 (⟨rfl, hJ3, hk3⟩ | ⟨rfl, hJx3⟩)
      · have HJ3 := Lib.hid hJ3
        have HB3 := Lib.hid (hk3.same _ _ HB.out ⟨by decide, by decide, fun h => absurd h (by decide)⟩)
        have HR3 := Lib.hid (hk3.row HR.out (fun _ => ⟨by decide, by decide, fun h => absurd h (by decide)⟩))
        clear hJ3 hk3 hR
        gi_wp2
        go_roundw
        case rel => exact ⟨j, pre ++ [(j, s)], by rw [← hq], by omega, HS2.out, HJ3.out, HB3.out, HR3.out⟩
        case measure => simp [RowKit.intOf]
      · gi_wp2
        refine bodyPost_ret (results_none rfl _ _ _) rfl ?_
        exact ⟨⟨_, rfl⟩, .inr ⟨_, HP.out, hJx3⟩⟩
end Go.Proofs.YtnkpjkomokkhcaaGreatDoor
namespace Go.Proofs.YtnkpjkomokkhcaaGreatDoor
open Go Go.RowKit Go.Lib
set_option maxRecDepth 100000
structure Ps where
  out : List (List Pc)
  j : Js
  opn : List ByteArray
  rest : List Int
def jPut (j : Js) (xs : List Pc) : Js := xs.foldl (fun j x => js3 x j) j
def jDone (j : Js) : List Pc := j.o ++ flush j.t
def psHere (st : Ps) (y : Nat × Pc) : Bool := match st.rest with
  | [] => false
  | p :: _ => decide ((y.1 : Int) = p) && decide ((clip y.2).k ≠ 3)
def psPre (st : Ps) (y : Nat × Pc) : Ps := if psHere st y = true then ⟨st.out ++ [jDone (jPut st.j (closersP st.opn))], jPut js0 (openersP st.opn), st.opn, st.rest.tail⟩ else st
def psStep (st : Ps) (y : Nat × Pc) : Ps := ⟨(psPre st y).out, js3 (clip y.2) (psPre st y).j, cutOpn st.opn (clip y.2), (psPre st y).rest⟩
def ps0 (at' : List Int) : Ps := ⟨[], js0, [], at'⟩
def psRun (at' : List Int) (pre : List (Nat × Pc)) : Ps := pre.foldl psStep (ps0 at')
theorem psRun_app (at' : List Int) (pre : List (Nat × Pc)) (y : Nat × Pc) : psRun at' (pre ++ [y]) = psStep (psRun at' pre) y := by unfold psRun; rw [List.foldl_append]; rfl
/-! how large it all is, whatever the steps -/
theorem js3_o (x : Pc) (j : Js) : (js3 x j).o.length ≤ j.o.length + 2 := by
  unfold js3
  split
  · show j.o.length ≤ _; omega
  · show (j.o ++ flush j.t ++ [x]).length ≤ _
    have h : (flush j.t).length ≤ 1 := by unfold flush; split <;> simp
    simp only [List.length_append, List.length_singleton]
    omega
theorem js3_t (x : Pc) (j : Js) : (js3 x j).t.length ≤ j.t.length + x.s.size := by
  unfold js3
  split
  · show (j.t ++ x.s.data.toList).length ≤ _
    rw [List.length_append, bytes_len]
    exact Nat.le_refl _
  · show ([] : List UInt8).length ≤ _
    simp
theorem jPut_o (xs : List Pc) : ∀ j : Js, (jPut j xs).o.length ≤ j.o.length + 2 * xs.length := by
  induction xs with
  | nil => intro j; simp [jPut]
  | cons x xs ih =>
    intro j
    have h1 := ih (js3 x j)
    have h2 := js3_o x j
    show (jPut (js3 x j) xs).o.length ≤ _
    rw [List.length_cons]
    omega
theorem jPut_t (xs : List Pc) (h : ∀ x ∈ xs, x.k ≠ 1) : ∀ j : Js, (jPut j xs).t.length ≤ j.t.length := by
  induction xs with
  | nil => intro j; simp [jPut]
  | cons x xs ih =>
    intro j
    have h1 := ih (fun y hy => h y (List.mem_cons_of_mem _ hy)) (js3 x j)
    have h2 : (js3 x j).t.length ≤ j.t.length := by
      unfold js3
      rw [if_neg (h x (List.mem_cons_self ..))]
      show ([] : List UInt8).length ≤ _
      simp
    show (jPut (js3 x j) xs).t.length ≤ _
    omega
theorem closers_k (o : List ByteArray) : ∀ x ∈ closersP o, x.k ≠ 1 := by
  intro x hx
  unfold closersP at hx
  obtain ⟨s, _, rfl⟩ := List.mem_map.1 hx
  exact (by decide : ¬ (3 : Int) = 1)
theorem openers_k (o : List ByteArray) : ∀ x ∈ openersP o, x.k ≠ 1 := by
  intro x hx
  unfold openersP at hx
  obtain ⟨s, _, rfl⟩ := List.mem_map.1 hx
  exact (by decide : ¬ (2 : Int) = 1)
theorem opn_len (o : List ByteArray) (x : Pc) : (cutOpn o x).length ≤ o.length + 1 := by
  unfold cutOpn
  split
  · simp
  · split
    · rw [List.length_dropLast]; omega
    · omega
theorem opn_small {o : List ByteArray} {x : Pc} (ho : ∀ s ∈ o, s.size ≤ 16) (hx : x.s.size ≤ 16) : ∀ s ∈ cutOpn o x, s.size ≤ 16 := by
  intro s hs
  unfold cutOpn at hs
  split at hs
  · rcases List.mem_append.1 hs with h | h
    · exact ho s h
    · rw [List.mem_singleton.1 h]; exact hx
  · split at hs
    · exact ho s (List.dropLast_subset _ hs)
    · exact ho s hs
/-- bounds, by the number of steps -/
structure Few (n N : Nat) (st : Ps) : Prop where
  o : st.j.o.length ≤ 3 * n
  t : st.j.t.length ≤ 16 * n
  op : st.opn.length ≤ n
  nm : ∀ s ∈ st.opn, s.size ≤ 16
  out : st.out.length + st.rest.length = N
theorem Few.step {n N : Nat} {st : Ps} (h : Few n N st) (y : Nat × Pc) : Few (n + 1) N (psStep st y) := by
  have hc := clip_small y.2
  have h1 := js3_o (clip y.2) (psPre st y).j
  have h2 := js3_t (clip y.2) (psPre st y).j
  have hp : (psPre st y).j.o.length ≤ 3 * n + 1 ∧ (psPre st y).j.t.length ≤ 16 * n ∧ (psPre st y).out.length + (psPre st y).rest.length = N := by
    unfold psPre
    split
    · rename_i hh
      refine ⟨?_, ?_, ?_⟩
      · show (jPut js0 (openersP st.opn)).o.length ≤ _
        have he : jPut js0 (openersP st.opn) = ⟨openersP st.opn, [], nil, false⟩ := by
          generalize st.opn = o
          have gen : ∀ (o : List ByteArray) (a : List Pc), jPut ⟨a, [], nil, false⟩ (openersP o) = ⟨a ++ openersP o, [], nil, false⟩ := by
            intro o
            induction o with
            | nil => intro a; simp [jPut, openersP]
            | cons s o ih =>
              intro a
              show jPut (js3 ⟨2, s, true⟩ ⟨a, [], nil, false⟩) (openersP o) = _
              have : js3 ⟨2, s, true⟩ ⟨a, [], nil, false⟩ = ⟨a ++ [⟨2, s, true⟩], [], nil, false⟩ := by
                unfold js3
                rw [if_neg (by decide : ¬ (2 : Int) = 1)]
                simp [flush]
              rw [this, ih]
              simp [openersP]
          exact (gen o []).trans (by simp)
        rw [he]
        show (openersP st.opn).length ≤ _
        unfold openersP
        rw [List.length_map]
        have := h.op
        omega
      · show (jPut js0 (openersP st.opn)).t.length ≤ _
        have := jPut_t _ (openers_k st.opn) js0
        have : js0.t.length = 0 := rfl
        omega
      · show (st.out ++ [_]).length + st.rest.tail.length = N
        have ho := h.out
        unfold psHere at hh
        cases hr : st.rest with
        | nil => rw [hr] at hh; cases hh
        | cons p r =>
          rw [hr] at ho
          simp at ho ⊢
          omega
    · exact ⟨by have := h.o; omega, h.t, h.out⟩
  refine ⟨?_, ?_, ?_, opn_small h.nm hc, hp.2.2⟩
  · show (js3 (clip y.2) (psPre st y).j).o.length ≤ _
    omega
  · show (js3 (clip y.2) (psPre st y).j).t.length ≤ _
    omega
  · show (cutOpn st.opn (clip y.2)).length ≤ _
    have := opn_len st.opn (clip y.2)
    have := h.op
    omega
theorem few_run (at' : List Int) (pre : List (Nat × Pc)) : Few pre.length at'.length (psRun at' pre) := by
  have gen : ∀ (pre : List (Nat × Pc)) (n : Nat) (st : Ps), Few n at'.length st → Few (n + pre.length) at'.length (pre.foldl psStep st) := by
    intro pre
    induction pre with
    | nil => intro n st h; exact h
    | cons y pre ih =>
      intro n st h
      have := ih (n + 1) (psStep st y) (h.step y)
      rw [List.foldl_cons, List.length_cons, show n + (pre.length + 1) = n + 1 + pre.length by omega]
      exact this
  have := gen pre 0 (ps0 at') ⟨by simp [ps0, js0], by simp [ps0, js0], by simp [ps0], fun s hs => by simp [ps0] at hs, by simp [ps0]⟩
  rw [Nat.zero_add] at this
  exact this
/-! it is what the specification makes -/
theorem JG.put {o : List Pc} {j : Js} {x : Pc} (h : JG o j) (hx : fineP x) : JG (addP o x) (js3 x j) := by
  obtain ⟨h1, h2, _, _⟩ := js3_add h.2 hx
  exact ⟨by rw [h.1]; exact h1, h2⟩
theorem JG.puts (xs : List Pc) (hk : ∀ x ∈ xs, x.k ≠ 1) : ∀ {o : List Pc} {j : Js}, JG o j → JG (o ++ xs) (jPut j xs) := by
  induction xs with
  | nil => intro o j h; rw [List.append_nil]; exact h
  | cons x xs ih =>
    intro o j h
    have hx := hk x (List.mem_cons_self ..)
    have h1 := h.put (x := x) (fun e => absurd e hx)
    have h2 := ih (fun y hy => hk y (List.mem_cons_of_mem _ hy)) h1
    have e : addP o x = o ++ [x] := by rw [h.1]; exact flush_other hx
    rw [e, List.append_assoc] at h2
    exact h2
theorem JG.nil : JG [] js0 := ⟨rfl, fun y hy => by simp [js0] at hy⟩
/-- both states are one -/
structure Twin (at' : List Int) (u : Nat) (cs : Cs) (ps : Ps) : Prop where
  out : cs.out = ps.out
  part : JG cs.part ps.j
  opn : cs.opn = ps.opn
  rest : ps.rest = at'.drop cs.out.length
  unit : cs.unit = u
theorem here_eq {at' : List Int} {u : Nat} {cs : Cs} {ps : Ps} {x : Pc} (h : Twin at' u cs ps) (hx : x.s.size ≤ 16) : cutHere at' cs x = psHere ps (u, x) := by
  unfold cutHere psHere
  rw [h.rest]
  by_cases hl : cs.out.length < at'.length
  · rw [drop_ints hl]
    simp [hl, clip_of hx, h.unit]
  · rw [List.drop_of_length_le (by omega)]
    simp [hl]
theorem Twin.step {at' : List Int} {u : Nat} {cs : Cs} {ps : Ps} {x : Pc} (h : Twin at' u cs ps) (hx : x.s.size ≤ 16) (hf : fineP x) : Twin at' (cutUn u x) (cutStepP at' cs x) (psStep ps (u, x)) := by
  have he := here_eq h hx
  have hc : clip x = x := clip_of hx
  unfold cutStepP psStep cutPre psPre
  rw [he]
  cases hh : psHere ps (u, x)
  · simp only [Bool.false_eq_true, if_false]
    refine ⟨h.out, ?_, ?_, h.rest, ?_⟩
    · show JG (addP cs.part x) (js3 (clip x) ps.j)
      rw [hc]; exact h.part.put hf
    · show cutOpn cs.opn x = cutOpn ps.opn (clip x)
      rw [hc, h.opn]
    · show cutUn cs.unit x = cutUn u x
      rw [h.unit]
  · simp only [if_true]
    have hp := h.part.puts (closersP cs.opn) (closers_k _)
    refine ⟨?_, ?_, ?_, ?_, ?_⟩
    · show cs.out ++ [cs.part ++ closersP cs.opn] = ps.out ++ [jDone (jPut ps.j (closersP ps.opn))]
      rw [hp.1, h.out, h.opn]
      rfl
    · show JG (addP (openersP cs.opn) x) (js3 (clip x) (jPut js0 (openersP ps.opn)))
      rw [hc, h.opn]
      have := (JG.nil.puts (openersP ps.opn) (openers_k _)).put hf
      rwa [List.nil_append] at this
    · show cutOpn cs.opn x = cutOpn ps.opn (clip x)
      rw [hc, h.opn]
    · show ps.rest.tail = at'.drop (cs.out ++ [_]).length
      rw [h.rest, List.length_append, List.length_singleton, List.tail_drop]
    · show cutUn cs.unit x = cutUn u x
      rw [h.unit]
theorem twin_run {at' : List Int} : ∀ (S : List Pc) (u : Nat) (cs : Cs) (ps : Ps), Twin at' u cs ps → (∀ x ∈ S, x.s.size ≤ 16 ∧ fineP x) → ∃ u', Twin at' u' (S.foldl (cutStepP at') cs) ((placed u S).foldl psStep ps)
  | [], u, cs, ps, h, _ => ⟨u, h⟩
  | x :: S, u, cs, ps, h, hx => by
    have h1 := hx x (List.mem_cons_self ..)
    exact twin_run S _ _ _ (h.step h1.1 h1.2) (fun y hy => hx y (List.mem_cons_of_mem _ hy))
theorem cut_twin {at' : List Int} {S : List Pc} (hx : ∀ x ∈ S, x.s.size ≤ 16 ∧ fineP x) :
    cutPs at' S = (psRun at' (placed 0 S)).out ++ [jDone (psRun at' (placed 0 S)).j] := by
  obtain ⟨u, h⟩ := twin_run (at' := at') S 0 cs0 (ps0 at') ⟨rfl, JG.nil, rfl, rfl, rfl⟩ hx
  unfold cutPs cutRunP
  rw [List.take_length]
  show (S.foldl (cutStepP at') cs0).out ++ [(S.foldl (cutStepP at') cs0).part] = _
  rw [h.out, h.part.1]
  rfl
theorem enc_some (r : Int) : 0 < (Utf8.encode r).size := by
  unfold Utf8.encode
  dsimp only
  split <;> (try split) <;> (try split) <;> (try split) <;> simp [ByteArray.size]
theorem single_fine {l : List Pc} (h : ∀ x ∈ l, pieceE x = 0) : ∀ x ∈ singleL l, x.s.size ≤ 16 ∧ fineP x := by
  intro x hx
  unfold singleL at hx
  obtain ⟨y, hy, hxy⟩ := List.mem_flatMap.1 hx
  unfold unP at hxy
  split at hxy
  · obtain ⟨r, _, rfl⟩ := List.mem_map.1 hxy
    have h4 := enc_small (r : Int)
    have h5 := enc_some (r : Int)
    unfold runP
    generalize Utf8.encode (r : Int) = b at *
    exact ⟨by dsimp only; omega, fun _ => ⟨rfl, h5⟩⟩
  · rename_i hk
    rw [List.mem_singleton] at hxy
    subst hxy
    exact ⟨small_pc (h x hy) hk, fun e => absurd e hk⟩
end Go.Proofs.YtnkpjkomokkhcaaGreatDoor
namespace Go.Proofs.YtnkpjkomokkhcaaGreatDoor
open Go Go.RowKit Go.Lib
set_option maxRecDepth 100000
/-- an append of a row of the call's own, as one step of a drawn region inside a fence -/
theorem stepIn_append_own {F : Fence} {n : Nat} {P : Program} {w : World} {ops : Array Oper} {o : Oper} {a : Act} {K : Act → World → Prop} {Q : Exit → Act → World → Prop} {E : Prop}
    (hg : o.guard = none) (s x : Operand) (t : TypeId) (hop : o.op = Op.call { callee := Callee.builtin Builtin.append, args := #[s, x], argTypes := #[t, t] })
    (base : Nat) (e : TypeId) (i : TypeInfo) (z : Value) (size bytes : Nat) (h1 : P.underlying t = some (.slice e)) (h2 : P.info? e = some i) (h3 : i.zero = some z) (h4 : i.size = size) (h5 : i.bytes = bytes) (h6 : z.cells.size = size) (h7 : 0 < size)
    (v : Value) (k : Nat) (xs : List Value) (hs : a.eval s = v) (hown : w.ownsRow base e size v k xs) (ad : Addr) (m c : Nat) (news : List Value) (hx : a.eval x = .slice (some ad) m c) (hn : news.length = m * size)
    (hc : ∀ j u, news[j]? = some u → w.cell? (ad.add j) = some u) (h1c : ∀ u ∈ news, u.oneCell' = true) (b1 : k + m ≤ maxLen) (b2 : (k + m) * bytes ≤ 140737488355328) (b3 : base ≤ w.heap.size)
    (hK : ∀ v' w', w'.ownsRow base e size v' (k + m) (xs ++ news) → w.grownBy w' v.ownBlock → K (a.put o.dst v') w') :
    if Region.wanted o (yielded ops a.tmps) = true then Oper.wpIn F n P o a w K Q else E := by
  rw [if_pos (by simp [Region.wanted, hg])]
  obtain ⟨v', w', hrun, r1, r2, _⟩ := run_append_own (P := P) w base t o.type e i z size bytes h1 h2 h3 h4 h5 h6 h7 v k xs hown ad m c news hn hc h1c b1 b2 b3
  unfold Oper.wpIn
  refine ⟨by simp [Oper.about, hop, resolve, Target.leads, Sem.run_pure], ?_⟩
  rw [Oper.semAt_plain F _ _ (by rw [hop]; intro c hc'; cases hc')]
  simp [execOp, hop, resolve, invoke, builtin, hs, hx, hrun, Result.andThen]
  exact hK v' w' r1 r2
theorem info_pcs : (Tryz.prog.info? 22).map (fun i => (i.zero, i.size, i.bytes)) = some (some (.slice none 0 0), 1, 24) := by kernel_rfl
def atF (r : List Int) : Nat → Nat → Value := fun i _ => .int .i64 (r.getD i 0)
structure PgMem (B b3 b8 b9 b10 : Nat) (us : List Value) (Bp : Nat) (out : List (List Pc)) (j : Js) (opn : List ByteArray) (rest : List Int) (w : World) : Prop where
  at3 : ∃ v, w.heap[b3]? = some (.cells #[v] 23 (0, 0)) ∧ SliceAt B w v rest.length 1 (atF rest)
  prt : ∃ v, w.heap[b8]? = some (.cells #[v] 24 (0, 0)) ∧ w.ownsRow B 22 1 v out.length us
  len : us.length = out.length
  old : ∀ i, i < out.length → OwnP B (us.getD i nilV1) (out.getD i []) w ∧ ∀ b, (us.getD i nilV1).ownBlock = some b → b < Bp
  jn : JoinC Bp b9 j.o j.t w
  stk : StackAt B b10 opn w
  le : B ≤ Bp
  lt : Bp ≤ w.heap.size
  l3 : B ≤ b3
  l8 : B ≤ b8
  l9 : B ≤ b9
/-- what a step of the call keeps of all else -/
structure Acc (B : Nat) (W W' : World) : Prop where
  bel : Below B W W'
  non : ∀ (k : Nat) (o : Obj), W.heap[k]? = some o → o.isCells = false → W'.heap[k]? = some o
  calm : Keeps calmI W W'
theorem Acc.refl (B : Nat) (W : World) : Acc B W W := ⟨Below.refl _ _, fun _ _ h _ => h, Keeps.refl _ _⟩
theorem Acc.trans {B : Nat} {X Y Z : World} (h : Acc B X Y) (k : Acc B Y Z) : Acc B X Z := ⟨h.bel.trans k.bel, fun i o h1 h2 => k.non i o (h.non i o h1 h2) h2, h.calm.trans k.calm⟩
theorem Acc.kp {B : Nat} {W W' : World} (h : Acc B W W') : KpS B W W' := ⟨h.bel, ⟨h.bel.size, fun k o hk ho => h.non k o hk (Obj.not_cells_of_walk ho)⟩, h.calm⟩
theorem Acc.from {B b : Nat} {W W' : World} (h : Acc B W W') : KeepsFrom b W W' := ⟨h.bel.size, fun k o _ hk ho => h.non k o hk ho⟩
theorem calm_non {o : Obj} (h : o.isCells = false) : calmJ o ∧ calmS o := by cases o <;> first | (exact ⟨trivial, trivial⟩) | (cases h)
theorem Acc.ofJ {B : Nat} {W W' : World} (hb : Below B W W') (h : Keeps calmJ W W') : Acc B W W' := ⟨hb, fun k o hk ho => h.same k o hk (calm_non ho).1, h.mono fun _ => calmI_J⟩
theorem Acc.ofS {B : Nat} {W W' : World} (hb : Below B W W') (h : Keeps calmS W W') : Acc B W W' := ⟨hb, fun k o hk ho => h.same k o hk (calm_non ho).2, h.mono fun _ => calmI_S⟩
theorem Acc.step {B : Nat} {W W' : World} (hB : B ≤ W.heap.size) (hb : Below W.heap.size W W') : Acc B W W' := ⟨hb.mono hB, fun k _ hk _ => (hb.block k (lt_of_block hk)).trans hk, Keeps.below hb⟩
/-- what the box of places is not -/
def calmZ : Obj → Prop
  | .cells _ t _ => t ≠ 23 ∧ True
  | _ => True
/-- what the row of parts and its box are not -/
def calmQ : Obj → Prop
  | .cells _ t _ => t ≠ 22 ∧ t ≠ 24
  | _ => True
theorem calmI_Q {o : Obj} (h : calmI o) : calmQ o := by
  unfold calmI at h
  split at h
  · rcases h with ⟨rfl, _⟩ | rfl
    · exact ⟨by decide, by decide⟩
    · exact ⟨by decide, by decide⟩
  · exact h.elim
theorem calmQ_non {o : Obj} (h : o.isCells = false) : calmQ o := by cases o <;> first | trivial | (cases h)
theorem Acc.ofQ {B : Nat} {W W' : World} (hb : Below B W W') (h : Keeps calmQ W W') : Acc B W W' := ⟨hb, fun k o hk ho => h.same k o hk (calmQ_non ho), h.mono fun _ => calmI_Q⟩
theorem Acc.set {B : Nat} {W : World} {b : Nat} {cs : Array Value} {t : TypeId} {fr : Nat × Nat} (hb : W.heap[b]? = some (.cells cs t fr)) (hB : B ≤ b) (hC : ¬ calmI (.cells cs t fr)) (i : Nat) (u : Value) : Acc B W (W.setCell ⟨b, i, none⟩ u) :=
  ⟨(Below.refl B W).setCell (p := ⟨b, i, none⟩) hB u, fun k o hk ho => (Below.heap_setCell _ _ _ _ (by rintro rfl; rw [hk] at hb; cases hb; cases ho)).trans hk, (Keeps.refl _ _).setCell hb hC i u⟩
theorem Acc.turned {B base : Nat} {W X Y : World} {row : Option Nat} (h : Acc B W X) (hB : B ≤ base) (hW : W.heap.size ≤ base) (hX : B ≤ X.heap.size) (hg : X.grownBy Y row) (hr : ∀ r, row = some r → base ≤ r ∧ ∃ o : Obj, X.heap[r]? = some o ∧ o.isCells = false) : Acc B W Y := by
  have old : ∀ (k : Nat) (o : Obj), W.heap[k]? = some o → X.heap[k]? = some o → Y.heap[k]? = some o := fun k o hk hx => (hg.block k (lt_of_block hx) (fun e => by have h1 := (hr k e.symm).1; have h2 := lt_of_block hk; omega)).trans hx
  exact ⟨h.bel.grown hg hX (fun k e => Nat.le_trans hB (hr k e).1), fun k o hk ho => old k o hk (h.non k o hk ho), ⟨Nat.le_trans h.bel.size hg.size, fun k o hk hc => old k o hk (h.calm.same k o hk hc)⟩⟩
theorem not_calmI_of {cs : Array Value} {t : TypeId} {fr : Nat × Nat} (h1 : t ≠ 52) (h2 : t ≠ 149) : ¬ calmI (.cells cs t fr) := by
  rintro (⟨h, _⟩ | h)
  · exact h1 h
  · exact h2 h
theorem StackAt.keeps {C : Obj → Prop} {B b : Nat} {op : List ByteArray} {w w' : World} (h : StackAt B b op w) (hk : Keeps C w w') (h1 : ∀ cs, C (.cells cs 67 (0, 0))) (h2 : ∀ cs, C (.cells cs 9 (0, 0))) : StackAt B b op w' := by
  obtain ⟨h0, v, hb, hr, hn⟩ := h
  exact ⟨h0, v, hk.same _ _ hb (h1 _), hk.row hr h2, hn⟩
theorem JoinC.keeps {C : Obj → Prop} {B b : Nat} {o : List Pc} {t : List UInt8} {w w' : World} (h : JoinC B b o t w) (hk : Keeps C w w') (h1 : ∀ cs, C (.cells cs 66 (0, 0))) (h2 : ∀ cs, C (.cells cs 52 (0, 0))) (h3 : ∀ cs, C (.cells cs 5 (0, 0))) : JoinC B b o t w' := by
  obtain ⟨h0, vo, vt, hb, ho, ht, hn⟩ := h
  exact ⟨h0, vo, vt, hk.same _ _ hb (h1 _), hk.row ho h2, hk.row ht h3, hn⟩
theorem SliceAt.turned {B : Nat} {w w' : World} {v : Value} {n sz : Nat} {f : Nat → Nat → Value} {row : Option Nat} (h : SliceAt B w v n sz f) (hg : w.grownBy w' row) (hr : ∀ r, row = some r → ∃ o : Obj, w.heap[r]? = some o ∧ o.isCells = false) : SliceAt B w' v n sz f := by
  obtain ⟨p, cap, e, h1, h2, h3⟩ := h
  refine ⟨p, cap, e, h1, h2, fun hn => ?_⟩
  obtain ⟨A, e2, hA, hc⟩ := h3 hn
  exact ⟨A, e2, hA, fun i j hi hj => cell_kept (hc i j hi hj) hg hr⟩
theorem PtsAt.turned {w w' : World} {v : Value} {ps : List (List Pc)} {row : Option Nat} (h : PtsAt w v ps) (hg : w.grownBy w' row) (hr : ∀ r, row = some r → ∃ o : Obj, w.heap[r]? = some o ∧ o.isCells = false) : PtsAt w' v ps := by
  obtain ⟨us, h1, h2, h3⟩ := h
  exact ⟨us, h1, (h2.turned hg hr).mono hg.size, fun i hi => (SliceAt.turned (h3 i hi) hg hr).mono hg.size⟩
section
variable {B b3 b8 b9 b10 Bp : Nat} {us : List Value} {out : List (List Pc)} {j j' : Js} {opn opn' : List ByteArray} {rest : List Int} {w w' : World}
theorem PgMem.join (h : PgMem B b3 b8 b9 b10 us Bp out j opn rest w) (hj : JoinC Bp b9 j'.o j'.t w') (hk : KeptBut Bp b9 w w') (hc : Keeps calmJ w w') : PgMem B b3 b8 b9 b10 us Bp out j' opn rest w' := by
  have hb : Below B w w' := hk.below h.le h.l9
  obtain ⟨v3, h31, h32⟩ := h.at3
  obtain ⟨v8, h81, h82⟩ := h.prt
  obtain ⟨_, vo, vt, hjb, _⟩ := h.jn
  refine ⟨⟨v3, hc.same _ _ h31 ⟨by decide, by decide, fun e => absurd e (by decide)⟩, h32.below hb⟩, ⟨v8, hc.same _ _ h81 ⟨by decide, by decide, fun e => absurd e (by decide)⟩, hc.row h82 fun _ => ⟨by decide, by decide, fun e => absurd e (by decide)⟩⟩, h.len, fun i hi => ⟨?_, (h.old i hi).2⟩, hj, h.stk.keeps hc (fun _ => ⟨by decide, by decide, fun e => absurd e (by decide)⟩) (fun _ => ⟨by decide, by decide, fun e => absurd e (by decide)⟩), h.le, Nat.le_trans h.lt hk.size, h.l3, h.l8, h.l9⟩
  have h1 := (h.old i hi).1
  refine ⟨h1.1, ?_⟩
  rcases h1.2 with hn | ⟨g, cap, cur, hv, hbg, hg, r⟩
  · exact .inl hn
  · refine .inr ⟨g, cap, cur, hv, hbg, (hk.block g ((h.old i hi).2 g (by rw [hv]; rfl)) ?_).trans hg, r⟩
    rintro rfl
    exact own_other h1 hjb (by decide) (by rw [hv]; rfl)
theorem PgMem.keeps {C : Obj → Prop} (h : PgMem B b3 b8 b9 b10 us Bp out j opn rest w) (hb : Below B w w') (hk : Keeps C w w') (hC : ∀ cs t, C (.cells cs t (0, 0))) : PgMem B b3 b8 b9 b10 us Bp out j opn rest w' := by
  obtain ⟨v3, h31, h32⟩ := h.at3
  obtain ⟨v8, h81, h82⟩ := h.prt
  exact ⟨⟨v3, hk.same _ _ h31 (hC _ _), h32.below hb⟩, ⟨v8, hk.same _ _ h81 (hC _ _), hk.row h82 fun _ => hC _ _⟩, h.len, fun i hi => ⟨hk.row (h.old i hi).1 fun _ => hC _ _, (h.old i hi).2⟩, h.jn.keeps hk (fun _ => hC _ _) (fun _ => hC _ _) (fun _ => hC _ _), h.stk.keeps hk (fun _ => hC _ _) (fun _ => hC _ _), h.le, Nat.le_trans h.lt hk.size, h.l3, h.l8, h.l9⟩
theorem PgMem.step (h : PgMem B b3 b8 b9 b10 us Bp out j opn rest w) (hb : Below w.heap.size w w') : PgMem B b3 b8 b9 b10 us Bp out j opn rest w' :=
  h.keeps (hb.mono (Nat.le_trans h.le h.lt)) (Keeps.below (C := fun _ => True) hb) fun _ _ => trivial
theorem PgMem.turned {row : Option Nat} {base : Nat} (h : PgMem B b3 b8 b9 b10 us Bp out j opn rest w) (hB : B ≤ base) (hg : w.grownBy w' row) (hr : ∀ r, row = some r → base ≤ r ∧ ∃ o : Obj, w.heap[r]? = some o ∧ o.isCells = false) : PgMem B b3 b8 b9 b10 us Bp out j opn rest w' :=
  h.keeps (C := fun o => o.isCells = true) ((Below.refl B w).grown hg (Nat.le_trans h.le h.lt) fun k e => Nat.le_trans hB (hr k e).1) ⟨hg.size, fun k o hk ho => (hg.block k (lt_of_block hk) (fun e => by obtain ⟨_, q, hq, hqc⟩ := hr k e.symm; rw [hk] at hq; cases hq; rw [ho] at hqc; cases hqc)).trans hk⟩ fun _ _ => rfl
theorem PgMem.stack (h : PgMem B b3 b8 b9 b10 us Bp out j opn rest w) (hs : StackAt B b10 opn' w') (hb : Below B w w') (hk : Keeps calmS w w') : PgMem B b3 b8 b9 b10 us Bp out j opn' rest w' := by
  obtain ⟨v3, h31, h32⟩ := h.at3
  obtain ⟨v8, h81, h82⟩ := h.prt
  exact ⟨⟨v3, hk.same _ _ h31 ⟨by decide, by decide⟩, h32.below hb⟩, ⟨v8, hk.same _ _ h81 ⟨by decide, by decide⟩, hk.row h82 fun _ => ⟨by decide, by decide⟩⟩, h.len, fun i hi => ⟨hk.row (h.old i hi).1 fun _ => ⟨by decide, by decide⟩, (h.old i hi).2⟩, h.jn.keeps hk (fun _ => ⟨by decide, by decide⟩) (fun _ => ⟨by decide, by decide⟩) (fun _ => ⟨by decide, by decide⟩), hs, h.le, Nat.le_trans h.lt hk.size, h.l3, h.l8, h.l9⟩
theorem heap_set {w : World} {b i : Nat} {cs : Array Value} {t : TypeId} {fr : Nat × Nat} (h : w.heap[b]? = some (.cells cs t fr)) (u : Value) : (w.setCell ⟨b, i, none⟩ u).heap[b]? = some (.cells (cs.setIfInBounds i u) t fr) := by
  simp [World.setCell, Array.getElem?_modify, h]
theorem setCell_size (w : World) (p : Addr) (u : Value) : (w.setCell p u).heap.size = w.heap.size := by simp [World.setCell]
/-- a part is finished: its row is put behind the others, the joiner is begun anew -/
theorem PgMem.part {u v' : Value} {P : List Pc} {w2 : World} (h : PgMem B b3 b8 b9 b10 us Bp out j opn rest w) (hu : OwnP Bp u P w) (hk : Keeps calmQ w w2) (hb : Below B w w2)
    (h8 : ∃ cs, w2.heap[b8]? = some (.cells cs 24 (0, 0)) ∧ cs.size = 1) (hr : w2.ownsRow B 22 1 v' (out.length + 1) (us ++ [u])) :
    PgMem B b3 b8 b9 b10 (us ++ [u]) w2.heap.size (out ++ [P]) js0 opn rest (((w2.setCell ⟨b8, 0, none⟩ v').setCell ⟨b9, 0, none⟩ (.slice none 0 0)).setCell ⟨b9, 1, none⟩ (.slice none 0 0)) := by
  obtain ⟨v3, h31, h32⟩ := h.at3
  obtain ⟨_, vo, vt, hjb, hjo, hjt, _⟩ := h.jn
  obtain ⟨cs, h8, h8s⟩ := h8
  have h9 : w2.heap[b9]? = some (.cells #[vo, vt] 66 (0, 0)) := hk.same _ _ hjb ⟨by decide, by decide⟩
  have h3 : w2.heap[b3]? = some (.cells #[v3] 23 (0, 0)) := hk.same _ _ h31 ⟨by decide, by decide⟩
  have n89 : b8 ≠ b9 := by rintro rfl; rw [h8] at h9; cases h9
  have n39 : b3 ≠ b9 := by rintro rfl; rw [h3] at h9; cases h9
  have n38 : b3 ≠ b8 := by rintro rfl; rw [h3] at h8; cases h8
  have a1 : ∀ k, k ≠ b8 → k ≠ b9 → (((w2.setCell ⟨b8, 0, none⟩ v').setCell ⟨b9, 0, none⟩ (.slice none 0 0)).setCell ⟨b9, 1, none⟩ (.slice none 0 0)).heap[k]? = w2.heap[k]? := fun k k1 k2 => by
    rw [Below.heap_setCell _ _ _ _ k2, Below.heap_setCell _ _ _ _ k2, Below.heap_setCell _ _ _ _ k1]
  have hkeep : Keeps (fun o => match o with | .cells _ t _ => t ≠ 24 ∧ t ≠ 66 | _ => True) w2 (((w2.setCell ⟨b8, 0, none⟩ v').setCell ⟨b9, 0, none⟩ (.slice none 0 0)).setCell ⟨b9, 1, none⟩ (.slice none 0 0)) := by
    refine ⟨by simp, fun k o ho hc => (a1 k ?_ ?_).trans ho⟩
    · rintro rfl; rw [h8] at ho; cases ho; exact hc.1 rfl
    · rintro rfl; rw [h9] at ho; cases ho; exact hc.2 rfl
  have hbl : Below B w (((w2.setCell ⟨b8, 0, none⟩ v').setCell ⟨b9, 0, none⟩ (.slice none 0 0)).setCell ⟨b9, 1, none⟩ (.slice none 0 0)) := ((hb.setCell (p := ⟨b8, 0, none⟩) h.l8 _).setCell (p := ⟨b9, 0, none⟩) h.l9 _).setCell (p := ⟨b9, 1, none⟩) h.l9 _
  have hle : Bp ≤ w2.heap.size := Nat.le_trans h.lt hk.size
  have hu2 := hk.row hu (fun _ => ⟨by decide, by decide⟩)
  refine ⟨⟨v3, (a1 b3 n38 n39).trans h3, h32.below hbl⟩, ⟨v', ?_, ?_⟩, by simp [h.len], fun i hi => ?_, ?_, (h.stk.keeps hk (fun _ => ⟨by decide, by decide⟩) (fun _ => ⟨by decide, by decide⟩)).keeps hkeep (fun _ => ⟨by decide, by decide⟩) (fun _ => ⟨by decide, by decide⟩), Nat.le_trans h.le hle, by simp, h.l3, h.l8, h.l9⟩
  · rw [Below.heap_setCell _ _ _ _ n89, Below.heap_setCell _ _ _ _ n89, heap_set h8]
    have : cs = #[cs[0]'(by omega)] := by
      apply Array.ext
      · simp [h8s]
      · intro i h1 h2
        have : i = 0 := by omega
        subst this
        simp
    rw [this]
    rfl
  · rw [List.length_append, List.length_singleton]
    exact hkeep.row hr (fun _ => ⟨by decide, by decide⟩)
  · rw [List.length_append, List.length_singleton] at hi
    by_cases hio : i < out.length
    · rw [getD_left us _ _ (by rw [h.len]; exact hio), getD_left out _ _ hio]
      refine ⟨hkeep.row (hk.row (h.old i hio).1 (fun _ => ⟨by decide, by decide⟩)) (fun _ => ⟨by decide, by decide⟩), fun b hb' => ?_⟩
      have := (h.old i hio).2 b hb'
      omega
    · obtain rfl : i = out.length := by omega
      have e1 : (us ++ [u]).getD out.length nilV1 = u := by rw [List.getD_eq_getElem?_getD, List.getElem?_append_right (by rw [h.len]; exact Nat.le_refl _), h.len]; simp
      have e2 : (out ++ [P]).getD out.length [] = P := by rw [List.getD_eq_getElem?_getD, List.getElem?_append_right (Nat.le_refl _)]; simp
      rw [e1, e2]
      exact ⟨hkeep.row (own_lower hu2 h.le) (fun _ => ⟨by decide, by decide⟩), fun b hb' => (World.ownsRow.lt hu2 b hb').2⟩
  · refine ⟨Nat.zero_le _, .slice none 0 0, .slice none 0 0, ?_, OwnP.nil _ _, World.ownsRow_nil _ _ _ _, fun _ => rfl⟩
    have h92 : (w2.setCell ⟨b8, 0, none⟩ v').heap[b9]? = some (.cells #[vo, vt] 66 (0, 0)) := (Below.heap_setCell _ _ _ _ (fun e => n89 e.symm)).trans h9
    rw [heap_set (heap_set h92 _)]
    rfl
/-- the first place is done with -/
theorem PgMem.tail {v' : Value} (h : PgMem B b3 b8 b9 b10 us Bp out j opn rest w) (hv : SliceAt B w v' rest.tail.length 1 (atF rest.tail)) : PgMem B b3 b8 b9 b10 us Bp out j opn rest.tail (w.setCell ⟨b3, 0, none⟩ v') := by
  obtain ⟨v3, h31, h32⟩ := h.at3
  obtain ⟨v8, h81, h82⟩ := h.prt
  have hbl : Below B w (w.setCell ⟨b3, 0, none⟩ v') := (Below.refl B w).setCell (p := ⟨b3, 0, none⟩) h.l3 _
  have hkeep : Keeps calmZ w (w.setCell ⟨b3, 0, none⟩ v') :=
    ⟨by simp, fun k o ho hc => (Below.heap_setCell _ _ _ _ (by rintro rfl; rw [h31] at ho; cases ho; exact hc.1 rfl)).trans ho⟩
  exact ⟨⟨v', by rw [heap_set h31]; rfl, hv.below hbl⟩, ⟨v8, hkeep.same _ _ h81 (⟨by decide, trivial⟩), hkeep.row h82 fun _ => ⟨by decide, trivial⟩⟩, h.len, fun i hi => ⟨hkeep.row (h.old i hi).1 fun _ => ⟨by decide, trivial⟩, (h.old i hi).2⟩, h.jn.keeps hkeep (fun _ => ⟨by decide, trivial⟩) (fun _ => ⟨by decide, trivial⟩) (fun _ => ⟨by decide, trivial⟩), h.stk.keeps hkeep (fun _ => ⟨by decide, trivial⟩) (fun _ => ⟨by decide, trivial⟩), h.le, by rw [setCell_size]; exact h.lt, h.l3, h.l8, h.l9⟩
/-- behind 'parts = append(parts, part.done())' -/
def PartEnd (B b3 b8 b9 b10 : Nat) (us : List Value) (Bp : Nat) (out : List (List Pc)) (P : List Pc) (opn : List ByteArray) (rest : List Int) (W1 w : World) : Prop :=
  ∃ (wp w2 : World) (u v' : Value) (j : Js), PgMem B b3 b8 b9 b10 us Bp out j opn rest wp ∧ OwnP Bp u P wp ∧ Keeps calmQ wp w2 ∧ Below B wp w2 ∧ (∃ cs, w2.heap[b8]? = some (.cells cs 24 (0, 0)) ∧ cs.size = 1) ∧
    w2.ownsRow B 22 1 v' (out.length + 1) (us ++ [u]) ∧ w = w2.setCell ⟨b8, 0, none⟩ v' ∧ Acc B W1 w
theorem PartEnd.box9 {P : List Pc} {W1 : World} (h : PartEnd B b3 b8 b9 b10 us Bp out P opn rest W1 w) : ∃ vo vt, w.heap[b9]? = some (.cells #[vo, vt] 66 (0, 0)) := by
  obtain ⟨wp, w2, u, v', j, h1, _, hk, _, ⟨cs, h8, _⟩, _, rfl, _⟩ := h
  obtain ⟨_, vo, vt, hjb, _⟩ := h1.jn
  have h9 := hk.same _ _ hjb ⟨by decide, by decide⟩
  exact ⟨vo, vt, (Below.heap_setCell _ _ _ _ (by rintro rfl; rw [h8] at h9; cases h9)).trans h9⟩
theorem PartEnd.reset {P : List Pc} {W1 : World} (h : PartEnd B b3 b8 b9 b10 us Bp out P opn rest W1 w) :
    (∃ us' Bp', PgMem B b3 b8 b9 b10 us' Bp' (out ++ [P]) js0 opn rest ((w.setCell ⟨b9, 0, none⟩ (.slice none 0 0)).setCell ⟨b9, 1, none⟩ (.slice none 0 0))) ∧ Acc B W1 ((w.setCell ⟨b9, 0, none⟩ (.slice none 0 0)).setCell ⟨b9, 1, none⟩ (.slice none 0 0)) := by
  obtain ⟨vo, vt, h9⟩ := h.box9
  obtain ⟨wp, w2, u, v', j, h1, hu, hk, hb, h8, hr, rfl, ha⟩ := h
  exact ⟨⟨_, _, h1.part hu hk hb h8 hr⟩, (ha.trans (Acc.set h9 h1.l9 (not_calmI_of (by decide) (by decide)) 0 _)).trans (Acc.set (heap_set h9 _) h1.l9 (not_calmI_of (by decide) (by decide)) 1 _)⟩
theorem PartEnd.parts {P : List Pc} {W1 : World} (h : PartEnd B b3 b8 b9 b10 us Bp out P opn rest W1 w) :
    ∃ v', w.heap[b8]? = some (.cells #[v'] 24 (0, 0)) ∧ PtsAt w v' (out ++ [P]) ∧ Acc B W1 w := by
  have h0 := h
  obtain ⟨vo, vt, h9⟩ := h.box9
  obtain ⟨_, hA⟩ := h.reset
  obtain ⟨wp, w2, u, v', j, h1, hu, hk, hb, h8, hr, rfl, ha⟩ := h
  have hp := h1.part hu hk hb h8 hr
  obtain ⟨v8, e8, r8⟩ := hp.prt
  have n89 : b8 ≠ b9 := by rintro rfl; obtain ⟨cs, h8', _⟩ := h8; rw [heap_set h8'] at h9; injection h9 with h9; injection h9 with _ ht _; exact absurd ht (by decide)
  have e8' : (w2.setCell ⟨b8, 0, none⟩ v').heap[b8]? = some (.cells #[v8] 24 (0, 0)) := by
    rw [Below.heap_setCell _ _ _ _ n89, Below.heap_setCell _ _ _ _ n89] at e8
    exact e8
  have hv : v8 = v' := by
    obtain ⟨cs, h8', hs⟩ := h8
    rw [heap_set h8'] at e8'
    have : cs.setIfInBounds 0 v' = #[v8] := by injection e8' with e; injection e
    have h2 : (cs.setIfInBounds 0 v')[0]? = some v' := by simp [hs]
    rw [this] at h2
    simpa using h2
  subst hv
  -- the joiner alone lies otherwise
  have hkeep : ∀ {sz n : Nat} {e : TypeId} {x : Value} {xs : List Value}, ((((w2.setCell ⟨b8, 0, none⟩ v8).setCell ⟨b9, 0, none⟩ (.slice none 0 0)).setCell ⟨b9, 1, none⟩ (.slice none 0 0))).ownsRow B e sz x n xs → e ≠ 66 → (w2.setCell ⟨b8, 0, none⟩ v8).ownsRow B e sz x n xs := by
    intro sz n e x xs hrow hne
    refine ⟨hrow.1, ?_⟩
    rcases hrow.2 with hn | ⟨g, cap, cur, hx, hg, hh, r⟩
    · exact .inl hn
    · refine .inr ⟨g, cap, cur, hx, hg, ?_, r⟩
      have hgb : g ≠ b9 := by
        rintro rfl
        rw [heap_set (heap_set h9 _)] at hh
        injection hh with hh
        injection hh with _ ht _
        exact hne ht.symm
      rwa [Below.heap_setCell _ _ _ _ hgb, Below.heap_setCell _ _ _ _ hgb] at hh
  refine ⟨v8, e8', ⟨us ++ [u], by simpa using hp.len, row_slice (hkeep r8 (by decide)), fun i hi => (OwnP.at (hkeep (hp.old i hi).1 (by decide)))⟩, ha⟩
theorem addr_tail (A : Addr) (i : Nat) : ({ block := A.block, off := A.off + 1 } : Addr).add (i * 1 + 0) = A.add ((i + 1) * 1 + 0) := by
  unfold Addr.add
  by_cases h : i = 0
  · subst h; simp
  · have h1 : ¬ (i * 1 + 0 = 0) := by omega
    have h2 : ¬ ((i + 1) * 1 + 0 = 0) := by omega
    simp [h]
    omega
theorem PgMem.cutTail {pl : Int} {r : List Int} {A : Addr} {q : Nat} (h : PgMem B b3 b8 b9 b10 us Bp out j opn (pl :: r) w) (hq : r.length + 1 ≤ q) (hm : q ≤ maxLen) (hA : A.block < B)
    (hc : ∀ i k, i < r.length + 1 → k < 1 → w.cell? (A.add (i * 1 + k)) = some (atF (pl :: r) i k)) :
    PgMem B b3 b8 b9 b10 us Bp out j opn r (w.setCell ⟨b3, 0, none⟩ (.slice (some { block := A.block, off := A.off + 1 }) r.length (q - 1))) := by
  refine PgMem.tail (rest := pl :: r) h ⟨_, _, rfl, by simp; omega, by omega, fun _ => ⟨_, rfl, hA, fun i k hi hk => ?_⟩⟩
  obtain rfl : k = 0 := by omega
  rw [addr_tail]
  have := hc (i + 1) 0 (by simp at hi; omega) (by omega)
  rw [this]
  simp [atF]
theorem PgMem.cutTail0 {pl : Int} {A : Addr} (h : PgMem B b3 b8 b9 b10 us Bp out j opn [pl] w) :
    PgMem B b3 b8 b9 b10 us Bp out j opn [] (w.setCell ⟨b3, 0, none⟩ (.slice (some A) 0 0)) :=
  PgMem.tail (rest := [pl]) h ⟨_, _, rfl, by simp, by unfold maxLen; omega, fun h0 => absurd h0 (by simp)⟩
theorem PgMem.stack_form (h : PgMem B b3 b8 b9 b10 us Bp out j opn rest w) : ∃ ao cap, w.heap[b10]? = some (.cells #[.slice ao opn.length cap] 67 (0, 0)) ∧ w.ownsRow B 9 1 (.slice ao opn.length cap) opn.length (opn.map Value.string) := by
  obtain ⟨_, v, h1, h2, _⟩ := h.stk
  rcases h2.2 with ⟨rfl, h0⟩ | ⟨g, cap, cur, rfl, _⟩
  · exact ⟨none, 0, by rw [h0]; exact h1, by rw [h0]; rw [h0] at h2; exact h2⟩
  · exact ⟨_, _, h1, h2⟩
theorem jPut_app (j : Js) (xs : List Pc) (x : Pc) : jPut j (xs ++ [x]) = js3 x (jPut j xs) := by unfold jPut; rw [List.foldl_append]; rfl
def clP (y : Nat × ByteArray) : Pc := ⟨3, clipS y.2, true⟩
theorem back_closers {o : List ByteArray} (h : ∀ s ∈ o, s.size ≤ 16) : (backTo o o.length).map clP = closersP o := by
  have e := backTo_rev o o.length (Nat.le_refl _)
  rw [List.take_length] at e
  unfold closersP
  rw [← e, List.map_map]
  apply List.map_congr_left
  intro y hy
  have : y.2 ∈ o := by
    have h1 : y.2 ∈ (backTo o o.length).map Prod.snd := List.mem_map_of_mem hy
    rw [e] at h1
    exact List.mem_reverse.1 h1
  show (⟨3, clipS y.2, true⟩ : Pc) = ⟨3, y.2, true⟩
  rw [clipS_of (by have := h _ this; omega)]
end
end Go.Proofs.YtnkpjkomokkhcaaGreatDoor
