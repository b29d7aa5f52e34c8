/- Cut as data: the places, the parts, what is open. No run of any program here. whether places are cuts, by the program. The memory of Cut: the finished parts, the part under way, what is open. -/
import Derived.Test.YtnkpjkomokkhcaaGreatDoorGlC
namespace Go.Proofs.YtnkpjkomokkhcaaGreatDoor
open Go Go.RowKit Go.Lib
set_option maxRecDepth 100000
/-- places strictly increasing, above the last one and below n -/
def cutsB (n : Int) : Int → List Int → Bool
  | _, [] => true
  | last, p :: r => if p ≤ last ∨ n ≤ p then false else cutsB n p r
def closersP (o : List ByteArray) : List Pc := o.reverse.map fun s => ⟨3, s, true⟩
def openersP (o : List ByteArray) : List Pc := o.map fun s => ⟨2, s, true⟩
structure Cs where
  out : List (List Pc)
  part : List Pc
  opn : List ByteArray
  unit : Nat
def cutHere (at' : List Int) (st : Cs) (x : Pc) : Bool := decide (st.out.length < at'.length) && (decide ((st.unit : Int) = at'.getD st.out.length 0) && decide (x.k ≠ 3))
def cutOpn (o : List ByteArray) (x : Pc) : List ByteArray := if x.k = 2 then o ++ [x.s] else if x.k = 3 then o.dropLast else o
def cutUn (u : Nat) (x : Pc) : Nat := if x.k = 1 ∨ x.k = 5 then u + 1 else u
def cutPre (at' : List Int) (st : Cs) (x : Pc) : Cs := if cutHere at' st x = true then ⟨st.out ++ [st.part ++ closersP st.opn], openersP st.opn, st.opn, st.unit⟩ else st
def cutStepP (at' : List Int) (st : Cs) (x : Pc) : Cs := ⟨(cutPre at' st x).out, addP (cutPre at' st x).part x, cutOpn st.opn x, cutUn st.unit x⟩
def cs0 : Cs := ⟨[], [], [], 0⟩
def cutRunP (at' : List Int) (S : List Pc) (k : Nat) : Cs := (S.take k).foldl (cutStepP at') cs0
theorem cutRunP_succ {at' : List Int} {S : List Pc} {k : Nat} (h : k < S.length) : cutRunP at' S (k + 1) = cutStepP at' (cutRunP at' S k) (S.getD k nil) := by
  unfold cutRunP
  rw [take_succ_getD S k h, List.foldl_append]
  rfl
def cutPs (at' : List Int) (S : List Pc) : List (List Pc) := (cutRunP at' S S.length).out ++ [(cutRunP at' S S.length).part]
def longAny (ps : List (List Pc)) : Bool := ps.any fun p => decide (512 < p.length)
def ctE (l : List Pc) (at' : List Int) : Int := if checkE l ≠ 0 then checkE l else if cutsB (nUnits l) 0 at' = false then 1 else if longAny (cutPs at' (singleL l)) = true then 3 else 0
def ctR (l : List Pc) (at' : List Int) : List (List Pc) := if ctE l at' = 0 then cutPs at' (singleL l) else []
/-! what is open -/
def okS : List ByteArray → List Pc → Prop
  | _, [] => True
  | op, x :: S => (x.k = 3 → op ≠ []) ∧ op.length ≤ 16 ∧ okS (cutOpn op x) S
theorem okS_app {A B : List Pc} : ∀ {op : List ByteArray}, okS op A → okS (A.foldl cutOpn op) B → okS op (A ++ B) := by
  induction A with
  | nil => intro op _ h; exact h
  | cons x A ih => intro op h1 h2; exact ⟨h1.1, h1.2.1, ih h1.2.2 h2⟩
theorem okS_get : ∀ {S : List Pc} {op : List ByteArray}, okS op S → ∀ j, j < S.length → ((S.getD j nil).k = 3 → (S.take j).foldl cutOpn op ≠ []) ∧ ((S.take j).foldl cutOpn op).length ≤ 16
  | [], _, _, j, hj => absurd hj (by simp)
  | x :: S, op, h, 0, _ => ⟨h.1, h.2.1⟩
  | x :: S, op, h, j + 1, hj => okS_get h.2.2 j (by simpa using hj)
theorem run_opn (rs : List Nat) : ∀ op : List ByteArray, (rs.map runP).foldl cutOpn op = op := by
  induction rs with
  | nil => intro op; rfl
  | cons r rs ih => intro op; simp only [List.map_cons, List.foldl_cons]; exact ih op
theorem run_ok (rs : List Nat) : ∀ op : List ByteArray, op.length ≤ 16 → okS op (rs.map runP) := by
  induction rs with
  | nil => intro op _; trivial
  | cons r rs ih => intro op h; exact ⟨fun e => by exact absurd (show (1 : Int) = 3 from e) (by decide), h, ih op h⟩
theorem un_ok {op op2 : List ByteArray} {x : Pc} (h : folE op x = .ok op2) (hl : op.length ≤ 16) : okS op (unP x) ∧ (unP x).foldl cutOpn op = op2 ∧ op2.length ≤ 16 := by
  unfold folE at h
  unfold unP
  by_cases h1 : x.k = 1
  · rw [if_pos h1]
    rw [if_neg (by omega), if_neg (by omega)] at h
    cases h
    exact ⟨run_ok _ _ hl, run_opn _ _, hl⟩
  · rw [if_neg h1]
    by_cases h2 : x.k = 2
    · rw [if_pos h2] at h
      split at h
      · cases h
      · cases h
        refine ⟨⟨fun e => by omega, hl, trivial⟩, ?_, ?_⟩
        · show cutOpn op x = _
          unfold cutOpn; rw [if_pos h2]
        · rw [List.length_append, List.length_singleton]; omega
    · rw [if_neg h2] at h
      by_cases h3 : x.k = 3
      · rw [if_pos h3] at h
        split at h
        · rename_i hlast
          cases h
          refine ⟨⟨fun _ e => (by rw [e] at hlast; cases hlast), hl, trivial⟩, ?_, ?_⟩
          · show cutOpn op x = _
            unfold cutOpn; rw [if_neg h2, if_pos h3]
          · rw [List.length_dropLast]; omega
        · cases h
      · rw [if_neg h3] at h
        cases h
        refine ⟨⟨fun e => absurd e h3, hl, trivial⟩, ?_, hl⟩
        show cutOpn op x = _
        unfold cutOpn; rw [if_neg h2, if_neg h3]
theorem run_okS {l : List Pc} : ∀ {n : Nat} {op : List ByteArray}, n ≤ l.length → runC l n = .ok op → okS [] (singleTo l n) ∧ (singleTo l n).foldl cutOpn [] = op ∧ op.length ≤ 16
  | 0, op, _, h => by
    have : op = [] := by simpa [runC] using h.symm
    subst this
    exact ⟨trivial, rfl, by simp⟩
  | n + 1, op, hn, h => by
    simp only [runC] at h
    cases e : runC l n with
    | error z => rw [e] at h; cases h
    | ok o =>
      rw [e] at h
      have h' : (if hereE l n ≠ 0 then Except.error (hereE l n) else folE o (l.getD n nil)) = Except.ok op := h
      split at h'
      · cases h'
      · obtain ⟨i1, i2, i3⟩ := run_okS (by omega) e
        obtain ⟨j1, j2, j3⟩ := un_ok h' i3
        rw [singleTo_succ (by omega)]
        refine ⟨okS_app i1 (by rw [i2]; exact j1), ?_, j3⟩
        rw [List.foldl_append, i2, j2]
theorem ok_single {l : List Pc} (h : checkE l = 0) : okS [] (singleL l) := by
  obtain ⟨op, hr⟩ := check_run h
  have := (run_okS (Nat.le_refl _) hr).1
  rwa [singleTo_all] at this
theorem run_opnP (at' : List Int) (S : List Pc) : ∀ k, k ≤ S.length → (cutRunP at' S k).opn = (S.take k).foldl cutOpn [] := by
  intro k
  induction k with
  | zero => intro _; rfl
  | succ k ih =>
    intro hk
    rw [cutRunP_succ (by omega), take_succ_getD S k (by omega), List.foldl_append, ← ih (by omega)]
    rfl
/-! how large it all becomes -/
def obk (o : List ByteArray) : Nat := (o.map fun s => s.size + 1).sum
theorem obk_app (a b : List ByteArray) : obk (a ++ b) = obk a + obk b := by unfold obk; rw [List.map_append, List.sum_append]
theorem obk_drop : ∀ o : List ByteArray, obk o.dropLast ≤ obk o := by
  intro o
  rcases List.eq_nil_or_concat o with rfl | ⟨a, y, rfl⟩
  · simp
  · rw [List.concat_eq_append, List.dropLast_concat, obk_app]; omega
theorem obk_opn (o : List ByteArray) (x : Pc) : obk (cutOpn o x) ≤ obk o + x.s.size + 1 := by
  unfold cutOpn
  split
  · rw [obk_app]; unfold obk; simp; omega
  · split
    · have := obk_drop o; omega
    · omega
theorem bulk_openers (o : List ByteArray) : bulk (openersP o) = obk o := by
  induction o with
  | nil => rfl
  | cons s o ih =>
    show bulk (⟨2, s, true⟩ :: openersP o) = _
    rw [bulk_cons, ih]
    unfold obk
    simp
    omega
theorem obk_rev (o : List ByteArray) : obk o.reverse = obk o := by
  induction o with
  | nil => rfl
  | cons s o ih => rw [List.reverse_cons, obk_app, ih]; unfold obk; simp; omega
theorem bulk_map3 (o : List ByteArray) : bulk (o.map fun s => (⟨3, s, true⟩ : Pc)) = obk o := by
  induction o with
  | nil => rfl
  | cons s o ih =>
    rw [List.map_cons, bulk_cons, ih]
    unfold obk
    simp
    omega
theorem bulk_closers (o : List ByteArray) : bulk (closersP o) = obk o := by unfold closersP; rw [bulk_map3, obk_rev]
theorem addP_bulk (o : List Pc) (x : Pc) : bulk (addP o x) ≤ bulk o + x.s.size + 1 := gAdd_bulk 0 0 o x |> fun h => by
  unfold gAdd at h
  rw [if_neg (by unfold innerB; simp)] at h
  exact h
theorem cut_small {at' : List Int} {S : List Pc} : ∀ k, k ≤ S.length → bulk (cutRunP at' S k).part ≤ 2 * bulk (S.take k) ∧ obk (cutRunP at' S k).opn ≤ bulk (S.take k) := by
  intro k
  induction k with
  | zero => intro _; exact ⟨by simp [cutRunP, cs0, bulk], by simp [cutRunP, cs0, obk]⟩
  | succ k ih =>
    intro hk
    obtain ⟨h1, h2⟩ := ih (by omega)
    rw [cutRunP_succ (by omega), take_succ_getD S k (by omega), bulk_app2, bulk_cons]
    generalize cutRunP at' S k = st at *
    generalize S.getD k nil = x at *
    have hx := addP_bulk (cutPre at' st x).part x
    have ho := obk_opn st.opn x
    have hp : bulk (cutPre at' st x).part ≤ 2 * bulk (S.take k) := by
      unfold cutPre
      split
      · show bulk (openersP st.opn) ≤ _
        rw [bulk_openers]; omega
      · exact h1
    constructor
    · show bulk (addP (cutPre at' st x).part x) ≤ _
      omega
    · show obk (cutOpn st.opn x) ≤ _
      omega
theorem run_bulk (rs : List Nat) : bulk (rs.map runP) ≤ 5 * rs.length := by
  induction rs with
  | nil => simp [bulk]
  | cons r rs ih =>
    rw [List.map_cons, bulk_cons, List.length_cons]
    have h : (runP r).s.size ≤ 4 := by unfold runP; dsimp only; exact enc_small _
    omega
theorem un_bulk (x : Pc) : bulk (unP x) ≤ 5 * (x.s.size + 1) := by
  unfold unP
  split
  · have h1 := run_bulk (runesOf x.s)
    have h2 : (runesOf x.s).length ≤ x.s.size := runesG_length _ _
    omega
  · rw [bulk_cons]; simp [bulk]; omega
theorem single_bulk : ∀ l : List Pc, bulk (singleL l) ≤ 5 * bulk l
  | [] => by simp [singleL, bulk]
  | x :: l => by
    show bulk (unP x ++ singleL l) ≤ _
    rw [bulk_app2, bulk_cons]
    have h1 := single_bulk l
    have h2 := un_bulk x
    omega
theorem cut_outs {at' : List Int} {S : List Pc} : ∀ k, k ≤ S.length → (cutRunP at' S k).out.length ≤ at'.length := by
  intro k
  induction k with
  | zero => intro _; simp [cutRunP, cs0]
  | succ k ih =>
    intro hk
    have h1 := ih (by omega)
    rw [cutRunP_succ (by omega)]
    generalize cutRunP at' S k = st at *
    show (cutPre at' st (S.getD k nil)).out.length ≤ _
    unfold cutPre
    split
    · rename_i hc
      unfold cutHere at hc
      simp only [Bool.and_eq_true, decide_eq_true_eq] at hc
      show (st.out ++ [_]).length ≤ _
      rw [List.length_append, List.length_singleton]
      omega
    · exact h1
end Go.Proofs.YtnkpjkomokkhcaaGreatDoor
namespace Go.Proofs.YtnkpjkomokkhcaaGreatDoor
open Go Go.RowKit Go.Lib
set_option maxRecDepth 100000
/-- whole numbers in memory -/
def IntsAt (w : World) (v : Value) (l : List Int) : Prop := SliceAt w.heap.size w v l.length 1 (fun i _ => .int .i64 (l.getD i 0))
theorem IntsAt.step {w w' : World} {v : Value} {l : List Int} (hb : Below w.heap.size w w') (h : IntsAt w v l) : IntsAt w' v l := (SliceAt.below hb h).mono hb.size
theorem IntsAt.cell {w wr : World} {p : Option Addr} {cap : Nat} {l : List Int} (h : IntsAt w (.slice p l.length cap) l) (hb : Below w.heap.size w wr) {i : Nat} (hi : i < l.length) : ∃ A, p = some A ∧ wr.cell? (A.add i) = some (.int .i64 (l.getD i 0)) := by
  obtain ⟨p', cap', e, _, _, h3⟩ := h
  obtain ⟨rfl, rfl⟩ : p = p' ∧ cap = cap' := by simpa using e
  obtain ⟨A, rfl, hA, hc⟩ := h3 (by omega)
  refine ⟨A, rfl, ?_⟩
  have := hc i 0 hi (by omega)
  rw [show i * 1 + 0 = i by omega] at this
  rw [hb.cell (by rw [add_block]; exact hA), this]
theorem IntsAt.form {w : World} {v : Value} {l : List Int} (h : IntsAt w v l) : ∃ p cap, v = .slice p l.length cap ∧ l.length ≤ cap ∧ cap ≤ maxLen := by
  obtain ⟨p, cap, e, h1, h2, _⟩ := h
  exact ⟨p, cap, e, h1, h2⟩
theorem drop_ints {l : List Int} {k : Nat} (h : k < l.length) : l.drop k = l.getD k 0 :: l.drop (k + 1) := by
  rw [List.getD_eq_getElem?_getD, List.getElem?_eq_getElem h, Option.getD_some]
  exact List.drop_eq_getElem_cons h
theorem cuts_no {n last : Int} {l : List Int} {k : Nat} (h : k < l.length) (hc : l.getD k 0 ≤ last ∨ n ≤ l.getD k 0) : cutsB n last (l.drop k) = false := by
  rw [drop_ints h]; unfold cutsB; rw [if_pos hc]
theorem cuts_go {n last : Int} {l : List Int} {k : Nat} (h : k < l.length) (h1 : ¬ l.getD k 0 ≤ last) (h2 : ¬ n ≤ l.getD k 0) : cutsB n last (l.drop k) = cutsB n (l.getD k 0) (l.drop (k + 1)) := by
  rw [drop_ints h]
  show (if _ ∨ _ then _ else _) = _
  rw [if_neg (by intro h; rcases h with h | h <;> contradiction)]
theorem cuts_end (n last : Int) (l : List Int) : cutsB n last (l.drop l.length) = true := by rw [List.drop_length]; rfl
set_option maxHeartbeats 4000000 in
theorem areCuts_any (l : List Int) (n : Int) (v : Value) (w : World) (hv : IntsAt w v l) :
    Calls Tryz.prog 34 #[v, .int .i64 n] w fun e w' => e = .returned (.bool (cutsB n 0 l)) ∧ w' = w := by
  have HV := Lib.hid hv
  obtain ⟨p, cap, rfl, hl, hc⟩ := hv.form
  unfold maxLen at hc
  clear hv
  obtain ⟨R, hR⟩ : ∃ R, R = cutsB n 0 l := ⟨_, rfl⟩
  rw [← hR]
  go_enter Tryz.func34, Tryz.ntmps34
  go_wp2
  go_loop [5, 10] (fun la i => ∃ (k : Nat) (last : Int), k ≤ l.length ∧ i = .int .i64 k ∧ la = .int .i64 last ∧ Hid (R = cutsB n last (l.drop k))) (fun _ i => l.length - (RowKit.intOf i).toNat)
  case atStart => exact ⟨0, 0, Nat.zero_le _, rfl, rfl, hR⟩
  case round =>
    clear hR
    obtain ⟨k, last, hk, rfl, rfl, HC⟩ := hrel
    by_cases hlt : k < l.length
    · obtain ⟨A, rfl, x0⟩ := HV.out.cell (Below.refl _ _) hlt
      have hki : (k : Int) < (l.length : Int) := by omega
      have hk0 : (0 : Int) ≤ (k : Int) := by omega
      by_cases h1 : l.getD k 0 ≤ last
      · have HR := Lib.hid (HC.out.trans (cuts_no hlt (.inl h1)))
        generalize l.getD k 0 = x at x0 h1
        go_wp2
        go_ret
        exact ⟨by rw [HR.out]; rfl, rfl⟩
      · by_cases h2 : n ≤ l.getD k 0
        · have HR := Lib.hid (HC.out.trans (cuts_no hlt (.inr h2)))
          generalize l.getD k 0 = x at x0 h1 h2
          go_wp2
          go_ret
          exact ⟨by rw [HR.out]; rfl, rfl⟩
        · have HR := Lib.hid (HC.out.trans (cuts_go hlt h1 h2))
          generalize l.getD k 0 = x at x0 h1 h2 HR
          go_wp2
          go_round
          case rel => exact ⟨k + 1, x, hlt, by go_num, rfl, HR.out⟩
          case measure => simp [RowKit.intOf] <;> omega
    · obtain rfl : k = l.length := by omega
      have hki : ¬ (l.length : Int) < (l.length : Int) := by omega
      have HR := Lib.hid (HC.out.trans (cuts_end n last l))
      go_wp2
      go_ret
      exact ⟨by rw [HR.out]; rfl, rfl⟩
end Go.Proofs.YtnkpjkomokkhcaaGreatDoor
namespace Go.Proofs.YtnkpjkomokkhcaaGreatDoor
open Go Go.RowKit Go.Lib
set_option maxRecDepth 100000
/-- all that was is as it was, but for one block -/
structure Besd (w w' : World) (blk : Option Nat) : Prop where
  size : w.heap.size ≤ w'.heap.size
  heap : ∀ b, b < w.heap.size → blk ≠ some b → w'.heap[b]? = w.heap[b]?
theorem own_besd {w w' : World} {blk : Option Nat} {B sz n : Nat} {e : TypeId} {v : Value} {xs : List Value} (h : w.ownsRow B e sz v n xs) (hb : Besd w w' blk) (hne : ∀ b, v.ownBlock = some b → blk ≠ some b) : w'.ownsRow B e sz v n xs := by
  refine ⟨h.1, ?_⟩
  rcases h.2 with hn | ⟨g, cap, cur, hv, hbg, hg, rest⟩
  · exact .inl hn
  · exact .inr ⟨g, cap, cur, hv, hbg, (hb.heap g (lt_of_block hg) (hne g (by rw [hv]; rfl))).trans hg, rest⟩
theorem Besd.grown {w w' : World} {o : Obj} {blk : Option Nat} (h : (w.alloc o).grownBy w' blk) : Besd w w' blk := by
  refine ⟨Nat.le_trans (by simp) h.size, fun b hb hne => ?_⟩
  rw [h.block b (by simp; omega) (fun e => hne e.symm), Below.heap_alloc _ _ _ hb]
theorem Besd.beside {w w' : World} {v : Value} {B : Nat} (h : BesideOwn w w' v) (hb : Below B w w') : Besd w w' v.ownBlock :=
  ⟨hb.size, fun b hl hne => h b hl hne⟩
theorem Besd.below {w w' : World} (hb : Below w.heap.size w w') : Besd w w' none := ⟨hb.size, fun b hl _ => hb.block b hl⟩
theorem own_ne {w : World} {B B' sz sz' n n' : Nat} {e e' : TypeId} {v u : Value} {xs ys : List Value} (h : w.ownsRow B e sz v n xs) (h' : w.ownsRow B' e' sz' u n' ys) (hne : e ≠ e') : ∀ b, v.ownBlock = some b → u.ownBlock ≠ some b := by
  intro b hv hu
  rcases h.2 with ⟨rfl, _⟩ | ⟨g, cap, cur, rfl, _, hg, _⟩
  · simp [Value.ownBlock] at hv
  · simp only [Value.ownBlock, Option.some.injEq] at hv
    subst hv
    exact own_cells h' hg (fun e => hne e.symm) hu
theorem own_lower {w : World} {B B' sz n : Nat} {e : TypeId} {v : Value} {xs : List Value} (h : w.ownsRow B e sz v n xs) (hB : B' ≤ B) : w.ownsRow B' e sz v n xs := by
  refine ⟨h.1, ?_⟩
  rcases h.2 with hn | ⟨g, cap, cur, hv, hbg, rest⟩
  · exact .inl hn
  · exact .inr ⟨g, cap, cur, hv, Nat.le_trans hB hbg, rest⟩
theorem row_slice {w : World} {B n : Nat} {e : TypeId} {v : Value} {us : List Value} (h : w.ownsRow B e 1 v n us) : SliceAt w.heap.size w v n 1 (ptF us) := by
  have h0 := h
  have hul : us.length = n := by have := h.1; omega
  rcases h.2 with ⟨rfl, h0'⟩ | ⟨g, cap, cur, rfl, hg, hh, hn, hm, _⟩
  · subst h0'
    exact ⟨none, 0, rfl, by simp, by simp, fun h => absurd h (by simp)⟩
  · refine ⟨_, cap, rfl, hn, hm, fun _ => ⟨_, rfl, lt_of_block hh, fun i j hi hj => ?_⟩⟩
    obtain rfl : j = 0 := by omega
    have hu : us[i]? = some (us.getD i nilV1) := by rw [List.getD_eq_getElem?_getD, List.getElem?_eq_getElem (by omega)]; rfl
    have := World.ownsRow.cells h0 (g := g) rfl i _ hu
    rw [show i * 1 + 0 = i by omega]
    exact this
theorem getD_left {α : Type} (a b : List α) (d : α) {i : Nat} (h : i < a.length) : (a ++ b).getD i d = a.getD i d := by
  rw [List.getD_eq_getElem?_getD, List.getD_eq_getElem?_getD, List.getElem?_append_left h]
/-- the parts that are finished, the one under way, and what is open, all in rows of the call's own -/
structure CutMem (B Bp : Nat) (us : List Value) (out part opn : Value) (o : List (List Pc)) (p : List Pc) (n : List ByteArray) (w : World) : Prop where
  len : us.length = o.length
  row : w.ownsRow B 22 1 out o.length us
  old : ∀ i, i < o.length → OwnP B (us.getD i nilV1) (o.getD i []) w ∧ ∀ b, (us.getD i nilV1).ownBlock = some b → b < Bp
  prt : OwnP Bp part p w
  opn : OwnS B opn n w
  le : B ≤ Bp
  lt : Bp ≤ w.heap.size
theorem CutMem.init {w : World} : CutMem w.heap.size w.heap.size [] (.slice none 0 0) (.slice none 0 0) (.slice none 0 0) [] [] [] w :=
  ⟨rfl, World.ownsRow_nil _ _ _ _, fun i hi => absurd hi (by simp), OwnP.nil _ _, World.ownsRow_nil _ _ _ _, Nat.le_refl _, Nat.le_refl _⟩
theorem CutMem.putPart {B Bp : Nat} {us : List Value} {out part opn part' : Value} {o : List (List Pc)} {p p' : List Pc} {n : List ByteArray} {w w' : World} (h : CutMem B Bp us out part opn o p n w) (hb : Besd w w' part.ownBlock) (hp : OwnP Bp part' p' w') : CutMem B Bp us out part' opn o p' n w' := by
  refine ⟨h.len, own_besd h.row hb (own_ne h.row h.prt (by decide)), fun i hi => ⟨own_besd (h.old i hi).1 hb fun b hb' hb2 => ?_, (h.old i hi).2⟩, hp, own_besd h.opn hb (own_ne h.opn h.prt (by decide)), h.le, Nat.le_trans h.lt hb.size⟩
  have h1 := (h.old i hi).2 b hb'
  have h2 := (World.ownsRow.lt h.prt b hb2).1
  omega
theorem CutMem.putOpn {B Bp : Nat} {us : List Value} {out part opn opn' : Value} {o : List (List Pc)} {p : List Pc} {n n' : List ByteArray} {w w' : World} (h : CutMem B Bp us out part opn o p n w) (hb : Besd w w' opn.ownBlock) (hp : OwnS B opn' n' w') : CutMem B Bp us out part opn' o p n' w' :=
  ⟨h.len, own_besd h.row hb (own_ne h.row h.opn (by decide)), fun i hi => ⟨own_besd (h.old i hi).1 hb (own_ne (h.old i hi).1 h.opn (by decide)), (h.old i hi).2⟩, own_besd h.prt hb (own_ne h.prt h.opn (by decide)), hp, h.le, Nat.le_trans h.lt hb.size⟩
theorem CutMem.step {B Bp : Nat} {us : List Value} {out part opn : Value} {o : List (List Pc)} {p : List Pc} {n : List ByteArray} {w w' : World} (h : CutMem B Bp us out part opn o p n w) (hb : Below w.heap.size w w') : CutMem B Bp us out part opn o p n w' :=
  ⟨h.len, ownsRow_step hb h.row, fun i hi => ⟨(h.old i hi).1.step hb, (h.old i hi).2⟩, h.prt.step hb, h.opn.step hb, h.le, Nat.le_trans h.lt hb.size⟩
theorem CutMem.setOpn {B Bp : Nat} {us : List Value} {out part opn opn' : Value} {o : List (List Pc)} {p : List Pc} {n n' : List ByteArray} {w : World} (h : CutMem B Bp us out part opn o p n w) (hp : OwnS B opn' n' w) : CutMem B Bp us out part opn' o p n' w :=
  ⟨h.len, h.row, h.old, h.prt, hp, h.le, h.lt⟩
/-- a part is finished: another one begins -/
theorem CutMem.putOut {B Bp : Nat} {us : List Value} {out part opn out' : Value} {o : List (List Pc)} {p : List Pc} {n : List ByteArray} {w w' : World} (h : CutMem B Bp us out part opn o p n w) (hb : Besd w w' out.ownBlock) (hr : w'.ownsRow B 22 1 out' (o.length + 1) (us ++ [part])) : CutMem B w'.heap.size (us ++ [part]) out' (.slice none 0 0) opn (o ++ [p]) [] n w' := by
  have hle : Bp ≤ w'.heap.size := Nat.le_trans h.lt hb.size
  have hp := own_besd h.prt hb (own_ne h.prt h.row (by decide))
  refine ⟨by simp [h.len], by rw [List.length_append, List.length_singleton]; exact hr, fun i hi => ?_, OwnP.nil _ _, own_besd h.opn hb (own_ne h.opn h.row (by decide)), Nat.le_trans h.le hle, Nat.le_refl _⟩
  rw [List.length_append, List.length_singleton] at hi
  by_cases hio : i < o.length
  · rw [getD_left us _ _ (by rw [h.len]; exact hio), getD_left o _ _ hio]
    refine ⟨own_besd (h.old i hio).1 hb (own_ne (h.old i hio).1 h.row (by decide)), fun b hb' => ?_⟩
    have := (h.old i hio).2 b hb'
    omega
  · obtain rfl : i = o.length := by omega
    rw [List.getD_eq_getElem?_getD, List.getD_eq_getElem?_getD, List.getElem?_append_right (by rw [h.len]; exact Nat.le_refl _), List.getElem?_append_right (Nat.le_refl _), h.len]
    simp only [Nat.sub_self, List.getElem?_cons_zero, Option.getD_some]
    exact ⟨own_lower hp h.le, fun b hb' => (World.ownsRow.lt hp b hb').2⟩
/-- the finished parts, as parts in memory -/
theorem CutMem.pts {B Bp : Nat} {us : List Value} {out part opn : Value} {o : List (List Pc)} {p : List Pc} {n : List ByteArray} {w : World} (h : CutMem B Bp us out part opn o p n w) : PtsAt w out o := by
  refine ⟨us, h.len, row_slice h.row, fun i hi => (h.old i hi).1.at⟩
end Go.Proofs.YtnkpjkomokkhcaaGreatDoor
