/- What is read is written as it was, and what is written is read as it was: as data. No run of any program here. The law DocsBack over any text and any list, given that the layer's examples hold. -/
import Derived.Test.YtcgghmpafphcpaaGreatDoorRdA
import Derived.Test.YtcgghmpafphcpaaGreatDoorDp7
import Derived.Test.YtcgghmpafphcpaaGreatDoorRwA
import Derived.Test.YtcgghmpafphcpaaGreatDoorDq5
namespace Go.Proofs.YtcgghmpafphcpaaGreatDoor
open Go Go.Lib
theorem esc_app (a b : List UInt8) : esc (a ++ b) = esc a ++ esc b := by unfold esc; simp
theorem formB_app (a b : List Pc) : formB (a ++ b) = formB a ++ formB b := by unfold formB; simp
theorem formB_cons (x : Pc) (l : List Pc) : formB (x :: l) = wB x ++ formB l := by unfold formB; simp
theorem formB_flush (t : List UInt8) : formB (flush t) = esc t := by
  unfold flush
  split
  · rename_i h; subst h; rfl
  · rw [formB_cons, show formB [] = [] from rfl, List.append_nil]
    unfold wB
    rw [if_pos rfl]
    rfl
theorem form_toks : ∀ (n : Nat) (s : List UInt8) (ts : List Tok) (t : List UInt8), s.length ≤ n → toks s = some ts → formB (joinF t ts) = esc t ++ s := by
  intro n
  induction n with
  | zero =>
    intro s ts t hn h
    obtain rfl : s = [] := List.eq_nil_of_length_eq_zero (by omega)
    rw [toks_nil] at h; cases h
    rw [List.append_nil]; exact formB_flush t
  | succ n ih =>
    intro s ts t hn h
    match s with
    | [] =>
      rw [toks_nil] at h; cases h
      rw [List.append_nil]; exact formB_flush t
    | c :: r =>
      simp only [List.length_cons] at hn
      cases hs : special c
      · rw [toks_plain r hs] at h
        obtain ⟨ts', h1, rfl⟩ := Option.map_eq_some_iff.1 h
        show formB (joinF (t ++ [c]) ts') = _
        rw [ih r ts' (t ++ [c]) (by omega) h1, esc_app, List.append_assoc]
        congr 1
        unfold esc
        simp [hs]
      · rcases special_cases hs with rfl | hc
        · cases hd : special (r.getD 0 0)
          · rw [toks_esc_bad hd] at h; cases h
          · match r with
            | [] => exact absurd hd (by decide)
            | d :: r' =>
              rw [List.getD_cons_zero] at hd
              rw [toks_esc r' hd] at h
              obtain ⟨ts', h1, rfl⟩ := Option.map_eq_some_iff.1 h
              show formB (joinF (t ++ [d]) ts') = _
              rw [ih r' ts' (t ++ [d]) (by simp at hn; omega) h1, esc_app, List.append_assoc]
              congr 1
              unfold esc
              simp [hd]
        · by_cases hj : indexByte (c :: r) (endOf c) = -1
          · rw [toks_mark_end hc hj] at h; cases h
          · obtain ⟨j, hj⟩ : ∃ j : Nat, indexByte (c :: r) (endOf c) = (j : Int) := ⟨(indexByte (c :: r) (endOf c)).toNat, by have := indexByte_ge (c :: r) (endOf c); omega⟩
            cases hx : markOf ((c :: r).take (j + 1)) with
            | none => rw [toks_mark_bad hc hj hx] at h; cases h
            | some x =>
              rw [toks_mark hc hj hx] at h
              obtain ⟨ts', h1, rfl⟩ := Option.map_eq_some_iff.1 h
              have hm := markOf_mk hx
              have e := ih _ ts' [] (by have := take_fuel (l := r) (j := j) c; omega) h1
              show formB (flush t ++ x :: joinF [] ts') = _
              rw [formB_app, formB_flush, formB_cons, e, ← hm.2.2, show esc [] = [] from rfl, List.nil_append, List.take_append_drop]
theorem read_back {s : ByteArray} (hs : s.size ≤ 65536) (h : readE s = 0) : writeE (readP s) = 0 ∧ writeB (readP s) = s.data.toList := by
  have h0 : ¬ 65536 < s.size := by omega
  cases hv : readV s with
  | none => rw [(read_none h0 hv).1] at h; cases h
  | some l =>
    obtain ⟨h1, h2⟩ := read_some h0 hv
    rw [h1] at h
    rw [if_pos h] at h2
    rw [h2]
    unfold readV at hv
    split at hv
    · unfold readsB at hv
      obtain ⟨ts, h3, rfl⟩ := Option.map_eq_some_iff.1 hv
      have e := form_toks _ _ ts [] (Nat.le_refl _) h3
      rw [show esc [] = [] from rfl, List.nil_append] at e
      unfold writeE writeB
      rw [e]
      have hl : ¬ 65536 < s.data.toList.length := by have := size_eq s; omega
      rw [if_neg (by rw [h]; simp), if_neg hl, if_neg (by rw [h]; simp), if_neg hl]
      exact ⟨rfl, rfl⟩
    · cases hv
/-! ### the other way -/
theorem toks_text (t r : List UInt8) : toks (esc t ++ r) = (toks r).map (t.map Sum.inl ++ ·) := by
  induction t with
  | nil => simp [esc]
  | cons c t ih =>
    cases hs : special c
    · have e : esc (c :: t) ++ r = c :: (esc t ++ r) := by unfold esc; simp [hs]
      rw [e, toks_plain _ hs, ih, Option.map_map]
      rfl
    · have e : esc (c :: t) ++ r = 92 :: c :: (esc t ++ r) := by unfold esc; simp [hs]
      rw [e, toks_esc _ hs, ih, Option.map_map]
      rfl
theorem index_first : ∀ {pre r : List UInt8} {c : UInt8}, (∀ d ∈ pre, d ≠ c) → indexByte (pre ++ c :: r) c = (pre.length : Int)
  | [], r, c, _ => by unfold indexByte; simp
  | b :: pre, r, c, h => by
    have ih := index_first (pre := pre) (r := r) (c := c) (fun d hd => h d (by simp [hd]))
    show indexByte (b :: (pre ++ c :: r)) c = _
    unfold indexByte
    rw [show (b == c) = false from beq_eq_false_iff_ne.2 (h b (by simp)), ih]
    have : ((pre.length : Int) == -1) = false := beq_eq_false_iff_ne.2 (by omega)
    simp [this]
/-- a mark: where it begins, and that it ends at the first ending byte -/
theorem Mk.shape {x : Pc} {m : List UInt8} (h : Mk x m) : ∃ c b, m = c :: (b ++ [endOf c]) ∧ (c = 60 ∨ c = 123) ∧ ∀ d ∈ b, d ≠ endOf c := by
  obtain ⟨hn, hs, hk⟩ := h.kinds
  obtain ⟨_, hall, _, _⟩ := nameB_chars hn
  have n62 : ∀ d ∈ x.s.data.toList, d ≠ 62 := fun d hd => u8ne (n := 62) (by decide) (hall d hd) (by decide)
  have n125 : ∀ d ∈ x.s.data.toList, d ≠ 125 := fun d hd => u8ne (n := 125) (by decide) (hall d hd) (by decide)
  have e60 : endOf 60 = 62 := rfl
  have e123 : endOf 123 = 125 := rfl
  rcases hk with ⟨_, p, q⟩ | ⟨_, p, q⟩ | ⟨_, _, p, q⟩ | ⟨_, _, p, q⟩ <;> rw [p, q] at hs
  · cases hxc : x.c <;> rw [hxc] at hs
    · exact ⟨60, x.s.data.toList, by rw [hs, e60]; simp, .inl rfl, by rw [e60]; exact n62⟩
    · refine ⟨60, 43 :: x.s.data.toList, by rw [hs, e60]; simp, .inl rfl, ?_⟩
      rw [e60]
      intro d hd
      rcases List.mem_cons.1 hd with rfl | hd
      · decide
      · exact n62 d hd
  · cases hxc : x.c <;> rw [hxc] at hs
    · refine ⟨60, 47 :: x.s.data.toList, by rw [hs, e60]; simp, .inl rfl, ?_⟩
      rw [e60]
      intro d hd
      rcases List.mem_cons.1 hd with rfl | hd
      · decide
      · exact n62 d hd
    · refine ⟨60, 47 :: 43 :: x.s.data.toList, by rw [hs, e60]; simp, .inl rfl, ?_⟩
      rw [e60]
      intro d hd
      rcases List.mem_cons.1 hd with rfl | hd
      · decide
      · rcases List.mem_cons.1 hd with rfl | hd
        · decide
        · exact n62 d hd
  · refine ⟨60, x.s.data.toList ++ [47], by rw [hs, e60]; simp, .inl rfl, ?_⟩
    rw [e60]
    intro d hd
    rcases List.mem_append.1 hd with hd | hd
    · exact n62 d hd
    · simp at hd; subst hd; decide
  · exact ⟨123, x.s.data.toList, by rw [hs, e123]; simp, .inr rfl, by rw [e123]; exact n125⟩
theorem toks_mk {x : Pc} {m : List UInt8} (h : Mk x m) (r : List UInt8) : toks (m ++ r) = (toks r).map (.inr x :: ·) := by
  obtain ⟨c, b, hm, hc, hb⟩ := h.shape
  have hce : c ≠ endOf c := by rcases hc with rfl | rfl <;> decide
  have e : m ++ r = c :: (b ++ endOf c :: r) := by rw [hm]; simp
  have hl : m.length = (c :: b).length + 1 := by rw [hm]; simp
  have hj : indexByte (c :: (b ++ endOf c :: r)) (endOf c) = ((c :: b).length : Int) := by
    refine index_first (pre := c :: b) ?_
    intro d hd
    rcases List.mem_cons.1 hd with rfl | hd
    · exact hce
    · exact hb d hd
  have ht : (c :: (b ++ endOf c :: r)).take ((c :: b).length + 1) = m := by rw [← e, ← hl, List.take_left]
  have hd : (c :: (b ++ endOf c :: r)).drop ((c :: b).length + 1) = r := by rw [← e, ← hl, List.drop_left]
  rw [e, toks_mark hc hj (by rw [ht]; exact markOf_of h), hd]
def toksOf (x : Pc) : List Tok := if x.k = 1 then x.s.data.toList.map Sum.inl else [.inr x]
theorem toks_form (l : List Pc) (h : ∀ x ∈ l, pieceE x = 0) : toks (formB l) = some (l.flatMap toksOf) := by
  induction l with
  | nil => rfl
  | cons x l ih =>
    have ih := ih (fun y hy => h y (by simp [hy]))
    rw [formB_cons]
    by_cases hk : x.k = 1
    · unfold wB
      rw [if_pos hk, toks_text, ih]
      simp [toksOf, hk]
    · rw [toks_mk (x := x) ⟨hk, h x (by simp), rfl⟩, ih]
      simp [toksOf, hk]
theorem joinF_text : ∀ (a t : List UInt8) (ts : List Tok), joinF t (a.map Sum.inl ++ ts) = joinF (t ++ a) ts
  | [], t, ts => by simp
  | c :: a, t, ts => by
    show joinF (t ++ [c]) (a.map Sum.inl ++ ts) = _
    rw [joinF_text a, List.append_assoc]
    rfl
/-- no two texts side by side, none is empty -/
def Apart : List Pc → Prop
  | [] => True
  | x :: l => (x.k = 1 → x.s.data.toList ≠ [] ∧ x.c = false ∧ ∀ y, l.head? = some y → y.k ≠ 1) ∧ Apart l
theorem joinF_form : ∀ l : List Pc, Apart l → joinF [] (l.flatMap toksOf) = l
  | [], _ => rfl
  | x :: l, h => by
    have ih := joinF_form l h.2
    rw [List.flatMap_cons]
    by_cases hk : x.k = 1
    · obtain ⟨hne, hc, hy⟩ := h.1 hk
      have hx : flush x.s.data.toList = [x] := by
        unfold flush
        rw [if_neg hne]
        obtain ⟨k, s, c⟩ := x
        simp only at hk hc
        subst hk hc
        rfl
      rw [show toksOf x = x.s.data.toList.map Sum.inl by unfold toksOf; rw [if_pos hk], joinF_text, List.nil_append]
      match l, h, ih, hy with
      | [], _, _, _ => exact hx
      | y :: l', h, ih, hy =>
        have hyk := hy y rfl
        rw [List.flatMap_cons] at ih ⊢
        rw [show toksOf y = [.inr y] by unfold toksOf; rw [if_neg hyk]] at ih ⊢
        show flush x.s.data.toList ++ y :: joinF [] (l'.flatMap toksOf) = x :: y :: l'
        have ih' : y :: joinF [] (l'.flatMap toksOf) = y :: l' := ih
        rw [hx, ih']
        rfl
    · rw [show toksOf x = [.inr x] by unfold toksOf; rw [if_neg hk]]
      show flush [] ++ x :: joinF [] (l.flatMap toksOf) = x :: l
      rw [ih]
      rfl
theorem pieceE_text {x : Pc} (h : pieceE x = 0) (hk : x.k = 1) : x.s.data.toList ≠ [] ∧ x.c = false ∧ textB x.s = true := by
  unfold pieceE at h
  rw [if_neg (by omega)] at h
  by_cases hc : x.c = true ∧ x.k ≠ 2 ∧ x.k ≠ 3
  · rw [if_pos hc] at h; cases h
  · rw [if_neg hc, if_pos hk] at h
    by_cases hz : x.s.size = 0 ∨ textB x.s = false
    · rw [if_pos hz] at h; cases h
    · refine ⟨fun e => hz (.inl (by rw [size_eq, e]; rfl)), ?_, ?_⟩
      · cases hx : x.c
        · rfl
        · exact absurd ⟨hx, by omega, by omega⟩ hc
      · cases hx : textB x.s
        · exact absurd (.inr hx) hz
        · rfl
theorem check_nbrs {l : List Pc} (h : checkE l = 0) : ∀ i, i + 1 < l.length → ¬ ((l.getD (i + 1) nil).k = 1 ∧ (l.getD i nil).k = 1) := by
  have hv := all_valid h
  unfold checkE at h
  split at h
  · cases h
  · split at h
    · rename_i e he
      subst h
      exfalso
      have key : ∀ n op, runC l n = op → op ≠ .error 0 := by
        intro n
        induction n with
        | zero => intro op h; subst h; simp [runC]
        | succ n ih =>
          intro op h hop
          subst h
          simp only [runC] at hop
          cases e : runC l n with
          | error x => rw [e] at hop; exact ih _ rfl (by rw [e]; exact hop)
          | ok o =>
            rw [e] at hop
            have hop' : (if hereE l n ≠ 0 then Except.error (hereE l n) else folE o (l.getD n nil)) = Except.error 0 := hop
            split at hop'
            · rename_i hh; injection hop' with h0; exact hh h0
            · unfold folE at hop'
              split at hop'
              · split at hop' <;> cases hop'
              · split at hop'
                · split at hop' <;> cases hop'
                · cases hop'
      exact key _ _ rfl he
    · rename_i op ho
      intro i hi hk
      have h2 := runC_here ho (i + 1) hi
      unfold hereE at h2
      rw [if_neg (by rw [hv (i + 1) hi]; simp), if_neg (by omega)] at h2
      unfold nbrE at h2
      rw [show i + 1 - 1 = i by omega, if_pos hk] at h2
      cases h2
theorem apart_of : ∀ l : List Pc, (∀ x ∈ l, pieceE x = 0) → (∀ i, i + 1 < l.length → ¬ ((l.getD (i + 1) nil).k = 1 ∧ (l.getD i nil).k = 1)) → Apart l
  | [], _, _ => trivial
  | x :: l, h1, h2 => by
    refine ⟨fun hk => ?_, apart_of l (fun y hy => h1 y (by simp [hy])) (fun i hi => ?_)⟩
    · obtain ⟨a, b, _⟩ := pieceE_text (h1 x (by simp)) hk
      refine ⟨a, b, fun y hy hyk => ?_⟩
      match l, hy with
      | z :: l', hy =>
        simp at hy
        subst hy
        exact h2 0 (by simp) ⟨by simpa using hyk, by simpa using hk⟩
    · have := h2 (i + 1) (by simpa using hi)
      simpa using this
theorem valid_mem {l : List Pc} (h : checkE l = 0) : ∀ x ∈ l, pieceE x = 0 := by
  intro x hx
  obtain ⟨i, hi, rfl⟩ := List.getElem_of_mem hx
  have := all_valid h i hi
  rw [List.getD_eq_getElem?_getD, List.getElem?_eq_getElem hi] at this
  exact this
theorem write_back {l : List Pc} (h : writeE l = 0) : readE (bytes (writeB l)) = 0 ∧ readP (bytes (writeB l)) = l ∧ (bytes (writeB l)).size ≤ 65536 ∧ writeB l = formB l := by
  have hc : checkE l = 0 := by
    by_cases hc : checkE l = 0
    · exact hc
    · unfold writeE at h; rw [if_pos hc] at h; exact h
  have hl : ¬ 65536 < (formB l).length := by
    intro hl
    unfold writeE at h
    rw [if_neg (by rw [hc]; simp), if_pos hl] at h
    cases h
  have hw : writeB l = formB l := by unfold writeB; rw [if_neg (by rw [hc]; simp), if_neg hl]
  have hm := valid_mem hc
  have ht := toks_form l hm
  have hj := joinF_form l (apart_of l hm (check_nbrs hc))
  have hr : readsB (formB l) = some l := by unfold readsB; rw [ht, Option.map_some, hj]
  have hsz : (bytes (formB l)).size = (formB l).length := by unfold bytes; simp [ByteArray.size]
  have hx : textB (bytes (formB l)) = true := by
    have := text_reads (s := bytes (formB l)) (l := l) hr
    rw [this, List.all_eq_true]
    intro x hx
    unfold okT
    by_cases hk : x.k = 1
    · simp [(pieceE_text (hm x hx) hk).2.2]
    · simp [hk]
  have hv : readV (bytes (formB l)) = some l := readV_some hx hr
  have h65 : ¬ 65536 < (bytes (formB l)).size := by omega
  obtain ⟨r1, r2⟩ := read_some h65 hv
  rw [hw]
  exact ⟨by rw [r1, hc], by rw [r2, if_pos hc], by omega, rfl⟩
end Go.Proofs.YtcgghmpafphcpaaGreatDoor
namespace Go.Proofs.YtcgghmpafphcpaaGreatDoor
open Go Go.RowKit
set_option maxRecDepth 100000
set_option maxHeartbeats 16000000 in
theorem back_calls (s : ByteArray) (l : List Pc) (v : Value) (w : World) (hv : PcsAt w v l) (hsz : ∀ x ∈ l, x.s.size ≤ 140737488355328) (hll : l.length ≤ 140737488355328) (hT : Tabs w) (hN : Nts w)
    (hR : ∀ w', Below w.heap.size w w' → Calls Tryz.prog 7 #[] w' fun e w'' => e = .returned (.bool true) ∧ Below w'.heap.size w' w'') :
    Calls Tryz.prog 5 #[.string s, v] w fun e w' => e = .returned (.bool true) ∧ Below w.heap.size w w' := by
  have HB1 := Lib.hid (below_box (w := w) (.cells #[v] 22))
  have cR0 := hR w (Below.refl _ _)
  have cR1 := hR _ HB1.out
  by_cases hs : 2500 < s.size
  · have hsI : (2500 : Int) < (s.size : Int) := by omega
    go_enter Tryz.func5, Tryz.ntmps5
    go_wp2_with (go_at_call 7; (with_reducible refine cR0.mono ?_); rintro e w8 ⟨rfl, hb8⟩)
    go_ret
    exact ⟨rfl, hb8⟩
  have hsI : ¬ (2500 : Int) < (s.size : Int) := by omega
  have hv1 := hv.step HB1.out
  have cL := long_any l v w.heap.size (w.alloc (.cells #[v] 22)) (by rw [Lib.cell_of_heap (heap_alloc_new w _)]; rfl) hv1 hsz hll
  obtain ⟨p, cap, rfl, hl, hc, _⟩ := id hv
  by_cases hb : bulk l ≤ 2500
  · have hfl := formB_length l
    have cA := read_any s (w.alloc (.cells #[.slice p l.length cap] 22)) (by omega) (hT.step HB1.out) (hN.step HB1.out)
    have cB := fun wr (h : Below w.heap.size w wr) => write_any l _ wr (hv.step h) (by omega) (hT.step h) (hN.step h)
    have back1 := Lib.hid (fun h => read_back (s := s) (by omega) h)
    have cW := fun v2 wr (h : Below w.heap.size w wr) (hp : PcsAt wr v2 (readP s)) (hk : bulk (readP s) ≤ 2 * s.size) => write_any (readP s) v2 wr hp (by omega) (hT.step h) (hN.step h)
    by_cases h1 : readE s = 0
    · obtain ⟨b1, b2⟩ := back1.out h1
      rw [b1, b2] at cW
      have HR1 := Lib.hid h1
      have hss : bytes s.data.toList = s := rfl
      rw [hss] at cW
      clear hss b1 b2
      have fin1 := Lib.hid (fun e wr (h : ReadEnd s e wr) => (show ∃ v2, e = .returned (.tuple #[v2, .int .u8 0]) ∧ PcsAt wr v2 (readP s) ∧ bulk (readP s) ≤ 2 * s.size by obtain ⟨v2, e1, e2, e3⟩ := h; rw [HR1.out] at e1; exact ⟨v2, e1, e2, e3⟩))
      by_cases h2 : writeE l = 0
      · obtain ⟨d1, d2, d3, d4⟩ := write_back h2
        have hz : (bytes (writeB l)).size ≤ 50000 := by rw [d4]; have : (bytes (formB l)).size = (formB l).length := by unfold bytes; simp [ByteArray.size]
                                                        omega
        have cD := fun wr (h : Below w.heap.size w wr) => read_any (bytes (writeB l)) wr hz (hT.step h) (hN.step h)
        have fin := Lib.hid (fun e wr (h : ReadEnd (bytes (writeB l)) e wr) => (show ∃ v2, e = .returned (.tuple #[v2, .int .u8 0]) ∧ PcsAt wr v2 l by obtain ⟨v2, e1, e2, _⟩ := h; rw [d1] at e1; rw [d2] at e2; exact ⟨v2, e1, e2⟩))
        have cS := fun u wr (h : Below w.heap.size w wr) (hu : PcsAt wr u l) => same_any l u _ wr hu (hv.step h) (by have := bulk_get (l := l) (i := 0); unfold bulk at hb; omega)
        rw [h2] at cB
        generalize bytes (writeB l) = S at cB cD fin
        clear d1 d2 d3 d4 hz
        clear hv1 hb hT hN h1 h2 back1 hfl
        go_enter Tryz.func5, Tryz.ntmps5
        go_wp2_with (first
          | (go_at_call 6; (with_reducible refine cL.mono ?_); rintro e w1 ⟨⟨b, rfl, _⟩, hw⟩; obtain rfl := hw.symm; cases b)
          | (go_at_call 14; (with_reducible refine (cD _ HB4.out).mono ?_); rintro e w5 ⟨he5, hb5⟩; obtain ⟨v5, rfl, hp5⟩ := fin.out _ _ he5; have HB5 := Lib.hid (below_next HB4.out hb5); have cS5 := cS v5 w5 HB5.out hp5; clear hb5 he5 hp5)
          | (go_at_call 14; (with_reducible refine cA.mono ?_); rintro e w2 ⟨he2, hb2⟩; obtain ⟨v2, rfl, hp2, hk2⟩ := fin1.out _ _ he2; have HB2 := Lib.hid (below_next HB1.out hb2); have cW2 := cW v2 w2 HB2.out hp2 hk2; clear hb2 he2 hp2 hk2)
          | (go_at_call 8; (with_reducible refine cW2.mono ?_); rintro e w3 ⟨rfl, hb3⟩; have HB3 := Lib.hid (below_next HB2.out hb3); clear hb3)
          | (go_at_call 8; (with_reducible refine (cB _ HB3.out).mono ?_); rintro e w4 ⟨rfl, hb4⟩; have HB4 := Lib.hid (below_next HB3.out hb4); clear hb4)
          | (go_at_call 16; (with_reducible refine cS5.mono ?_); rintro e w6 ⟨rfl, n6, rfl⟩; have HB6 := Lib.hid (below_drewN HB5.out n6))
          | (go_at_call 7; (with_reducible refine (hR _ HB6.out).mono ?_); rintro e w8 ⟨rfl, hb8⟩; have HB8 := Lib.hid (below_next HB6.out hb8); clear hb8)
          | (go_at_call 7; (with_reducible refine cR1.mono ?_); rintro e w8 ⟨rfl, hb8⟩; have HB8 := Lib.hid (below_next HB1.out hb8); clear hb8))
        all_goals
          go_ret
          exact ⟨rfl, HB8.out⟩
      · generalize hZ : writeE l = Z at cB h2
        have hzb : (Z == 0) = false := by simpa using h2
        generalize bytes (writeB l) = S at cB
        clear hZ
        clear hv1 hb hT hN h1 h2 back1 hfl
        go_enter Tryz.func5, Tryz.ntmps5
        go_wp2_with (first
          | (go_at_call 6; (with_reducible refine cL.mono ?_); rintro e w1 ⟨⟨b, rfl, _⟩, hw⟩; obtain rfl := hw.symm; cases b)
          | (go_at_call 14; (with_reducible refine cA.mono ?_); rintro e w2 ⟨he2, hb2⟩; obtain ⟨v2, rfl, hp2, hk2⟩ := fin1.out _ _ he2; have HB2 := Lib.hid (below_next HB1.out hb2); have cW2 := cW v2 w2 HB2.out hp2 hk2; clear hb2 he2 hp2 hk2)
          | (go_at_call 8; (with_reducible refine cW2.mono ?_); rintro e w3 ⟨rfl, hb3⟩; have HB3 := Lib.hid (below_next HB2.out hb3); clear hb3)
          | (go_at_call 8; (with_reducible refine (cB _ HB3.out).mono ?_); rintro e w4 ⟨rfl, hb4⟩; have HB4 := Lib.hid (below_next HB3.out hb4); clear hb4)
          | (go_at_call 7; (with_reducible refine (hR _ HB4.out).mono ?_); rintro e w8 ⟨rfl, hb8⟩; have HB8 := Lib.hid (below_next HB4.out hb8); clear hb8)
          | (go_at_call 7; (with_reducible refine cR1.mono ?_); rintro e w8 ⟨rfl, hb8⟩; have HB8 := Lib.hid (below_next HB1.out hb8); clear hb8))
        all_goals
          go_ret
          exact ⟨rfl, HB8.out⟩
    · have fin1 := Lib.hid (fun e wr (h : ReadEnd s e wr) => (show ∃ v2, e = .returned (.tuple #[v2, .int .u8 (readE s)]) by obtain ⟨v2, e1, _⟩ := h; exact ⟨v2, e1⟩))
      clear cW
      generalize readE s = Y at fin1 h1
      have hyb : (Y == 0) = false := by simpa using h1
      by_cases h2 : writeE l = 0
      · obtain ⟨d1, d2, d3, d4⟩ := write_back h2
        have hz : (bytes (writeB l)).size ≤ 50000 := by rw [d4]; have : (bytes (formB l)).size = (formB l).length := by unfold bytes; simp [ByteArray.size]
                                                        omega
        have cD := fun wr (h : Below w.heap.size w wr) => read_any (bytes (writeB l)) wr hz (hT.step h) (hN.step h)
        have fin := Lib.hid (fun e wr (h : ReadEnd (bytes (writeB l)) e wr) => (show ∃ v2, e = .returned (.tuple #[v2, .int .u8 0]) ∧ PcsAt wr v2 l by obtain ⟨v2, e1, e2, _⟩ := h; rw [d1] at e1; rw [d2] at e2; exact ⟨v2, e1, e2⟩))
        have cS := fun u wr (h : Below w.heap.size w wr) (hu : PcsAt wr u l) => same_any l u _ wr hu (hv.step h) (by have := bulk_get (l := l) (i := 0); unfold bulk at hb; omega)
        rw [h2] at cB
        generalize bytes (writeB l) = S at cB cD fin
        clear d1 d2 d3 d4 hz
        clear hv1 hb hT hN h1 h2 back1 hfl
        go_enter Tryz.func5, Tryz.ntmps5
        go_wp2_with (first
          | (go_at_call 6; (with_reducible refine cL.mono ?_); rintro e w1 ⟨⟨b, rfl, _⟩, hw⟩; obtain rfl := hw.symm; cases b)
          | (go_at_call 14; (with_reducible refine (cD _ HB4.out).mono ?_); rintro e w5 ⟨he5, hb5⟩; obtain ⟨v5, rfl, hp5⟩ := fin.out _ _ he5; have HB5 := Lib.hid (below_next HB4.out hb5); have cS5 := cS v5 w5 HB5.out hp5; clear hb5 he5 hp5)
          | (go_at_call 14; (with_reducible refine cA.mono ?_); rintro e w2 ⟨he2, hb2⟩; obtain ⟨v2, rfl⟩ := fin1.out _ _ he2; have HB2 := Lib.hid (below_next HB1.out hb2); clear hb2 he2)
          | (go_at_call 8; (with_reducible refine (cB _ HB2.out).mono ?_); rintro e w4 ⟨rfl, hb4⟩; have HB4 := Lib.hid (below_next HB2.out hb4); clear hb4)
          | (go_at_call 16; (with_reducible refine cS5.mono ?_); rintro e w6 ⟨rfl, n6, rfl⟩; have HB6 := Lib.hid (below_drewN HB5.out n6))
          | (go_at_call 7; (with_reducible refine (hR _ HB6.out).mono ?_); rintro e w8 ⟨rfl, hb8⟩; have HB8 := Lib.hid (below_next HB6.out hb8); clear hb8)
          | (go_at_call 7; (with_reducible refine cR1.mono ?_); rintro e w8 ⟨rfl, hb8⟩; have HB8 := Lib.hid (below_next HB1.out hb8); clear hb8))
        all_goals
          go_ret
          exact ⟨rfl, HB8.out⟩
      · generalize hZ : writeE l = Z at cB h2
        have hzb : (Z == 0) = false := by simpa using h2
        generalize bytes (writeB l) = S at cB
        clear hZ
        clear hv1 hb hT hN h1 h2 back1 hfl
        go_enter Tryz.func5, Tryz.ntmps5
        go_wp2_with (first
          | (go_at_call 6; (with_reducible refine cL.mono ?_); rintro e w1 ⟨⟨b, rfl, _⟩, hw⟩; obtain rfl := hw.symm; cases b)
          | (go_at_call 14; (with_reducible refine cA.mono ?_); rintro e w2 ⟨he2, hb2⟩; obtain ⟨v2, rfl⟩ := fin1.out _ _ he2; have HB2 := Lib.hid (below_next HB1.out hb2); clear hb2 he2)
          | (go_at_call 8; (with_reducible refine (cB _ HB2.out).mono ?_); rintro e w4 ⟨rfl, hb4⟩; have HB4 := Lib.hid (below_next HB2.out hb4); clear hb4)
          | (go_at_call 7; (with_reducible refine (hR _ HB4.out).mono ?_); rintro e w8 ⟨rfl, hb8⟩; have HB8 := Lib.hid (below_next HB4.out hb8); clear hb8)
          | (go_at_call 7; (with_reducible refine cR1.mono ?_); rintro e w8 ⟨rfl, hb8⟩; have HB8 := Lib.hid (below_next HB1.out hb8); clear hb8))
        all_goals
          go_ret
          exact ⟨rfl, HB8.out⟩
  · go_enter Tryz.func5, Tryz.ntmps5
    go_wp2_with (first
      | (go_at_call 6; (with_reducible refine cL.mono ?_); rintro e w1 ⟨⟨b, rfl, hbb⟩, hw⟩; obtain rfl := hw.symm; obtain rfl : b = true := (by cases b; exact absurd (hbb rfl) hb; rfl); clear hbb)
      | (go_at_call 7; (with_reducible refine cR1.mono ?_); rintro e w8 ⟨rfl, hb8⟩; have HB8 := Lib.hid (below_next HB1.out hb8); clear hb8))
    go_ret
    exact ⟨rfl, HB8.out⟩
end Go.Proofs.YtcgghmpafphcpaaGreatDoor
