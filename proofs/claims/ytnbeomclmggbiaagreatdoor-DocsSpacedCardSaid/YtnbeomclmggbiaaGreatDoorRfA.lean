/- The first place of a byte, and the tag or hole that a text is, as the specification tells it. The tag or the hole that a text is: what the specification takes of it. No run of any program here. -/
import Derived.Test.YtnbeomclmggbiaaGreatDoorDqA
import Derived.Test.YtnbeomclmggbiaaGreatDoorRwA
namespace Go.Proofs.YtnbeomclmggbiaaGreatDoor
open Go Go.RowKit Go.Lib
set_option maxRecDepth 1000000
theorem upTo_none {l : List UInt8} {c : UInt8} (h : ∀ d ∈ l, d ≠ c) : indexByte l c = -1 := by
  induction l with
  | nil => rfl
  | cons b l ih =>
    unfold indexByte
    rw [show (b == c) = false from beq_eq_false_iff_ne.2 (h b (by simp)), ih (fun d hd => h d (by simp [hd]))]
    rfl
theorem upTo_hit : ∀ {pre r : List UInt8} {c : UInt8}, (∀ d ∈ pre, d ≠ c) → indexByte (pre ++ c :: r) c = (pre.length : Int)
  | [], r, c, _ => by unfold indexByte; simp
  | b :: pre, r, c, h => by
    have ih := upTo_hit (pre := pre) (r := r) (c := c) (fun d hd => h d (by simp [hd]))
    show indexByte (b :: (pre ++ c :: r)) c = _
    unfold indexByte
    rw [show (b == c) = false from beq_eq_false_iff_ne.2 (h b (by simp)), ih]
    have : ((pre.length : Int) == -1) = false := beq_eq_false_iff_ne.2 (by omega)
    simp [this]
/-- no byte c between two places -/
def NoC (s : ByteArray) (c : UInt8) (at' k : Nat) : Prop := ∀ j (h : j < s.size), at' ≤ j → j < k → s[j] ≠ c
theorem NoC.drop {s : ByteArray} {c : UInt8} {at' k : Nat} (h : NoC s c at' k) (hk : k ≤ s.size) : ∀ d ∈ (s.data.toList.drop at').take (k - at'), d ≠ c := by
  intro d hd
  obtain ⟨i, hi, rfl⟩ := List.getElem_of_mem hd
  rw [List.length_take, List.length_drop] at hi
  have e := size_eq s
  rw [List.getElem_take, List.getElem_drop]
  have := h (at' + i) (by omega) (by omega) (by omega)
  exact this
def UpEnd (s : ByteArray) (at' : Nat) (c : UInt8) (e : Ending) : Prop := ∃ z : Int, e = .returned (.int .i64 z) ∧ ((indexByte (s.data.toList.drop at') c = -1 ∧ z = -1) ∨ ∃ j : Nat, indexByte (s.data.toList.drop at') c = (j : Int) ∧ z = ((at' + j : Nat) : Int))
set_option maxHeartbeats 4000000 in
theorem upTo_any (s : ByteArray) (at' : Nat) (c : UInt8) (w : World) (hs : s.size ≤ 140737488355328) (ha : at' ≤ s.size) :
    Calls Tryz.prog 49 #[.string s, .int .i64 (at' : Int), .int .u8 (c.toNat : Int)] w fun e w' => UpEnd s at' c e ∧ w' = w := by
  go_enter Tryz.func49, Tryz.ntmps49
  go_wp2
  go_loop [7] (fun i => ∃ k : Nat, at' ≤ k ∧ k ≤ s.size ∧ i = .int .i64 k ∧ Hid (NoC s c at' k)) (fun i => s.size - (RowKit.intOf i).toNat)
  case atStart => exact ⟨at', Nat.le_refl _, ha, rfl, fun _ _ _ _ => by omega⟩
  case round =>
    obtain ⟨k, hk0, hk, rfl, HN⟩ := hrel
    by_cases hlt : k < s.size
    · by_cases hc : s[k] = c
      · have hcI : ((s[k].toNat : Int) == (c.toNat : Int)) = true := by rw [hc]; simp
        have HX : Hid (indexByte (s.data.toList.drop at') c = ((k - at' : Nat) : Int)) := by
          show _ = _
          have hd := HN.out.drop hk
          have e := size_eq s
          have hsplit : s.data.toList.drop at' = (s.data.toList.drop at').take (k - at') ++ c :: s.data.toList.drop (k + 1) := by
            rw [← List.take_append_drop (k - at') (s.data.toList.drop at')]
            rw [List.drop_drop, show at' + (k - at') = k by omega, List.take_append_of_le_length (by rw [List.length_take, List.length_drop]; omega)]
            rw [List.take_take, Nat.min_self]
            congr 1
            rw [List.drop_eq_getElem_cons (by omega : k < s.data.toList.length)]
            congr 1
          rw [hsplit, upTo_hit hd, List.length_take, List.length_drop]
          omega
        clear HN
        have HC := Lib.hid hc
        clear hc
        generalize (c.toNat : Int) = y at hcI
        go_wp2
        go_ret
        exact ⟨⟨(k : Int), rfl, .inr ⟨k - at', HX.out, by congr 1; omega⟩⟩, rfl⟩
      · have hcI : ((s[k].toNat : Int) == (c.toNat : Int)) = false := beq_eq_false_iff_ne.2 (fun e => hc (UInt8.toNat_inj.1 (by omega)))
        have HN2 : Hid (NoC s c at' (k + 1)) := fun j hj h1 h2 => by
          by_cases e : j = k
          · subst e; exact hc
          · exact HN.out j hj h1 (by omega)
        clear HN hc
        go_wp2
        go_round
        case rel => exact ⟨k + 1, by omega, by omega, by go_num, HN2.out⟩
        case measure => simp [RowKit.intOf]; omega
    · have HX : Hid (indexByte (s.data.toList.drop at') c = -1) := by
        show _ = _
        have hd := HN.out.drop hk
        have e := size_eq s
        rw [List.take_of_length_le (by rw [List.length_drop]; omega)] at hd
        exact upTo_none hd
      clear HN
      go_wp2
      go_ret
      exact ⟨⟨-1, rfl, .inl ⟨HX.out, rfl⟩⟩, rfl⟩
end Go.Proofs.YtnbeomclmggbiaaGreatDoor
namespace Go.Proofs.YtnbeomclmggbiaaGreatDoor
open Go Go.RowKit Go.Lib
set_option maxRecDepth 1000000
/-- kind and text, before a plus is asked for -/
def core (s : ByteArray) (a z b y : UInt8) (k : Int) (txt : ByteArray) : Prop :=
  (a = 123 ∧ z = 125 ∧ k = 5 ∧ txt = s.extract 1 (s.size - 1)) ∨ (a = 60 ∧ z = 62 ∧ b = 47 ∧ k = 3 ∧ txt = s.extract 2 (s.size - 1)) ∨
  (a = 60 ∧ z = 62 ∧ b ≠ 47 ∧ y = 47 ∧ k = 4 ∧ txt = s.extract 1 (s.size - 2)) ∨ (a = 60 ∧ z = 62 ∧ b ≠ 47 ∧ y ≠ 47 ∧ k = 2 ∧ txt = s.extract 1 (s.size - 1))
def fullx (k : Int) (txt : ByteArray) (x : Pc) : Prop :=
  (txt.data.toList.head? = some 43 ∧ (k = 2 ∨ k = 3) ∧ x = ⟨k, txt.extract 1 txt.size, true⟩) ∨ (¬ (txt.data.toList.head? = some 43 ∧ (k = 2 ∨ k = 3)) ∧ x = ⟨k, txt, false⟩)
def ends (s : ByteArray) (a z b y : UInt8) : Prop := s.data.toList[0]? = some a ∧ s.data.toList[s.size - 1]? = some z ∧ s.data.toList[1]? = some b ∧ s.data.toList[s.size - 2]? = some y
theorem ba_ext {x y : ByteArray} (h : x.data.toList = y.data.toList) : x = y := by
  obtain ⟨⟨x⟩⟩ := x
  obtain ⟨⟨y⟩⟩ := y
  simp at h
  rw [h]
/-- a name's first and last byte -/
theorem name_ends {n : ByteArray} (h : nameB n = true) : ∃ f m l, n.data.toList = f :: m ∧ n.data.toList.getLast? = some l ∧ isL (f.toNat : Int) = true ∧ isT (l.toNat : Int) = true := by
  obtain ⟨⟨f, m, e, hf⟩, hall, _, _⟩ := nameB_chars h
  obtain ⟨l, hl⟩ : ∃ l, n.data.toList.getLast? = some l := by
    rw [e]; exact ⟨_, List.getLast?_eq_some_getLast (by simp)⟩
  exact ⟨f, m, l, e, hl, hf, hall _ (List.mem_of_getLast? hl)⟩
theorem ex1 {s : ByteArray} {c0 e : UInt8} {u : List UInt8} (h : s.data.toList = c0 :: (u ++ [e])) : (s.extract 1 (s.size - 1)).data.toList = u := by
  have hn : s.size - 1 = (c0 :: u).length := by rw [size_eq, h]; simp
  rw [extract_list, hn, h, show c0 :: (u ++ [e]) = (c0 :: u) ++ [e] from rfl, List.take_left]
  rfl
theorem ex2 {s : ByteArray} {c0 c1 e : UInt8} {u : List UInt8} (h : s.data.toList = c0 :: c1 :: (u ++ [e])) : (s.extract 2 (s.size - 1)).data.toList = u := by
  have hn : s.size - 1 = (c0 :: c1 :: u).length := by rw [size_eq, h]; simp
  rw [extract_list, hn, h, show c0 :: c1 :: (u ++ [e]) = (c0 :: c1 :: u) ++ [e] from rfl, List.take_left]
  rfl
theorem ex3 {s : ByteArray} {c0 e1 e2 : UInt8} {u : List UInt8} (h : s.data.toList = c0 :: (u ++ [e1, e2])) : (s.extract 1 (s.size - 2)).data.toList = u := by
  have hn : s.size - 2 = (c0 :: u).length := by rw [size_eq, h]; simp
  rw [extract_list, hn, h, show c0 :: (u ++ [e1, e2]) = (c0 :: u) ++ [e1, e2] from rfl, List.take_left]
  rfl
theorem at_z {s : ByteArray} {u : List UInt8} {e z : UInt8} (h : s.data.toList = u ++ [e]) (hz : s.data.toList[s.size - 1]? = some z) : z = e := by
  rw [size_eq, h] at hz
  simp at hz
  exact hz.symm
theorem at_y {s : ByteArray} {u : List UInt8} {e1 e2 y : UInt8} (h : s.data.toList = u ++ [e1, e2]) (hy : s.data.toList[s.size - 2]? = some y) : y = e1 := by
  rw [size_eq, h] at hy
  simp at hy
  exact hy.symm
/-- the six forms -/
theorem forms {s : ByteArray} {x : Pc} (h : Mk x s.data.toList) : ∃ (f l : UInt8) (m m' : List UInt8), x.s.data.toList = f :: m ∧ x.s.data.toList = m' ++ [l] ∧ f ≠ 43 ∧ f ≠ 47 ∧ l ≠ 47 ∧
    ((x.k = 2 ∧ x.c = false ∧ s.data.toList = 60 :: (x.s.data.toList ++ [62])) ∨ (x.k = 2 ∧ x.c = true ∧ s.data.toList = 60 :: 43 :: (x.s.data.toList ++ [62])) ∨ (x.k = 3 ∧ x.c = false ∧ s.data.toList = 60 :: 47 :: (x.s.data.toList ++ [62])) ∨
      (x.k = 3 ∧ x.c = true ∧ s.data.toList = 60 :: 47 :: 43 :: (x.s.data.toList ++ [62])) ∨ (x.k = 4 ∧ x.c = false ∧ s.data.toList = 60 :: (x.s.data.toList ++ [47, 62])) ∨ (x.k = 5 ∧ x.c = false ∧ s.data.toList = 123 :: (x.s.data.toList ++ [125]))) := by
  obtain ⟨hn, hs, hk⟩ := h.kinds
  obtain ⟨f, m, l, hf, hl, h1, h2⟩ := name_ends hn
  obtain ⟨m', hm'⟩ := List.getLast?_eq_some_iff.1 hl
  refine ⟨f, l, m, m', hf, hm', u8ne (n := 43) (by decide) (isL_isT h1) (by decide), u8ne (n := 47) (by decide) (isL_isT h1) (by decide), u8ne (n := 47) (by decide) h2 (by decide), ?_⟩
  · rcases hk with ⟨e, p, q⟩ | ⟨e, p, q⟩ | ⟨e, c, p, q⟩ | ⟨e, c, p, q⟩ <;> rw [p, q] at hs
    · cases hc : x.c
      · rw [hc] at hs; left; exact ⟨e, rfl, by simpa using hs⟩
      · rw [hc] at hs; right; left; exact ⟨e, rfl, by simpa using hs⟩
    · cases hc : x.c
      · rw [hc] at hs; right; right; left; exact ⟨e, rfl, by simpa using hs⟩
      · rw [hc] at hs; right; right; right; left; exact ⟨e, rfl, by simpa using hs⟩
    · right; right; right; right; left; exact ⟨e, c, by simpa using hs⟩
    · right; right; right; right; right; exact ⟨e, c, by simpa using hs⟩
theorem pc_ext {x : Pc} {k : Int} {n : ByteArray} {c : Bool} (h1 : x.k = k) (h2 : x.c = c) (h3 : n.data.toList = x.s.data.toList) : (⟨k, n, c⟩ : Pc) = x := by
  obtain ⟨k', n', c'⟩ := x
  simp only at h1 h2 h3
  rw [h1, h2, ba_ext h3]
theorem core_ends {s : ByteArray} {x : Pc} {a z b y : UInt8} (h : Mk x s.data.toList) (he : ends s a z b y) : (a = 123 ∧ z = 125) ∨ (a = 60 ∧ z = 62) := by
  obtain ⟨e0, e1, _, _⟩ := he
  obtain ⟨f, l, m, m', _, _, _, _, _, hk⟩ := forms h
  rcases hk with ⟨_, _, e⟩ | ⟨_, _, e⟩ | ⟨_, _, e⟩ | ⟨_, _, e⟩ | ⟨_, _, e⟩ | ⟨_, _, e⟩
  · right
    exact ⟨by rw [e] at e0; simpa using e0.symm, at_z (u := 60 :: x.s.data.toList) e e1⟩
  · right
    exact ⟨by rw [e] at e0; simpa using e0.symm, at_z (u := 60 :: 43 :: x.s.data.toList) e e1⟩
  · right
    exact ⟨by rw [e] at e0; simpa using e0.symm, at_z (u := 60 :: 47 :: x.s.data.toList) e e1⟩
  · right
    exact ⟨by rw [e] at e0; simpa using e0.symm, at_z (u := 60 :: 47 :: 43 :: x.s.data.toList) e e1⟩
  · right
    exact ⟨by rw [e] at e0; simpa using e0.symm, at_z (u := 60 :: (x.s.data.toList ++ [47])) (by rw [e]; simp) e1⟩
  · left
    exact ⟨by rw [e] at e0; simpa using e0.symm, at_z (u := 123 :: x.s.data.toList) e e1⟩
theorem core_of {s : ByteArray} {x : Pc} {a z b y : UInt8} {k : Int} {txt : ByteArray} {x' : Pc} (h : Mk x s.data.toList) (he : ends s a z b y) (hc : core s a z b y k txt) (hf : fullx k txt x') : x' = x := by
  obtain ⟨e0, e1, e2, e3⟩ := he
  obtain ⟨f, l, m, m', hm, hm', n43, n47, l47, hk⟩ := forms h
  have plain : ∀ {k : Int} {txt : ByteArray}, x.k = k → x.c = false → txt.data.toList = x.s.data.toList → fullx k txt x' → x' = x := by
    intro k txt h1 h2 h3 hf
    rcases hf with ⟨g1, _, _⟩ | ⟨_, rfl⟩
    · rw [h3, hm] at g1
      simp at g1
      exact absurd g1 n43
    · exact pc_ext h1 h2 h3
  have plus : ∀ {k : Int} {txt : ByteArray}, x.k = k → (k = 2 ∨ k = 3) → x.c = true → txt.data.toList = 43 :: x.s.data.toList → fullx k txt x' → x' = x := by
    intro k txt h1 hk2 h2 h3 hf
    rcases hf with ⟨_, _, rfl⟩ | ⟨g1, _⟩
    · refine pc_ext h1 h2 ?_
      rw [extract_list, size_eq, List.take_length, h3]; rfl
    · exact absurd ⟨by rw [h3]; rfl, hk2⟩ g1
  rcases hk with ⟨k1, c1, e⟩ | ⟨k1, c1, e⟩ | ⟨k1, c1, e⟩ | ⟨k1, c1, e⟩ | ⟨k1, c1, e⟩ | ⟨k1, c1, e⟩
  · have ha : a = 60 := by rw [e] at e0; simpa using e0.symm
    have hb : b = f := by rw [e, hm] at e2; simpa using e2.symm
    have hy : y = l := at_y (u := 60 :: m') (e2 := 62) (by rw [e, hm']; simp) e3
    rcases hc with ⟨q, _⟩ | ⟨_, _, q, _⟩ | ⟨_, _, _, q, _⟩ | ⟨_, _, _, _, rfl, rfl⟩
    · rw [ha] at q; exact absurd q (by decide)
    · rw [hb] at q; exact absurd q n47
    · rw [hy] at q; exact absurd q l47
    · exact plain k1 c1 (ex1 e) hf
  · have ha : a = 60 := by rw [e] at e0; simpa using e0.symm
    have hb : b = 43 := by rw [e] at e2; simpa using e2.symm
    have hy : y = l := at_y (u := 60 :: 43 :: m') (e2 := 62) (by rw [e, hm']; simp) e3
    rcases hc with ⟨q, _⟩ | ⟨_, _, q, _⟩ | ⟨_, _, _, q, _⟩ | ⟨_, _, _, _, rfl, rfl⟩
    · rw [ha] at q; exact absurd q (by decide)
    · rw [hb] at q; exact absurd q (by decide)
    · rw [hy] at q; exact absurd q l47
    · exact plus k1 (.inl rfl) c1 (ex1 (u := 43 :: x.s.data.toList) e) hf
  · have ha : a = 60 := by rw [e] at e0; simpa using e0.symm
    have hb : b = 47 := by rw [e] at e2; simpa using e2.symm
    rcases hc with ⟨q, _⟩ | ⟨_, _, _, rfl, rfl⟩ | ⟨_, _, q, _⟩ | ⟨_, _, q, _⟩
    · rw [ha] at q; exact absurd q (by decide)
    · exact plain k1 c1 (ex2 e) hf
    · exact absurd hb q
    · exact absurd hb q
  · have ha : a = 60 := by rw [e] at e0; simpa using e0.symm
    have hb : b = 47 := by rw [e] at e2; simpa using e2.symm
    rcases hc with ⟨q, _⟩ | ⟨_, _, _, rfl, rfl⟩ | ⟨_, _, q, _⟩ | ⟨_, _, q, _⟩
    · rw [ha] at q; exact absurd q (by decide)
    · exact plus k1 (.inr rfl) c1 (ex2 (u := 43 :: x.s.data.toList) e) hf
    · exact absurd hb q
    · exact absurd hb q
  · have ha : a = 60 := by rw [e] at e0; simpa using e0.symm
    have hb : b = f := by rw [e, hm] at e2; simpa using e2.symm
    have hy : y = 47 := at_y (u := 60 :: x.s.data.toList) (e2 := 62) e e3
    rcases hc with ⟨q, _⟩ | ⟨_, _, q, _⟩ | ⟨_, _, _, _, rfl, rfl⟩ | ⟨_, _, _, q, _⟩
    · rw [ha] at q; exact absurd q (by decide)
    · rw [hb] at q; exact absurd q n47
    · exact plain k1 c1 (ex3 e) hf
    · exact absurd hy q
  · have ha : a = 123 := by rw [e] at e0; simpa using e0.symm
    rcases hc with ⟨_, _, rfl, rfl⟩ | ⟨q, _⟩ | ⟨q, _⟩ | ⟨q, _⟩
    · exact plain k1 c1 (ex1 e) hf
    · rw [ha] at q; exact absurd q (by decide)
    · rw [ha] at q; exact absurd q (by decide)
    · rw [ha] at q; exact absurd q (by decide)
theorem set3_0 {w : World} {b : Nat} {u0 u1 u2 v0 v1 v2 : Value} {t : TypeId} (h : w.heap[b]? = some (.cells #[u0, u1, u2] t (0, 0))) : (((w.setCell ⟨b, 0, none⟩ v0).setCell ⟨b, 1, none⟩ v1).setCell ⟨b, 2, none⟩ v2).cell? ⟨b, 0, none⟩ = some v0 := by
  rw [Lib.cell_of_heap (set3_cells h v0 v1 v2)]; rfl
theorem set3_1 {w : World} {b : Nat} {u0 u1 u2 v0 v1 v2 : Value} {t : TypeId} (h : w.heap[b]? = some (.cells #[u0, u1, u2] t (0, 0))) : (((w.setCell ⟨b, 0, none⟩ v0).setCell ⟨b, 1, none⟩ v1).setCell ⟨b, 2, none⟩ v2).cell? ⟨b, 1, none⟩ = some v1 := by
  rw [Lib.cell_of_heap (set3_cells h v0 v1 v2)]; rfl
theorem set3_2 {w : World} {b : Nat} {u0 u1 u2 v0 v1 v2 : Value} {t : TypeId} (h : w.heap[b]? = some (.cells #[u0, u1, u2] t (0, 0))) : (((w.setCell ⟨b, 0, none⟩ v0).setCell ⟨b, 1, none⟩ v1).setCell ⟨b, 2, none⟩ v2).cell? ⟨b, 2, none⟩ = some v2 := by
  rw [Lib.cell_of_heap (set3_cells h v0 v1 v2)]; rfl
theorem set3_below {B : Nat} {a w : World} (h : Below B a w) (v0 v1 v2 : Value) : Below B a (((w.setCell ⟨B, 0, none⟩ v0).setCell ⟨B, 1, none⟩ v1).setCell ⟨B, 2, none⟩ v2) :=
  ((h.setCell (p := ⟨B, 0, none⟩) (Nat.le_refl _) _).setCell (p := ⟨B, 1, none⟩) (Nat.le_refl _) _).setCell (p := ⟨B, 2, none⟩) (Nat.le_refl _) _
/-- what the last statement of marked leaves -/
def TailR (s : ByteArray) (w : World) (x : Pc) (s3 : Value) (wx : World) : Prop := ∃ ok : Bool, s3 = .bool ok ∧ wx.cell? ⟨w.heap.size, 0, none⟩ = some (.int .u8 x.k) ∧ wx.cell? ⟨w.heap.size, 1, none⟩ = some (.string x.s) ∧ wx.cell? ⟨w.heap.size, 2, none⟩ = some (.bool x.c) ∧ Below w.heap.size w wx ∧
  (ok = true → Mk x s.data.toList) ∧ (ok = false → ∀ y, ¬ Mk y s.data.toList)
theorem zcells {w : World} {n : Nat} {u0 u1 u2 : Value} {t : TypeId} (h : w.heap[n]? = some (.cells #[u0, u1, u2] t (0, 0))) : w.cell? ⟨n, 0, none⟩ = some u0 ∧ w.cell? ⟨n, 1, none⟩ = some u1 ∧ w.cell? ⟨n, 2, none⟩ = some u2 ∧ w.frozen? ⟨n, 0, none⟩ = false ∧ w.frozen? ⟨n, 1, none⟩ = false ∧ w.frozen? ⟨n, 2, none⟩ = false :=
  ⟨by rw [Lib.cell_of_heap h]; rfl, by rw [Lib.cell_of_heap h]; rfl, by rw [Lib.cell_of_heap h]; rfl, Lib.frozen_of_heap h 0, Lib.frozen_of_heap h 1, Lib.frozen_of_heap h 2⟩
theorem core_uniq {s : ByteArray} {a z b y : UInt8} {k k' : Int} {txt txt' : ByteArray} (h : core s a z b y k txt) (h' : core s a z b y k' txt') : k = k' ∧ txt = txt' := by
  rcases h with ⟨a1, a2, a3, a4⟩ | ⟨a1, a2, a3, a4, a5⟩ | ⟨a1, a2, a3, a4, a5, a6⟩ | ⟨a1, a2, a3, a4, a5, a6⟩ <;>
    rcases h' with ⟨g1, g2, g3, g4⟩ | ⟨g1, g2, g3, g4, g5⟩ | ⟨g1, g2, g3, g4, g5, g6⟩ | ⟨g1, g2, g3, g4, g5, g6⟩
  · exact ⟨a3.trans g3.symm, a4.trans g4.symm⟩
  · rw [a1] at g1; exact absurd g1 (by decide)
  · rw [a1] at g1; exact absurd g1 (by decide)
  · rw [a1] at g1; exact absurd g1 (by decide)
  · rw [a1] at g1; exact absurd g1 (by decide)
  · exact ⟨a4.trans g4.symm, a5.trans g5.symm⟩
  · exact absurd a3 g3
  · exact absurd a3 g3
  · rw [a1] at g1; exact absurd g1 (by decide)
  · exact absurd g3 a3
  · exact ⟨a5.trans g5.symm, a6.trans g6.symm⟩
  · exact absurd a4 g4
  · rw [a1] at g1; exact absurd g1 (by decide)
  · exact absurd g3 a3
  · exact absurd g4 a4
  · exact ⟨a5.trans g5.symm, a6.trans g6.symm⟩
theorem full_uniq {k : Int} {txt : ByteArray} {x x' : Pc} (h : fullx k txt x) (h' : fullx k txt x') : x = x' := by
  rcases h with ⟨h1, h2, rfl⟩ | ⟨h1, rfl⟩ <;> rcases h' with ⟨g1, g2, rfl⟩ | ⟨g1, rfl⟩
  · rfl
  · exact absurd ⟨h1, h2⟩ g1
  · exact absurd ⟨g1, g2⟩ h1
  · rfl
end Go.Proofs.YtnbeomclmggbiaaGreatDoor
