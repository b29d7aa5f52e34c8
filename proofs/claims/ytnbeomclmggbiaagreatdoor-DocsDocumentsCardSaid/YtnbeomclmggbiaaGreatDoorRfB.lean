/- The tag or the hole that a text is, as the specification tells it. The pieces of a text, as the specification reads them. The pieces of a text, as the specification reads them: its loops. -/
import Derived.Test.YtnbeomclmggbiaaGreatDoorRf3n
import Derived.Test.YtnbeomclmggbiaaGreatDoorRf3y
import Derived.Test.YtnbeomclmggbiaaGreatDoorRwA
namespace Go.Proofs.YtnbeomclmggbiaaGreatDoor
open Go Go.RowKit Go.Lib
set_option maxRecDepth 1000000
theorem ends_uniq {s : ByteArray} {a z b y a' z' b' y' : UInt8} (h : ends s a z b y) (h' : ends s a' z' b' y') : a = a' ∧ z = z' ∧ b = b' ∧ y = y' := by
  obtain ⟨h1, h2, h3, h4⟩ := h
  obtain ⟨g1, g2, g3, g4⟩ := h'
  exact ⟨Option.some.inj (h1.symm.trans g1), Option.some.inj (h2.symm.trans g2), Option.some.inj (h3.symm.trans g3), Option.some.inj (h4.symm.trans g4)⟩
set_option maxHeartbeats 8000000 in
theorem marked_any (s : ByteArray) (w : World) (hs : s.size ≤ 100000) :
    Calls Tryz.prog 101 #[.string s] w fun e w' => MarkEnd s e ∧ Below w.heap.size w w' := by
  have ag := Tryz.isAgg56
  have zg := Tryz.sizeOf56
  by_cases h3 : s.size < 3
  · have h3I : (s.size : Int) < 3 := by omega
    have HX := Lib.hid (show ∀ y, ¬ Mk y s.data.toList by
      intro y hy
      have h1 := hy.size
      have h2 := (nameB_chars hy.kinds.1).2.2.1
      have := size_eq s
      omega)
    clear h3
    go_enter Tryz.func101, Tryz.ntmps101
    go_wp2
    have c0 : (w.alloc (.cells #[.int .u8 0, .string ⟨#[]⟩, .bool false] 56)).heap[w.heap.size]? = some (.cells #[.int .u8 0, .string ⟨#[]⟩, .bool false] 56 (0, 0)) := by show (w.heap.push _)[_]? = _; simp
    refine bodyPost_ret (results_ct (xs := [.int .u8 0, .string ⟨#[]⟩, .bool false]) rfl rfl ag zg (three_cells (by rw [Lib.cell_of_heap c0]; rfl) (by rw [Lib.cell_of_heap c0]; rfl) (by rw [Lib.cell_of_heap c0]; rfl))) rfl ?_
    exact ⟨⟨⟨0, ⟨#[]⟩, false⟩, false, rfl, fun h => Bool.noConfusion h, fun _ => HX.out⟩, (Below.refl _ _).alloc (Nat.le_refl _) _⟩
  by_cases hP : ∃ a z b y k txt x, ends s a z b y ∧ core s a z b y k txt ∧ fullx k txt x ∧ nameB x.s = true
  · obtain ⟨a, z, b, y, k, txt, x, e1, e2, e3, e4⟩ := hP
    refine marked_yes s w hs h3 fun a' z' b' y' k' txt' x' g1 g2 g3 => ?_
    obtain ⟨rfl, rfl, rfl, rfl⟩ := ends_uniq e1 g1
    obtain ⟨rfl, rfl⟩ := core_uniq e2 g2
    rw [← full_uniq e3 g3]
    exact e4
  · refine marked_no s w hs h3 fun a z b y k txt x g1 g2 g3 => ?_
    cases hn : nameB x.s
    · rfl
    · exact absurd ⟨a, z, b, y, k, txt, x, g1, g2, g3, hn⟩ hP
end Go.Proofs.YtnbeomclmggbiaaGreatDoor
namespace Go.Proofs.YtnbeomclmggbiaaGreatDoor
open Go Go.RowKit Go.Lib
set_option maxRecDepth 1000000
theorem cell_new3 (w : World) (a b c : Value) (t : TypeId) : ∀ j u, [a, b, c][j]? = some u → (w.alloc (.cells #[a, b, c] t)).cell? ((⟨w.heap.size, 0, none⟩ : Addr).add j) = some u :=
  World.news_of_block (w := w.alloc (.cells #[a, b, c] t)) (B := w.heap.size) (cs := #[a, b, c]) (t := t) (fr := (0, 0)) (by show (w.heap.push _)[_]? = _; simp)
theorem ok_app (l m : List Pc) : (l ++ m).all okT = (l.all okT && m.all okT) := by simp
/-- what the specification's reader holds ahead of each round -/
structure RdI (s : ByteArray) (w : World) (v : Value) (o : List Pc) (t : List UInt8) (k : Nat) (wr : World) : Prop where
  st : St s.data.toList o t (s.data.toList.drop k)
  own : OwnP w.heap.size v o wr
  ok : o.all okT = true
  below : Below w.heap.size w wr
  few : bulk o + 2 * t.length + 2 * (s.size - k) ≤ 2 * s.size
theorem RdI.step {s : ByteArray} {w : World} {v : Value} {o : List Pc} {t : List UInt8} {k : Nat} {wr w2 : World} (h : RdI s w v o t k wr) (hb : Below wr.heap.size wr w2) : RdI s w v o t k w2 :=
  ⟨h.st, h.own.step hb, h.ok, below_next h.below hb, h.few⟩
theorem drop_cons {s : ByteArray} {k : Nat} (hk : k < s.size) : s.data.toList.drop k = s[k] :: s.data.toList.drop (k + 1) := by
  rw [List.drop_eq_getElem_cons (by simpa using hk)]
  congr 1
/-- a text that is none, though a form is read -/
theorem St.bad {s : ByteArray} {o : List Pc} {t rest : List UInt8} (h : St s.data.toList o t rest) (hr : rest = [] ∨ ∃ c r, rest = c :: r ∧ (c = 60 ∨ c = 123)) (ht : textL t = false) : readV s = none := by
  have h2 := h.flush hr
  unfold St at h2
  cases hx : toks rest with
  | none => rw [hx] at h2; exact readV_not (.inr h2)
  | some ts =>
    rw [hx] at h2
    have h3 := text_reads h2
    refine readV_not (.inl ?_)
    rw [h3, ok_app, ok_app, flush_ok, ht]
    simp
theorem St.good {s : ByteArray} {o : List Pc} (h : St s.data.toList o [] []) (ho : o.all okT = true) : readV s = some o := by
  have h2 := h.done
  rw [show Go.Proofs.YtnbeomclmggbiaaGreatDoor.flush [] = [] from rfl, List.append_nil] at h2
  exact readV_some (by rw [text_reads h2, ho]) h2
theorem UpEnd.none {s : ByteArray} {k : Nat} {c : UInt8} {e : Ending} (h : UpEnd s k c e) (hj : indexByte (s.data.toList.drop k) c = -1) : e = .returned (.int .i64 (-1)) := by
  obtain ⟨z, rfl, h | ⟨j, h, _⟩⟩ := h
  · rw [h.2]
  · rw [hj] at h; omega
theorem UpEnd.some {s : ByteArray} {k j : Nat} {c : UInt8} {e : Ending} (h : UpEnd s k c e) (hj : indexByte (s.data.toList.drop k) c = (j : Int)) : e = .returned (.int .i64 ((k + j : Nat) : Int)) := by
  obtain ⟨z, rfl, h | ⟨j', h, h2⟩⟩ := h
  · rw [hj] at h; omega
  · rw [hj] at h
    have : j = j' := by omega
    rw [h2, this]
theorem ext_byte {s : ByteArray} {k : Nat} {t : List UInt8} {d : UInt8} (hk : k < s.size) (hd : s[k] = d) : bytes t ++ s.extract k (k + 1) = bytes (t ++ [d]) := by
  have e : (s.extract k (k + 1)).data.toList = [d] := by
    have hl : k < s.data.toList.length := by simpa using hk
    have hg : s.data.toList[k] = d := by rw [← hd]; rfl
    rw [extract_list, List.take_succ_eq_append_getElem hl, hg, List.drop_append_of_le_length (by rw [List.length_take]; omega)]
    rw [List.drop_eq_nil_of_le (by rw [List.length_take]; omega)]
    rfl
  rw [bytes_app, e]
end Go.Proofs.YtnbeomclmggbiaaGreatDoor
namespace Go.Proofs.YtnbeomclmggbiaaGreatDoor
open Go Go.RowKit Go.Lib
set_option maxRecDepth 1000000
set_option maxHeartbeats 16000000 in
theorem refRead_any (s : ByteArray) (w : World) (hs : s.size ≤ 4000) :
    Calls Tryz.prog 94 #[.string s] w fun e w' => ReadEnd s e w' ∧ Below w.heap.size w w' := by
  obtain ⟨i0, hi, hz0, hz1, hz2⟩ := info_parts info_pc
  have ag := Tryz.isAgg56
  have zg := Tryz.sizeOf56
  have hI : ¬ (65536 : Int) < (s.size : Int) := by omega
  have h0 : ¬ 65536 < s.size := by omega
  have bad : Hid (readV s = none → ∀ w', Below w.heap.size w w' → ReadEnd s (.returned (.tuple #[.slice none 0 0, .int .u8 4])) w' ∧ Below w.heap.size w w') := by
    intro hv w' hb
    have hr := read_none h0 hv
    exact ⟨⟨.slice none 0 0, by rw [hr.1], by rw [hr.2]; exact OwnP.nil _ _, by rw [hr.2]; simp [bulk]⟩, hb⟩
  go_enter Tryz.func94, Tryz.ntmps94
  go_wp2
  go_loopw [4, 5] (fun v0 i wr => ∃ (v : Value) (k : Nat) (o : List Pc), v = v0 ∧ k ≤ s.size ∧ i = .int .i64 k ∧ Hid (RdI s w v o [] k wr)) (fun _ i _ => s.size - (RowKit.intOf i).toNat)
  case atStart => exact ⟨_, 0, [], rfl, Nat.zero_le _, rfl, ⟨St.start _, OwnP.nil _ _, rfl, Below.refl _ _, by simp [bulk]⟩⟩
  case round =>
    obtain ⟨v, k, o, rfl, hk, rfl, HI⟩ := hrel
    by_cases hlt : k < s.size
    · have hltI : (k : Int) < (s.size : Int) := by omega
      have hk0 : (0 : Int) ≤ (k : Int) := by omega
      obtain ⟨c, hc⟩ : ∃ c, s[k]'hlt = c := ⟨_, rfl⟩
      have hdr := drop_cons hlt
      rw [hc] at hdr
      have HD := Lib.hid hdr
      by_cases hm : c = 60 ∨ c = 123
      · have hkey : ∀ (E : UInt8), E = endOf c → (indexByte (s.data.toList.drop k) E = -1 → readV s = none) ∧ (∀ j : Nat, indexByte (s.data.toList.drop k) E = (j : Int) → (∀ x, Mk x ((s.data.toList.drop k).take (j + 1)) → k + j < s.size ∧ ∀ v' wr', OwnP w.heap.size v' (o ++ [x]) wr' → Below w.heap.size w wr' → RdI s w v' (o ++ [x]) [] (k + j + 1) wr') ∧ ((∀ x, ¬ Mk x ((s.data.toList.drop k).take (j + 1))) → readV s = none)) := by
          rintro E rfl
          have hi := HI.out
          have hst := hi.st
          rw [hdr] at hst ⊢
          refine ⟨fun hj => readV_not (.inr (St.mark_end hst hm hj)), fun j hj => ⟨fun x hx => ?_, fun hn => readV_not (.inr (St.mark_bad hst hm hj hn))⟩⟩
          have hjl := indexByte_cut hj
          have hl : (c :: s.data.toList.drop (k + 1)).length = s.size - k := by rw [← hdr, List.length_drop, ← size_eq]
          have hkj : k + j < s.size := by omega
          refine ⟨hkj, fun v' wr' hown hb => ⟨?_, hown, ?_, hb, ?_⟩⟩
          · have h2 := St.mark hst hm hj hx
            rw [show Go.Proofs.YtnbeomclmggbiaaGreatDoor.flush [] = [] from rfl, List.append_nil, ← hdr, List.drop_drop] at h2
            exact h2
          · rw [ok_app, hi.ok]
            simp [okT, hx.1]
          · have hxs := hx.size
            rw [List.length_take] at hxs
            have := hi.few
            have h2 : bulk [x] = x.s.size + 1 := by simp [bulk]; omega
            rw [bulk_app, h2]
            simp only [List.length_nil] at *
            omega
        have HKEY := Lib.hid (hkey (endOf c) rfl)
        clear hkey hdr
        have cU62 : ∀ w2, Calls Tryz.prog 49 #[.string s, .int .i64 (k : Int), .int .u8 62] w2 fun e w' => UpEnd s k 62 e ∧ w' = w2 := fun w2 => upTo_any s k 62 w2 (by omega) hk
        have cU125 : ∀ w2, Calls Tryz.prog 49 #[.string s, .int .i64 (k : Int), .int .u8 125] w2 fun e w' => UpEnd s k 125 e ∧ w' = w2 := fun w2 => upTo_any s k 125 w2 (by omega) hk
        by_cases hj : indexByte (s.data.toList.drop k) (endOf c) = -1
        · have HB := Lib.hid (bad.out (HKEY.out.1 hj))
          have HBW := Lib.hid HI.out.below
          rcases hm with rfl | rfl
          · have HJ := Lib.hid (show indexByte (s.data.toList.drop k) 62 = -1 from hj)
            clear hj
            go_wp2_with (go_at_call 49; (with_reducible refine (cU62 _).mono ?_); rintro e w2 ⟨hu, hw⟩; obtain rfl := hw.symm; obtain rfl := hu.none HJ.out)
            go_ret2
            exact HB.out _ HBW.out
          · have HJ := Lib.hid (show indexByte (s.data.toList.drop k) 125 = -1 from hj)
            clear hj
            go_wp2_with (first
              | (go_at_call 49; (with_reducible refine (cU62 _).mono ?_); rintro e w2 ⟨hu, hw⟩; obtain rfl := hw.symm; obtain ⟨z62, rfl, hz62⟩ := hu; clear hz62)
              | (go_at_call 49; (with_reducible refine (cU125 _).mono ?_); rintro e w2 ⟨hu, hw⟩; obtain rfl := hw.symm; obtain rfl := hu.none HJ.out))
            go_ret2
            exact HB.out _ HBW.out
        · obtain ⟨j, hj⟩ : ∃ j : Nat, indexByte (s.data.toList.drop k) (endOf c) = (j : Int) := ⟨(indexByte (s.data.toList.drop k) (endOf c)).toNat, by have := indexByte_ge (s.data.toList.drop k) (endOf c); omega⟩
          have hjl := indexByte_cut hj
          rw [List.length_drop, ← size_eq] at hjl
          obtain ⟨en, hen⟩ : ∃ en, en = k + j := ⟨_, rfl⟩
          have hen0 : ¬ ((en : Int) < 0) := by omega
          have hwr1 : IntKind.i64.wrap ((en : Int) + 1) = (en : Int) + 1 := by rw [IntKind.wrap_i64]; omega
          have htn : ((en : Int) + 1).toNat = en + 1 := by omega
          have hle1 : (k : Int) ≤ (en : Int) + 1 := by omega
          have hle2 : (en : Int) + 1 ≤ (s.size : Int) := by omega
          obtain ⟨m1, e1⟩ : ∃ m1, s.extract k (en + 1) = m1 := ⟨_, rfl⟩
          have h1 : m1.data.toList = (s.data.toList.drop k).take (j + 1) := by
            rw [← e1, extract_list, hen, List.drop_take]
            congr 1
            omega
          have hz1 : m1.size ≤ 100000 := by rw [size_eq, h1, List.length_take]; omega
          have cM := fun w2 => marked_any m1 w2 hz1
          by_cases hex : ∃ x, Mk x ((s.data.toList.drop k).take (j + 1))
          · obtain ⟨x, hx⟩ := hex
            obtain ⟨hkj, hri⟩ := (HKEY.out.2 j hj).1 x hx
            have HRI := Lib.hid hri
            have HMK := Lib.hid (show Mk x m1.data.toList by rw [h1]; exact hx)
            have hown := HI.out.own
            unfold OwnP at hown
            have hol := bulk_len o
            have hfew := HI.out.few
            have hxs : x.s.size ≤ 4000 := by have h3 := hx.size; rw [List.length_take, List.length_drop, ← size_eq] at h3; omega
            have HEN := Lib.hid hen
            obtain ⟨xk, xs, xc⟩ := x
            have news2 : Hid (∀ w2 : World, ∀ j u, ([.int .u8 xk, .string xs, .bool xc] : List Value)[j]? = some u → ((w2.alloc (.cells #[.int .u8 xk, .string xs, .bool xc] 56)).alloc (.cells #[.int .u8 xk, .string xs, .bool xc] 56)).cell? ((⟨w2.heap.size + 1, 0, none⟩ : Addr).add j) = some u) := fun w2 => by
              have := cell_new3 (w2.alloc (.cells #[.int .u8 xk, .string xs, .bool xc] 56)) (.int .u8 xk) (.string xs) (.bool xc) 56
              rw [show (w2.alloc (.cells #[.int .u8 xk, .string xs, .bool xc] 56)).heap.size = w2.heap.size + 1 by simp] at this
              exact this
            have one3 := Lib.hid (show ∀ u ∈ ([.int .u8 xk, .string xs, .bool xc] : List Value), u.oneCell' = true by intro u hu; simp at hu; rcases hu with rfl | rfl | rfl <;> rfl)
            have q1 := Lib.hid (show o.length + 1 ≤ maxLen by unfold maxLen; omega)
            have q2 := Lib.hid (show (o.length + 1) * 32 ≤ 140737488355328 by omega)
            have q3 : Hid (∀ w2 : World, w.heap.size ≤ w2.heap.size → w.heap.size ≤ ((w2.alloc (.cells #[.int .u8 xk, .string xs, .bool xc] 56)).alloc (.cells #[.int .u8 xk, .string xs, .bool xc] 56)).heap.size) := fun w2 h => by simp; omega
            rcases hm with rfl | rfl
            · have HJ := Lib.hid (show indexByte (s.data.toList.drop k) 62 = (j : Int) from hj)
              clear hj hen hjl h1 hx hri hz1 hfew
              go_wp2_with (first
                | (go_at_call 49; (with_reducible refine (cU62 _).mono ?_); rintro e w2 ⟨hu, hw⟩; obtain rfl := hw.symm; obtain rfl := (hu.some HJ.out); rw [← HEN.out])
                | (go_at_call 101; (with_reducible refine (cM _).mono ?_); rintro e w2 ⟨hmk, hb2⟩; obtain rfl := hmk.some HMK.out; have HB2 := Lib.hid (below_next HI.out.below hb2); have hown2 := ownsRow_step hb2 hown; have hsz2 := HB2.out.size; clear hmk hb2)
                | (at_builtin; refine wpList_append_own _ rfl _ _ 35 rfl w.heap.size 56 i0 _ 3 32 Tryz.underlying35 hi hz0 hz1 hz2 rfl (by decide) _ _ _ rfl ((hown2.alloc (.cells #[.int .u8 xk, .string xs, .bool xc] 56)).alloc (.cells #[.int .u8 xk, .string xs, .bool xc] 56)) ⟨w2.heap.size + 1, 0, none⟩ 1 1 [.int .u8 xk, .string xs, .bool xc] rfl rfl (news2.out w2) one3.out q1.out q2.out (q3.out w2 hsz2) ?_; intro v3 w3 hown3 hgrow3 hnil3
                   have HB3 := Lib.hid (((HB2.out.alloc hsz2 (.cells #[.int .u8 xk, .string xs, .bool xc] 56)).alloc (by simp; omega) (.cells #[.int .u8 xk, .string xs, .bool xc] 56)).grown hgrow3 (q3.out w2 hsz2) (fun k hk => (hown2.lt k hk).1))
                   have HG3 := Lib.hid (HRI.out v3 w3 (OwnP.more (x := ⟨xk, xs, xc⟩) hown3) HB3.out)
                   clear hown hown2 hown3 hgrow3 hnil3))
              go_roundw
              case rel => exact ⟨v3, k + j + 1, _, rfl, by omega, by rw [HEN.out]; simp, HG3.out⟩
              case measure => have := HEN.out; simp [RowKit.intOf]; omega
            · have HJ := Lib.hid (show indexByte (s.data.toList.drop k) 125 = (j : Int) from hj)
              clear hj hen hjl h1 hx hri hz1 hfew
              go_wp2_with (first
                | (go_at_call 49; (with_reducible refine (cU62 _).mono ?_); rintro e w2 ⟨hu, hw⟩; obtain rfl := hw.symm; obtain ⟨z62, rfl, hz62⟩ := hu; clear hz62)
                | (go_at_call 49; (with_reducible refine (cU125 _).mono ?_); rintro e w2 ⟨hu, hw⟩; obtain rfl := hw.symm; obtain rfl := (hu.some HJ.out); rw [← HEN.out])
                | (go_at_call 101; (with_reducible refine (cM _).mono ?_); rintro e w2 ⟨hmk, hb2⟩; obtain rfl := hmk.some HMK.out; have HB2 := Lib.hid (below_next HI.out.below hb2); have hown2 := ownsRow_step hb2 hown; have hsz2 := HB2.out.size; clear hmk hb2)
                | (at_builtin; refine wpList_append_own _ rfl _ _ 35 rfl w.heap.size 56 i0 _ 3 32 Tryz.underlying35 hi hz0 hz1 hz2 rfl (by decide) _ _ _ rfl ((hown2.alloc (.cells #[.int .u8 xk, .string xs, .bool xc] 56)).alloc (.cells #[.int .u8 xk, .string xs, .bool xc] 56)) ⟨w2.heap.size + 1, 0, none⟩ 1 1 [.int .u8 xk, .string xs, .bool xc] rfl rfl (news2.out w2) one3.out q1.out q2.out (q3.out w2 hsz2) ?_; intro v3 w3 hown3 hgrow3 hnil3
                   have HB3 := Lib.hid (((HB2.out.alloc hsz2 (.cells #[.int .u8 xk, .string xs, .bool xc] 56)).alloc (by simp; omega) (.cells #[.int .u8 xk, .string xs, .bool xc] 56)).grown hgrow3 (q3.out w2 hsz2) (fun k hk => (hown2.lt k hk).1))
                   have HG3 := Lib.hid (HRI.out v3 w3 (OwnP.more (x := ⟨xk, xs, xc⟩) hown3) HB3.out)
                   clear hown hown2 hown3 hgrow3 hnil3))
              go_roundw
              case rel => exact ⟨v3, k + j + 1, _, rfl, by omega, by rw [HEN.out]; simp, HG3.out⟩
              case measure => have := HEN.out; simp [RowKit.intOf]; omega
          · have HNM := Lib.hid (show ∀ x, ¬ Mk x m1.data.toList by rw [h1]; exact fun x hx => hex ⟨x, hx⟩)
            have HB := Lib.hid (bad.out ((HKEY.out.2 j hj).2 (fun x hx => hex ⟨x, hx⟩)))
            have HEN := Lib.hid hen
            clear hex h1 hz1 hjl
            rcases hm with rfl | rfl
            · have HJ := Lib.hid (show indexByte (s.data.toList.drop k) 62 = (j : Int) from hj)
              clear hj hen
              go_wp2_with (first
                | (go_at_call 49; (with_reducible refine (cU62 _).mono ?_); rintro e w2 ⟨hu, hw⟩; obtain rfl := hw.symm; obtain rfl := (hu.some HJ.out); rw [← HEN.out])
                | (go_at_call 101; (with_reducible refine (cM _).mono ?_); rintro e w2 ⟨hmk, hb2⟩; obtain ⟨⟨xk, xs, xc⟩, rfl⟩ := hmk.none HNM.out; have HB2 := Lib.hid (below_next HI.out.below hb2); clear hmk hb2))
              go_ret2
              exact HB.out _ (HB2.out.alloc HB2.out.size _)
            · have HJ := Lib.hid (show indexByte (s.data.toList.drop k) 125 = (j : Int) from hj)
              clear hj hen
              go_wp2_with (first
                | (go_at_call 49; (with_reducible refine (cU62 _).mono ?_); rintro e w2 ⟨hu, hw⟩; obtain rfl := hw.symm; obtain ⟨z62, rfl, hz62⟩ := hu; clear hz62)
                | (go_at_call 49; (with_reducible refine (cU125 _).mono ?_); rintro e w2 ⟨hu, hw⟩; obtain rfl := hw.symm; obtain rfl := (hu.some HJ.out); rw [← HEN.out])
                | (go_at_call 101; (with_reducible refine (cM _).mono ?_); rintro e w2 ⟨hmk, hb2⟩; obtain ⟨⟨xk, xs, xc⟩, rfl⟩ := hmk.none HNM.out; have HB2 := Lib.hid (below_next HI.out.below hb2); clear hmk hb2))
              go_ret2
              exact HB.out _ (HB2.out.alloc HB2.out.size _)
      · have hc60 : ((c.toNat : Int) == 60) = false := beq_eq_false_iff_ne.2 (fun e => hm (.inl (UInt8.toNat_inj.1 (by show c.toNat = 60; omega))))
        have hc123 : ((c.toNat : Int) == 123) = false := beq_eq_false_iff_ne.2 (fun e => hm (.inr (UInt8.toNat_inj.1 (by show c.toNat = 123; omega))))
        have HM := Lib.hid hm
        clear hdr hm
        go_wp2
        go_loopw [5, 10] (fun i x w2 => ∃ (k2 : Nat) (t : List UInt8), k ≤ k2 ∧ k2 ≤ s.size ∧ i = .int .i64 k2 ∧ x = .string (bytes t) ∧ Hid (RdI s w v o t k2 w2) ∧ Hid (k2 = k ∨ t ≠ [])) (fun i _ _ => s.size - (RowKit.intOf i).toNat)
        case atStart => exact ⟨k, [], Nat.le_refl _, hk, rfl, rfl, HI.out, .inl rfl⟩
        case round =>
          obtain ⟨k2, t, hkk, hk2, rfl, rfl, HJ, HN⟩ := hrel
          have hk20 : (0 : Int) ≤ (k2 : Int) := by omega
          have hfew := HJ.out.few
          have hbt : (bytes t).size ≤ 100000 := by rw [bsize]; omega
          have cT := fun w2 => refText_any (bytes t) w2 hbt
          rw [show textB (bytes t) = textL t from rfl] at cT
          have fin : Hid (s.data.toList.drop k2 = [] ∨ (∃ c r, s.data.toList.drop k2 = c :: r ∧ (c = 60 ∨ c = 123)) → (textL t = false → readV s = none) ∧ (textL t = true → t ≠ [] → ∀ v' wr' , OwnP w.heap.size v' (o ++ [⟨1, bytes t, false⟩]) wr' → Below w.heap.size w wr' → RdI s w v' (o ++ [⟨1, bytes t, false⟩]) [] k2 wr')) := by
            intro hr
            have hi := HJ.out
            refine ⟨fun ht => St.bad hi.st hr ht, fun ht hne v' wr' hown hb => ⟨?_, hown, ?_, hb, ?_⟩⟩
            · have := hi.st.flush hr
              rw [show Go.Proofs.YtnbeomclmggbiaaGreatDoor.flush t = [⟨1, bytes t, false⟩] by unfold Go.Proofs.YtnbeomclmggbiaaGreatDoor.flush; rw [if_neg hne]] at this
              exact this
            · rw [ok_app, hi.ok]
              simp [okT, textB_L, bytes_list, ht]
            · have := hi.few
              have hp := List.length_pos_iff.2 hne
              have h2 : bulk [⟨1, bytes t, false⟩] = t.length + 1 := by simp [bulk, bsize]; omega
              rw [bulk_app, h2, List.length_nil]
              omega
          by_cases hlt2 : k2 < s.size
          · have hlt2I : (k2 : Int) < (s.size : Int) := by omega
            obtain ⟨d, hd⟩ : ∃ d, s[k2]'hlt2 = d := ⟨_, rfl⟩
            have hdr2 := drop_cons hlt2
            rw [hd] at hdr2
            by_cases hm2 : d = 60 ∨ d = 123
            · have hne : t ≠ [] := by
                rcases HN.out with e | e
                · subst e
                  have : d = c := by rw [← hd, ← hc]
                  rw [this] at hm2
                  exact absurd hm2 HM.out
                · exact e
              have HF := Lib.hid (fin.out (.inr ⟨d, _, hdr2, hm2⟩))
              have HNE := Lib.hid hne
              have hgt : k < k2 := by
                rcases HN.out with e | e
                · subst e
                  have : d = c := by rw [← hd, ← hc]
                  rw [this] at hm2
                  exact absurd hm2 HM.out
                · by_cases e2 : k = k2
                  · subst e2
                    have : d = c := by rw [← hd, ← hc]
                    rw [this] at hm2
                    exact absurd hm2 HM.out
                  · omega
              clear hdr2 hne fin HN
              rcases hm2 with rfl | rfl
              all_goals
                cases htl : textL t
                · rw [htl] at cT
                  have HB := Lib.hid (bad.out ((HF.out).1 htl))
                  clear htl
                  go_wp2_with (go_at_call 110; (with_reducible refine (cT _).mono ?_); rintro e w2 ⟨rfl, hb2⟩; have HB2 := Lib.hid (below_next HJ.out.below hb2); clear hb2)
                  go_ret2
                  exact HB.out _ HB2.out
                · rw [htl] at cT
                  have HG := Lib.hid ((HF.out).2 htl HNE.out)
                  have hown := HJ.out.own
                  unfold OwnP at hown
                  have hol := bulk_len o
                  clear htl
                  go_wp2_with (first
                    | (go_at_call 110; (with_reducible refine (cT _).mono ?_); rintro e w2 ⟨rfl, hb2⟩; have HB2 := Lib.hid (below_next HJ.out.below hb2); have hown2 := ownsRow_step hb2 hown; have hsz2 := HB2.out.size; clear hb2)
                    | (at_builtin; refine wpList_append_own _ rfl _ _ 35 rfl w.heap.size 56 i0 _ 3 32 Tryz.underlying35 hi hz0 hz1 hz2 rfl (by decide) _ _ _ rfl (hown2.alloc _) ⟨w2.heap.size, 0, none⟩ 1 1 [.int .u8 1, .string (bytes t), .bool false] rfl rfl (cell_new3 _ _ _ _ _) (fun u hu => by simp at hu; rcases hu with rfl | rfl | rfl <;> rfl) (by unfold maxLen; omega) (by omega) (by simp; omega) ?_; intro v3 w3 hown3 hgrow3 hnil3
                       have HB3 := Lib.hid ((HB2.out.alloc hsz2 (.cells #[.int .u8 1, .string (bytes t), .bool false] 56)).grown hgrow3 (by simp; omega) (fun k hk => (hown2.lt k hk).1))
                       have HG3 := Lib.hid (HG.out v3 w3 (OwnP.more (x := ⟨1, bytes t, false⟩) hown3) HB3.out)
                       clear hown hown2 hown3 hgrow3 hnil3))
                  go_roundw
                  case rel => exact ⟨v3, k2, _, rfl, hk2, rfl, HG3.out⟩
                  case measure => simp [RowKit.intOf]; omega
            · have hd60 : ((d.toNat : Int) == 60) = false := beq_eq_false_iff_ne.2 (fun e => hm2 (.inl (UInt8.toNat_inj.1 (by show d.toNat = 60; omega))))
              have hd123 : ((d.toNat : Int) == 123) = false := beq_eq_false_iff_ne.2 (fun e => hm2 (.inr (UInt8.toNat_inj.1 (by show d.toNat = 123; omega))))
              have nd60 : ¬ (d.toNat : Int) = 60 := of_decide_eq_false (by simpa using hd60)
              have nd123 : ¬ (d.toNat : Int) = 123 := of_decide_eq_false (by simpa using hd123)
              have pd60 : ((d.toNat : Int) != 60) = true := by simp [bne, hd60]
              have pd123 : ((d.toNat : Int) != 123) = true := by simp [bne, hd123]
              have hst := HJ.out.st
              rw [hdr2] at hst
              by_cases h92 : d = 92
              · subst h92
                have hwr1 : IntKind.i64.wrap ((k2 : Int) + 1) = (k2 : Int) + 1 := by rw [IntKind.wrap_i64]; omega
                have hk21 : (0 : Int) ≤ (k2 : Int) + 1 := by omega
                by_cases hend : k2 + 1 = s.size
                · have hendI : (s.size : Int) = (k2 : Int) + 1 := by omega
                  have HB := Lib.hid (bad.out (readV_not (.inr (St.esc_bad hst (by rw [List.drop_eq_nil_of_le (by have := size_eq s; omega)]; decide)))))
                  have HB2 := Lib.hid HJ.out.below
                  clear hdr2 hst fin HN hm2 hend
                  go_wp2
                  go_ret2
                  exact HB.out _ HB2.out
                · have hlt3 : k2 + 1 < s.size := by omega
                  have hlt3I : (k2 : Int) + 1 < (s.size : Int) := by omega
                  have hneI : ((k2 : Int) + 1 == (s.size : Int)) = false := beq_eq_false_iff_ne.2 (by omega)
                  have hneI2 : ¬ ((k2 : Int) + 1 = (s.size : Int)) := by omega
                  have htn : ((k2 : Int) + 1).toNat = k2 + 1 := by omega
                  obtain ⟨d2, hd2⟩ : ∃ d2, s[k2 + 1]'hlt3 = d2 := ⟨_, rfl⟩
                  have hdr3 := drop_cons hlt3
                  rw [hd2] at hdr3
                  rw [hdr3] at hst
                  cases hsp : special d2
                  · obtain ⟨n1, n2, n3⟩ := special_not hsp
                    have b1 : ((d2.toNat : Int) == 92) = false := beq_eq_false_iff_ne.2 (fun e => n1 (UInt8.toNat_inj.1 (by show d2.toNat = 92; omega)))
                    have b2 : ((d2.toNat : Int) == 60) = false := beq_eq_false_iff_ne.2 (fun e => n2 (UInt8.toNat_inj.1 (by show d2.toNat = 60; omega)))
                    have b3 : ((d2.toNat : Int) == 123) = false := beq_eq_false_iff_ne.2 (fun e => n3 (UInt8.toNat_inj.1 (by show d2.toNat = 123; omega)))
                    have m1 : ¬ (d2.toNat : Int) = 92 := of_decide_eq_false (by simpa using b1)
                    have m2 : ¬ (d2.toNat : Int) = 60 := of_decide_eq_false (by simpa using b2)
                    have m3 : ¬ (d2.toNat : Int) = 123 := of_decide_eq_false (by simpa using b3)
                    have p1 : ((d2.toNat : Int) != 92) = true := by simp [bne, b1]
                    have p2 : ((d2.toNat : Int) != 60) = true := by simp [bne, b2]
                    have p3 : ((d2.toNat : Int) != 123) = true := by simp [bne, b3]
                    have HB := Lib.hid (bad.out (readV_not (.inr (St.esc_bad hst hsp))))
                    have HB2 := Lib.hid HJ.out.below
                    clear hdr2 hdr3 hst fin HN hm2 hend n1 n2 n3 hsp
                    go_wp2
                    go_ret2
                    exact HB.out _ HB2.out
                  · have HE := Lib.hid (ext_byte (t := t) hlt3 hd2)
                    have HR : Hid (RdI s w v o (t ++ [d2]) (k2 + 2) wr) := ⟨St.esc hst hsp, HJ.out.own, HJ.out.ok, HJ.out.below, by rw [List.length_append]; simp only [List.length_cons, List.length_nil]; omega⟩
                    have hwr2 : IntKind.i64.wrap ((k2 : Int) + 1 + 1) = (k2 : Int) + 1 + 1 := by rw [IntKind.wrap_i64]; omega
                    have htn2 : ((k2 : Int) + 1 + 1).toNat = k2 + 1 + 1 := by omega
                    have hlt4I : (k2 : Int) + 1 + 1 ≤ (s.size : Int) := by omega
                    have hlt5I : (k2 : Int) + 1 ≤ (k2 : Int) + 1 + 1 := by omega
                    clear hdr2 hdr3 hst fin HN hm2 hend
                    rcases special_cases hsp with rfl | rfl | rfl
                    all_goals
                      clear hsp
                      go_wp2
                      go_roundw
                      case rel => exact ⟨k2 + 2, _, by omega, by omega, (by first | go_num | (simp; omega)), (by rw [← HE.out]), HR.out, .inr (by simp)⟩
                      case measure => simp [RowKit.intOf]; omega
              · have hd92 : ((d.toNat : Int) == 92) = false := beq_eq_false_iff_ne.2 (fun e => h92 (UInt8.toNat_inj.1 (by show d.toNat = 92; omega)))
                have nd92 : ¬ (d.toNat : Int) = 92 := of_decide_eq_false (by simpa using hd92)
                have hsp : special d = false := by
                  cases hsp : special d
                  · rfl
                  · rcases special_cases hsp with e | e | e
                    · exact absurd e h92
                    · exact absurd (.inl e) hm2
                    · exact absurd (.inr e) hm2
                have HE := Lib.hid (ext_byte (t := t) hlt2 hd)
                have HR : Hid (RdI s w v o (t ++ [d]) (k2 + 1) wr) := ⟨St.byte hst hsp, HJ.out.own, HJ.out.ok, HJ.out.below, by rw [List.length_append]; simp only [List.length_cons, List.length_nil]; omega⟩
                have hwr1 : IntKind.i64.wrap ((k2 : Int) + 1) = (k2 : Int) + 1 := by rw [IntKind.wrap_i64]; omega
                have htn : ((k2 : Int) + 1).toNat = k2 + 1 := by omega
                have hlt4I : (k2 : Int) + 1 ≤ (s.size : Int) := by omega
                have hlt5I : (k2 : Int) ≤ (k2 : Int) + 1 := by omega
                clear hdr2 hst fin HN hm2 h92 hsp
                go_wp2
                go_roundw
                case rel => exact ⟨k2 + 1, _, by omega, by omega, by go_num, (by rw [← HE.out]), HR.out, .inr (by simp)⟩
                case measure => simp [RowKit.intOf]; omega
          · have hlt2I : ¬ (k2 : Int) < (s.size : Int) := by omega
            have hgt : k < k2 := by omega
            have hne : t ≠ [] := by
              rcases HN.out with e | e
              · omega
              · exact e
            have HF := Lib.hid (fin.out (.inl (List.drop_eq_nil_of_le (by have := size_eq s; omega))))
            have HNE := Lib.hid hne
            clear hne fin HN
            cases htl : textL t
            · rw [htl] at cT
              have HB := Lib.hid (bad.out ((HF.out).1 htl))
              clear htl
              go_wp2_with (go_at_call 110; (with_reducible refine (cT _).mono ?_); rintro e w2 ⟨rfl, hb2⟩; have HB2 := Lib.hid (below_next HJ.out.below hb2); clear hb2)
              go_ret2
              exact HB.out _ HB2.out
            · rw [htl] at cT
              have HG := Lib.hid ((HF.out).2 htl HNE.out)
              have hown := HJ.out.own
              unfold OwnP at hown
              have hol := bulk_len o
              clear htl
              go_wp2_with (first
                | (go_at_call 110; (with_reducible refine (cT _).mono ?_); rintro e w2 ⟨rfl, hb2⟩; have HB2 := Lib.hid (below_next HJ.out.below hb2); have hown2 := ownsRow_step hb2 hown; have hsz2 := HB2.out.size; clear hb2)
                | (at_builtin; refine wpList_append_own _ rfl _ _ 35 rfl w.heap.size 56 i0 _ 3 32 Tryz.underlying35 hi hz0 hz1 hz2 rfl (by decide) _ _ _ rfl (hown2.alloc _) ⟨w2.heap.size, 0, none⟩ 1 1 [.int .u8 1, .string (bytes t), .bool false] rfl rfl (cell_new3 _ _ _ _ _) (fun u hu => by simp at hu; rcases hu with rfl | rfl | rfl <;> rfl) (by unfold maxLen; omega) (by omega) (by simp; omega) ?_; intro v3 w3 hown3 hgrow3 hnil3
                   have HB3 := Lib.hid ((HB2.out.alloc hsz2 (.cells #[.int .u8 1, .string (bytes t), .bool false] 56)).grown hgrow3 (by simp; omega) (fun k hk => (hown2.lt k hk).1))
                   have HG3 := Lib.hid (HG.out v3 w3 (OwnP.more (x := ⟨1, bytes t, false⟩) hown3) HB3.out)
                   clear hown hown2 hown3 hgrow3 hnil3))
              go_roundw
              case rel => exact ⟨v3, k2, _, rfl, hk2, rfl, HG3.out⟩
              case measure => simp [RowKit.intOf]; omega
    · have hltI : ¬ (k : Int) < (s.size : Int) := by omega
      have hst := HI.out.st
      rw [List.drop_eq_nil_of_le (by have := size_eq s; omega)] at hst
      have hv := St.good hst HI.out.ok
      have HR := Lib.hid (read_some h0 hv)
      have hbk : bulk o ≤ 2 * s.size := by have := HI.out.few; omega
      have HP := Lib.hid (HI.out.own.at)
      have HO := Lib.hid (HI.out.own.low)
      have cC := refCheck_any o v wr HP.out (by omega)
      have HB := Lib.hid HI.out.below
      have HK := Lib.hid hbk
      clear hst hv hbk h0
      generalize checkE o = Z at cC HR
      by_cases hZ : Z = 0
      · subst hZ
        go_wp2_with (go_at_call 31; (with_reducible refine cC.mono ?_); rintro e w3 ⟨rfl, hb3⟩; have HP3 := Lib.hid (HO.out.step hb3); have HB3 := Lib.hid (below_next HB.out hb3); clear hb3)
        go_ret2
        exact ⟨⟨v, by rw [HR.out.1]; rfl, by rw [HR.out.2, if_pos trivial]; exact HP3.out, by rw [HR.out.2, if_pos trivial]; exact HK.out⟩, HB3.out⟩
      · have hz : (Z == 0) = false := by simpa using hZ
        have HZ := Lib.hid hZ
        clear hZ
        go_wp2_with (go_at_call 31; (with_reducible refine cC.mono ?_); rintro e w3 ⟨rfl, hb3⟩; have HB3 := Lib.hid (below_next HB.out hb3); clear hb3)
        go_ret2
        exact ⟨⟨.slice none 0 0, by rw [HR.out.1]; rfl, by rw [HR.out.2, if_neg HZ.out]; exact OwnP.nil _ _, by rw [HR.out.2, if_neg HZ.out]; simp [bulk]⟩, HB3.out⟩
end Go.Proofs.YtnbeomclmggbiaaGreatDoor
