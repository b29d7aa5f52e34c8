/- The tag or the hole that a text is, as the specification tells it. The pieces of a text, as the specification reads them. -/
import Derived.Test.YtnbeomclmggbiaaGreatDoorRf3n
import Derived.Test.YtnbeomclmggbiaaGreatDoorRf3y
import Derived.Test.YtnbeomclmggbiaaGreatDoorRwA
namespace Go.Proofs.YtnbeomclmggbiaaGreatDoor
open Go Go.RowKit Go.Lib
set_option maxRecDepth 1000000
theorem ends_uniq {s : ByteArray} {a z b y a' z' b' y' : UInt8} (h : ends s a z b y) (h' : ends s a' z' b' y') : a = a' ∧ z = z' ∧ b = b' ∧ y = y' := by
  obtain ⟨h1, h2, h3, h4⟩ := h
  obtain ⟨g1, g2, g3, g4⟩ := h'
  exact ⟨Option.some.inj (h1.symm.trans g1), Option.some.inj (h2.symm.trans g2), Option.some.inj (h3.symm.trans g3), Option.some.inj (h4.symm.trans g4)⟩
set_option maxHeartbeats 8000000 in
theorem marked_any (s : ByteArray) (w : World) (hs : s.size ≤ 140737488355328) :
    Calls Tryz.prog 101 #[.string s] w fun e w' => MarkEnd s e ∧ Below w.heap.size w w' := by
  have ag := Tryz.isAgg56
  have zg := Tryz.sizeOf56
  by_cases h3 : s.size < 3
  · have h3I : (s.size : Int) < 3 := by omega
    have HX := Lib.hid (show ∀ y, ¬ Mk y s.data.toList by
      intro y hy
      have h1 := hy.size
      have h2 := (nameB_chars hy.kinds.1).2.2.1
      have := size_eq s
      omega)
    clear h3
    go_enter Tryz.func101, Tryz.ntmps101
    go_wp2
    have c0 : (w.alloc (.cells #[.int .u8 0, .string ⟨#[]⟩, .bool false] 56)).heap[w.heap.size]? = some (.cells #[.int .u8 0, .string ⟨#[]⟩, .bool false] 56 (0, 0)) := by show (w.heap.push _)[_]? = _; simp
    refine bodyPost_ret (results_ct (xs := [.int .u8 0, .string ⟨#[]⟩, .bool false]) rfl rfl ag zg (three_cells (by rw [Lib.cell_of_heap c0]; rfl) (by rw [Lib.cell_of_heap c0]; rfl) (by rw [Lib.cell_of_heap c0]; rfl))) rfl ?_
    exact ⟨⟨⟨0, ⟨#[]⟩, false⟩, false, rfl, fun h => Bool.noConfusion h, fun _ => HX.out⟩, (Below.refl _ _).alloc (Nat.le_refl _) _⟩
  by_cases hP : ∃ a z b y k txt x, ends s a z b y ∧ core s a z b y k txt ∧ fullx k txt x ∧ nameB x.s = true
  · obtain ⟨a, z, b, y, k, txt, x, e1, e2, e3, e4⟩ := hP
    refine marked_yes s w hs h3 fun a' z' b' y' k' txt' x' g1 g2 g3 => ?_
    obtain ⟨rfl, rfl, rfl, rfl⟩ := ends_uniq e1 g1
    obtain ⟨rfl, rfl⟩ := core_uniq e2 g2
    rw [← full_uniq e3 g3]
    exact e4
  · refine marked_no s w hs h3 fun a z b y k txt x g1 g2 g3 => ?_
    cases hn : nameB x.s
    · rfl
    · exact absurd ⟨a, z, b, y, k, txt, x, g1, g2, g3, hn⟩ hP
end Go.Proofs.YtnbeomclmggbiaaGreatDoor
namespace Go.Proofs.YtnbeomclmggbiaaGreatDoor
open Go Go.RowKit Go.Lib
set_option maxRecDepth 1000000
theorem cell_new3 (w : World) (a b c : Value) (t : TypeId) : ∀ j u, [a, b, c][j]? = some u → (w.alloc (.cells #[a, b, c] t)).cell? ((⟨w.heap.size, 0, none⟩ : Addr).add j) = some u :=
  World.news_of_block (w := w.alloc (.cells #[a, b, c] t)) (B := w.heap.size) (cs := #[a, b, c]) (t := t) (fr := (0, 0)) (by show (w.heap.push _)[_]? = _; simp)
theorem ok_app (l m : List Pc) : (l ++ m).all okT = (l.all okT && m.all okT) := by simp
/-- what the specification's reader holds ahead of each round -/
structure RdI (s : ByteArray) (w : World) (v : Value) (o : List Pc) (t : List UInt8) (k : Nat) (wr : World) : Prop where
  st : St s.data.toList o t (s.data.toList.drop k)
  own : OwnP w.heap.size v o wr
  ok : o.all okT = true
  below : Below w.heap.size w wr
  few : bulk o + 2 * t.length + 2 * (s.size - k) ≤ 2 * s.size
theorem RdI.step {s : ByteArray} {w : World} {v : Value} {o : List Pc} {t : List UInt8} {k : Nat} {wr w2 : World} (h : RdI s w v o t k wr) (hb : Below wr.heap.size wr w2) : RdI s w v o t k w2 :=
  ⟨h.st, h.own.step hb, h.ok, below_next h.below hb, h.few⟩
theorem drop_cons {s : ByteArray} {k : Nat} (hk : k < s.size) : s.data.toList.drop k = s[k] :: s.data.toList.drop (k + 1) := by
  rw [List.drop_eq_getElem_cons (by simpa using hk)]
  congr 1
/-- a text that is none, though a form is read -/
theorem St.bad {s : ByteArray} {o : List Pc} {t rest : List UInt8} (h : St s.data.toList o t rest) (hr : rest = [] ∨ ∃ c r, rest = c :: r ∧ (c = 60 ∨ c = 123)) (ht : textL t = false) : readV s = none := by
  have h2 := h.flush hr
  unfold St at h2
  cases hx : toks rest with
  | none => rw [hx] at h2; exact readV_not (.inr h2)
  | some ts =>
    rw [hx] at h2
    have h3 := text_reads h2
    refine readV_not (.inl ?_)
    rw [h3, ok_app, ok_app, flush_ok, ht]
    simp
theorem St.good {s : ByteArray} {o : List Pc} (h : St s.data.toList o [] []) (ho : o.all okT = true) : readV s = some o := by
  have h2 := h.done
  rw [show Go.Proofs.YtnbeomclmggbiaaGreatDoor.flush [] = [] from rfl, List.append_nil] at h2
  exact readV_some (by rw [text_reads h2, ho]) h2
theorem UpEnd.none {s : ByteArray} {k : Nat} {c : UInt8} {e : Ending} (h : UpEnd s k c e) (hj : indexByte (s.data.toList.drop k) c = -1) : e = .returned (.int .i64 (-1)) := by
  obtain ⟨z, rfl, h | ⟨j, h, _⟩⟩ := h
  · rw [h.2]
  · rw [hj] at h; omega
theorem UpEnd.some {s : ByteArray} {k j : Nat} {c : UInt8} {e : Ending} (h : UpEnd s k c e) (hj : indexByte (s.data.toList.drop k) c = (j : Int)) : e = .returned (.int .i64 ((k + j : Nat) : Int)) := by
  obtain ⟨z, rfl, h | ⟨j', h, h2⟩⟩ := h
  · rw [hj] at h; omega
  · rw [hj] at h
    have : j = j' := by omega
    rw [h2, this]
theorem ext_byte {s : ByteArray} {k : Nat} {t : List UInt8} {d : UInt8} (hk : k < s.size) (hd : s[k] = d) : bytes t ++ s.extract k (k + 1) = bytes (t ++ [d]) := by
  have e : (s.extract k (k + 1)).data.toList = [d] := by
    have hl : k < s.data.toList.length := by simpa using hk
    have hg : s.data.toList[k] = d := by rw [← hd]; rfl
    rw [extract_list, List.take_succ_eq_append_getElem hl, hg, List.drop_append_of_le_length (by rw [List.length_take]; omega)]
    rw [List.drop_eq_nil_of_le (by rw [List.length_take]; omega)]
    rfl
  rw [bytes_app, e]
end Go.Proofs.YtnbeomclmggbiaaGreatDoor
