/- The document of a text, as the program reads it. The block of a line, as the specification reads it. The document of a text, as the specification reads it. -/
import Derived.Test.YtnbeomclmggbiaaGreatDoorDoA
import Derived.Test.YtnbeomclmggbiaaGreatDoorRfB
namespace Go.Proofs.YtnbeomclmggbiaaGreatDoor
open Go Go.RowKit Go.Lib
set_option maxRecDepth 100000
theorem results_ctt0 {fn : Func} {p u u2 : Tmp} {ty : TypeId} (h : fn.results = #[.cell p ty, .tmp u, .tmp u2]) (tmps : Array Value) (P : Program) (w : World) :
    (results fn tmps).run P w = ((asAddr (tmps.getD p undef)).run P w).andThen fun a w1 => ((loadVar ty a).run P w1).andThen fun v w2 => .ok (.tuple #[v, tmps.getD u undef, tmps.getD u2 undef]) w2 := by
  simp only [results, h]
  simp [Sem.run_bind, Result.andThen]
theorem ownsRow_low {B : Nat} {e : TypeId} {z n : Nat} {v : Value} {xs : List Value} {w : World} (h : w.ownsRow B e z v n xs) : w.ownsRow 0 e z v n xs :=
  ⟨h.1, h.2.imp id fun ⟨g, cap, cur, e, _, r⟩ => ⟨g, cap, cur, e, Nat.zero_le _, r⟩⟩
theorem results_ctt {fn : Func} {p u u2 : Tmp} {ty : TypeId} (h : fn.results = #[.cell p ty, .tmp u, .tmp u2]) {tmps : Array Value} {P : Program} {w : World} {a : Addr} {xs : List Value}
    (ha : tmps.getD p undef = .pointer (some a)) (iy : ∀ w, (isAgg ty).run P w = .ok true w) (sy : ∀ w, (sizeOf ty).run P w = .ok xs.length w)
    (cx : ∀ j v, xs[j]? = some v → w.cell? (a.add j) = some v) :
    (results fn tmps).run P w = .ok (.tuple #[.agg xs.toArray, tmps.getD u undef, tmps.getD u2 undef]) w := by
  have hx := run_loadCells_list (P := P) w a xs cx
  rw [results_ctt0 h, ha]
  simp [Result.andThen, asAddr, loadVar, iy, sy, hx]
theorem one_cell {w : World} {n : Nat} {v0 : Value} (h0 : w.cell? ⟨n, 0, none⟩ = some v0) : ∀ j v, [v0][j]? = some v → w.cell? ((⟨n, 0, none⟩ : Addr).add j) = some v := by
  intro j v hj
  match j, hj with
  | 0, hj => simp only [List.getElem?_cons_zero, Option.some.injEq] at hj; subst hj; exact h0
/-- what reading a document returns -/
def PaEnd (s : ByteArray) (e : Ending) (w' : World) : Prop := match docV s.data.toList with
  | .error (n, z) => e = .returned (.tuple #[.agg #[.slice none 0 0], .int .i64 (n : Nat), .int .u8 z])
  | .ok bs => ∃ v, e = .returned (.tuple #[.agg #[v], .int .i64 0, .int .u8 0]) ∧ BksAt w' v bs ∧ ∀ b ∈ bs, b.l.length ≤ 1000000
theorem PaEnd.error {s : ByteArray} {e : Ending} {w' : World} {n : Nat} {z : Int} (h : PaEnd s e w') (hv : docV s.data.toList = .error (n, z)) : e = .returned (.tuple #[.agg #[.slice none 0 0], .int .i64 (n : Nat), .int .u8 z]) := by
  unfold PaEnd at h; rw [hv] at h; exact h
theorem PaEnd.good {s : ByteArray} {e : Ending} {w' : World} {bs : List Bk} (h : PaEnd s e w') (hv : docV s.data.toList = .ok bs) : ∃ v, e = .returned (.tuple #[.agg #[v], .int .i64 0, .int .u8 0]) ∧ BksAt w' v bs ∧ ∀ b ∈ bs, b.l.length ≤ 1000000 := by
  unfold PaEnd at h; rw [hv] at h; exact h
theorem PaEnd.of_error {s : ByteArray} {w' : World} {n : Nat} {z : Int} (hv : docV s.data.toList = .error (n, z)) : PaEnd s (.returned (.tuple #[.agg #[.slice none 0 0], .int .i64 (n : Nat), .int .u8 z])) w' := by
  unfold PaEnd; rw [hv]
theorem PaEnd.of_ok {s : ByteArray} {w' : World} {bs : List Bk} {v : Value} (hv : docV s.data.toList = .ok bs) (hb : BksAt w' v bs) (hl : ∀ b ∈ bs, b.l.length ≤ 1000000) : PaEnd s (.returned (.tuple #[.agg #[v], .int .i64 0, .int .u8 0])) w' := by
  unfold PaEnd; rw [hv]; exact ⟨v, rfl, hb, hl⟩
/-- a document in its own cell: the blocks that have been read -/
def DocAt (B b : Nat) (o : List Bk) (w : World) : Prop := ∃ v, w.heap[b]? = some (.cells #[v] 24 (0, 0)) ∧ OwnK B v o w
theorem DocAt.step {B b : Nat} {o : List Bk} {w w' : World} (h : DocAt B b o w) (hb : Below w.heap.size w w') : DocAt B b o w' := by
  obtain ⟨v, h1, h2⟩ := h
  exact ⟨v, by rw [hb.block b (lt_of_block h1)]; exact h1, h2.step hb⟩
theorem DocAt.new (w : World) : DocAt w.heap.size w.heap.size [] (w.alloc (.cells #[.slice none 0 0] 24)) :=
  ⟨.slice none 0 0, (by show (w.heap.push _)[_]? = _; simp), OwnK.nil _ _⟩
theorem OwnK.kept {B : Nat} {v : Value} {o : List Bk} {w w' : World} {b : Nat} {cs : Array Value} {t : TypeId} (h : OwnK B v o w) (hg : w.grownBy w' (some b)) (hb : w.heap[b]? = some (.cells cs t (0, 0))) (h1 : 51 ≠ t) (h2 : 56 ≠ t) : OwnK B v o w' := by
  obtain ⟨us, e, ho, hp⟩ := h
  exact ⟨us, e, ho.kept hg (.inr (own_other ho hb h1)), fun i hi => (hp i hi).kept hg (.inr (own_other (hp i hi) hb h2))⟩
/-- one block more -/
theorem OwnK.more {B : Nat} {v v3 u : Value} {o : List Bk} {us : List Value} {b : Bk} {w w' : World} (he : us.length = o.length) (ho : w.ownsRow B 51 2 v o.length (cells2 o us)) (hp : ∀ i, i < o.length → OwnP 0 (us.getD i nilV) (o.getD i nilB).l w) (hu : OwnP 0 u b.l w)
    (hg : w.grownBy w' v.ownBlock) (h3 : w'.ownsRow B 51 2 v3 (o.length + 1) (cells2 o us ++ [.int .u8 b.k, u])) : OwnK B v3 (o ++ [b]) w' := by
  refine ⟨us ++ [u], by simp [he], ?_, fun i hi => ?_⟩
  · rw [cells2_app b u he, List.length_append]; exact h3
  · by_cases hl : i < o.length
    · have h1 : (us ++ [u]).getD i nilV = us.getD i nilV := by rw [List.getD_eq_getElem?_getD, List.getD_eq_getElem?_getD, List.getElem?_append_left (by omega)]
      have h2 : (o ++ [b]).getD i nilB = o.getD i nilB := by rw [List.getD_eq_getElem?_getD, List.getD_eq_getElem?_getD, List.getElem?_append_left hl]
      rw [h1, h2]
      exact (hp i hl).kept hg (own_apart (hp i hl) (ownsRow_low ho) (by decide))
    · have hl2 : i = o.length := by simp at hi; omega
      subst hl2
      have h1 : (us ++ [u]).getD o.length nilV = u := by rw [List.getD_eq_getElem?_getD, ← he]; simp
      have h2 : (o ++ [b]).getD o.length nilB = b := by rw [List.getD_eq_getElem?_getD]; simp
      rw [h1, h2]
      exact hu.kept hg (own_apart hu (ownsRow_low ho) (by decide))
theorem DocAt.put {B b : Nat} {o : List Bk} {w : World} {x v : Value} (hb : w.heap[b]? = some (.cells #[x] 24 (0, 0))) (h : OwnK B v o w) : DocAt B b o (w.setCell ⟨b, 0, none⟩ v) :=
  ⟨v, by simp [World.setCell, Array.getElem?_modify, hb], h.kept (grown_setCell _ _ _ _) hb (by decide) (by decide)⟩
theorem doc_cell {w : World} {b : Nat} {v : Value} (h : w.heap[b]? = some (.cells #[v] 24 (0, 0))) : w.cell? ⟨b, 0, none⟩ = some v := by rw [Lib.cell_of_heap h]; rfl
theorem set1_cells {w : World} {b : Nat} {v0 : Value} {t : TypeId} {fr : Nat × Nat} (h : w.heap[b]? = some (.cells #[v0] t fr)) (x0 : Value) : (w.setCell ⟨b, 0, none⟩ x0).heap[b]? = some (.cells #[x0] t fr) := by
  simp [World.setCell, Array.getElem?_modify, h]
def txtLen : Value → Nat
  | .string s => s.size
  | _ => 0
theorem cell_new2 (w : World) (x y : Value) (t : TypeId) : ∀ j u, ([x, y] : List Value)[j]? = some u → (w.alloc (.cells #[x, y] t)).cell? ((⟨w.heap.size, 0, none⟩ : Addr).add j) = some u := by
  intro j u hj
  match j, hj with
  | 0, hj => simp only [List.getElem?_cons_zero, Option.some.injEq] at hj; subst hj; show World.cell? _ ⟨w.heap.size, 0, none⟩ = _; simp
  | 1, hj => simp only [List.getElem?_cons_succ, List.getElem?_cons_zero, Option.some.injEq] at hj; subst hj; show World.cell? _ ⟨w.heap.size, 0 + 1, none⟩ = _; simp
structure PaI (s : ByteArray) (w : World) (o : List Bk) (rest : List UInt8) (wr : World) : Prop where
  st : DocSt s.data.toList o rest
  doc : DocAt w.heap.size w.heap.size o wr
  below : Below w.heap.size w wr
  len : o.length ≤ 256
  few : ∀ b ∈ o, b.l.length ≤ 1000000
set_option maxHeartbeats 16000000 in
theorem parse_any (s : ByteArray) (w : World) (hs : s.size ≤ 3500) (hE : Env w) :
    Calls Tryz.prog 15 #[.string s] w fun e w' => PaEnd s e w' ∧ Below w.heap.size w w' := by
  obtain ⟨i0, hi, hz0, hz1, hz2⟩ := info_parts info_bk
  have ag := Tryz.isAgg51
  have zg := Tryz.sizeOf51
  have ag2 := Tryz.isAgg24
  have zg2 := Tryz.sizeOf24
  have hI : ¬ (65536 : Int) < (s.size : Int) := by omega
  have HE := Lib.hid hE
  have H0 : Hid (PaI s w [] s.data.toList (w.alloc (.cells #[.slice none 0 0] 24))) := ⟨DocSt.start _, DocAt.new w, below_box _, by simp, by simp⟩
  clear hE
  go_enter Tryz.func15, Tryz.ntmps15
  go_wp2
  go_loopw [0, 5] (fun x n wr => ∃ (t : ByteArray) (o : List Bk), x = .string t ∧ n = .int .i64 (o.length : Nat) ∧ Hid (PaI s w o t.data.toList wr)) (fun x _ _ => txtLen x)
  case atStart => exact ⟨s, [], rfl, rfl, H0⟩
  case round =>
    obtain ⟨t, o, rfl, rfl, HI⟩ := hrel
    have hti : t.size ≤ s.size := by have := HI.out.st.1; rw [← size_eq, ← size_eq] at this; exact this
    have HER := Lib.hid (HE.out.step HI.out.below)
    by_cases hne : t.data.toList = []
    · have ht0 : t = ByteArray.empty := by obtain ⟨⟨l⟩⟩ := t; simp at hne; subst hne; rfl
      have hst := HI.out.st
      rw [hne] at hst
      have HV := Lib.hid hst.done
      have HD := Lib.hid HI.out.doc
      obtain ⟨v1, d1, own1⟩ := HD.out
      have c1 := doc_cell d1
      have f1 := Lib.frozen_of_heap d1 0
      have HO1 := Lib.hid (DocAt.put d1 own1)
      obtain ⟨ao1, cap1, rfl⟩ := own1.form
      have HB1 := Lib.hid HI.out.below
      have HF := Lib.hid HI.out.few
      subst ht0
      have hemp : (ByteArray.empty.toList == (⟨#[]⟩ : ByteArray).toList) = true := by decide +kernel
      clear own1 hst hne
      go_wp2
      obtain ⟨v9, d9, own9⟩ := HO1.out
      have e9 : v9 = .slice ao1 o.length cap1 := by
        have h9 := set1_cells d1 (.slice ao1 o.length cap1)
        rw [h9] at d9
        simp at d9
        exact d9.symm
      subst e9
      refine bodyPost_ret (results_ctt (xs := [.slice ao1 o.length cap1]) rfl rfl ag2 zg2 (one_cell (by rw [Lib.cell_of_heap d9]; rfl))) rfl ?_
      refine ⟨PaEnd.of_ok HV.out own9.at HF.out, ?_⟩
      exact HB1.out.setCell (p := ⟨w.heap.size, 0, none⟩) (Nat.le_refl _) _
    · have hte : t.toList.isEmpty = false := by
        rw [ByteArray.toList_eq]
        cases h : t.data.toList with
        | nil => exact absurd h hne
        | cons a l => rfl
      by_cases h256 : o.length = 256
      · have HV := Lib.hid (HI.out.st.many hne h256)
        obtain ⟨v1, d1, own1⟩ := HI.out.doc
        have c1 := doc_cell d1
        have f1 := Lib.frozen_of_heap d1 0
        have HB1 := Lib.hid HI.out.below
        rw [h256]
        clear own1 hne h256
        go_wp2
        refine bodyPost_ret (results_ctt (xs := [.slice none 0 0]) rfl rfl ag2 zg2 (one_cell (by rw [Lib.cell_of_heap (set1_cells d1 (.slice none 0 0))]; rfl))) rfl ?_
        refine ⟨PaEnd.of_error HV.out, ?_⟩
        exact HB1.out.setCell (p := ⟨w.heap.size, 0, none⟩) (Nat.le_refl _) _
      · have hlen := HI.out.len
        have h256b : (((o.length : Nat) : Int) == 256) = false := by simpa using (show ((o.length : Nat) : Int) ≠ 256 by omega)
        have hwr : IntKind.i64.wrap (((o.length : Nat) : Int) + 1) = ((o.length + 1 : Nat) : Int) := by rw [IntKind.wrap_i64]; omega
        have cC := cut_any t 10 wr (by omega) HER.out.mxl
        by_cases hj : indexByte t.data.toList 10 = -1
        · have HV := Lib.hid (HI.out.st.open hne h256 hj)
          have HJ := Lib.hid hj
          clear hj hne h256
          go_wp2_with (go_at_call 47; (with_reducible refine cC.mono ?_); rintro e w2 ⟨he2, hw2⟩; have h2 := he2.none HJ.out; obtain rfl := h2; have HB2 := Lib.hid (below_drews hw2); have HD2 := Lib.hid (HI.out.doc.step HB2.out); have HBB2 := Lib.hid (below_next HI.out.below HB2.out); have HE2 := Lib.hid (HER.out.step HB2.out); clear he2 hw2; obtain ⟨v2, d2, own2⟩ := HD2.out; have c2 := doc_cell d2; have f2 := Lib.frozen_of_heap d2 0; obtain ⟨ao2, cap2, rfl⟩ := own2.form; clear own2)
          refine bodyPost_ret (results_ctt (xs := [.slice none 0 0]) rfl rfl ag2 zg2 (one_cell (by rw [Lib.cell_of_heap (set1_cells d2 (.slice none 0 0))]; rfl))) rfl ?_
          refine ⟨PaEnd.of_error HV.out, ?_⟩
          exact HBB2.out.setCell (p := ⟨w.heap.size, 0, none⟩) (Nat.le_refl _) _
        · obtain ⟨j, hj⟩ : ∃ j : Nat, indexByte t.data.toList 10 = (j : Int) := ⟨(indexByte t.data.toList 10).toNat, by have := indexByte_ge t.data.toList 10; omega⟩
          have HJ := Lib.hid hj
          have hjl := indexByte_cut hj
          rw [← size_eq] at hjl
          obtain ⟨l1, hl1⟩ : ∃ l1, t.extract 0 j = l1 := ⟨_, rfl⟩
          obtain ⟨t1, ht1⟩ : ∃ t1, t.extract (j + 1) t.size = t1 := ⟨_, rfl⟩
          have hld : l1.data.toList = t.data.toList.take j := by rw [← hl1, extract_list, List.drop_zero]
          have htd : t1.data.toList = t.data.toList.drop (j + 1) := by rw [← ht1, extract_list, List.take_of_length_le (by rw [size_eq]; exact Nat.le_refl _)]
          have hlz : l1.size ≤ 3500 := by rw [size_eq, hld, List.length_take]; omega
          have htz : t1.size < t.size := by rw [size_eq, htd, List.length_drop, size_eq]; rw [size_eq] at hjl; omega
          have cP := fun w2 (h : Env w2) => parseBlock_any l1 w2 (by omega) h
          cases hv : lineV (t.data.toList.take j) with
          | error z =>
            have HV := Lib.hid (HI.out.st.bad hne h256 hj hv)
            have HL := Lib.hid (show lineV l1.data.toList = .error z by rw [hld]; exact hv)
            have hz : (z == 0) = false := by simpa using lineV_ne hv
            clear hj hne h256 hv hld htd
            go_wp2_with (first
              | (go_at_call 47; (with_reducible refine cC.mono ?_); rintro e w2 ⟨he2, hw2⟩; have h2 := he2.some HJ.out; rw [hl1, ht1] at h2; obtain rfl := h2; have HB2 := Lib.hid (below_drews hw2); have HD2 := Lib.hid (HI.out.doc.step HB2.out); have HBB2 := Lib.hid (below_next HI.out.below HB2.out); have HE2 := Lib.hid (HER.out.step HB2.out); clear he2 hw2; obtain ⟨v2, d2, own2⟩ := HD2.out; have c2 := doc_cell d2; have f2 := Lib.frozen_of_heap d2 0; obtain ⟨ao2, cap2, rfl⟩ := own2.form; clear own2)
              | (go_at_call 48; (with_reducible refine (cP w2 HE2.out).mono ?_); rintro e w3 ⟨he3, hb3⟩; obtain rfl := he3.error HL.out; have HB3 := Lib.hid hb3; have HD3 := Lib.hid ((HD2.out.step HB3.out).step (below_box (.cells #[.int .u8 0, .slice none 0 0] 51))); have HBB3 := Lib.hid (below_next (below_next HBB2.out HB3.out) (below_box (.cells #[.int .u8 0, .slice none 0 0] 51))); clear he3 hb3 c2 d2 f2; obtain ⟨v3, d3, own3⟩ := HD3.out; have c3 := doc_cell d3; have f3 := Lib.frozen_of_heap d3 0; obtain ⟨ao3, cap3, rfl⟩ := own3.form; clear own3))
            refine bodyPost_ret (results_ctt (xs := [.slice none 0 0]) rfl rfl ag2 zg2 (one_cell (by rw [Lib.cell_of_heap (set1_cells d3 (.slice none 0 0))]; rfl))) rfl ?_
            refine ⟨PaEnd.of_error HV.out, ?_⟩
            exact HBB3.out.setCell (p := ⟨w.heap.size, 0, none⟩) (Nat.le_refl _) _
          | ok b =>
            have HN := Lib.hid (HI.out.st.next hne h256 hj hv)
            have HL := Lib.hid (show lineV l1.data.toList = .ok b by rw [hld]; exact hv)
            clear hj hne hv hld
            obtain ⟨k, l⟩ := b
            have news2 : Hid (∀ (w2 : World) u j x, ([.int .u8 k, u] : List Value)[j]? = some x → ((w2.alloc (.cells #[.int .u8 k, u] 51)).alloc (.cells #[.int .u8 k, u] 51)).cell? ((⟨w2.heap.size + 1, 0, none⟩ : Addr).add j) = some x) := fun w2 u => by
              have := cell_new2 (w2.alloc (.cells #[.int .u8 k, u] 51)) (.int .u8 k) u 51
              rw [show (w2.alloc (.cells #[.int .u8 k, u] 51)).heap.size = w2.heap.size + 1 by simp] at this
              exact this
            have q1 := Lib.hid (show o.length + 1 ≤ maxLen by unfold maxLen; omega)
            have q2 := Lib.hid (show (o.length + 1) * 32 ≤ 140737488355328 by omega)
            have one2 : Hid (∀ ao n cap, ∀ u ∈ ([.int .u8 k, .slice ao n cap] : List Value), u.oneCell' = true) := by intro ao n cap u hu; simp at hu; rcases hu with rfl | rfl <;> rfl
            go_wp2_with (first
              | (go_at_call 47; (with_reducible refine cC.mono ?_); rintro e w2 ⟨he2, hw2⟩; have h2 := he2.some HJ.out; rw [hl1, ht1] at h2; obtain rfl := h2; have HB2 := Lib.hid (below_drews hw2); have HD2 := Lib.hid (HI.out.doc.step HB2.out); have HBB2 := Lib.hid (below_next HI.out.below HB2.out); have HE2 := Lib.hid (HER.out.step HB2.out); clear he2 hw2; obtain ⟨v2, d2, own2⟩ := HD2.out; have c2 := doc_cell d2; have f2 := Lib.frozen_of_heap d2 0; obtain ⟨ao2, cap2, rfl⟩ := own2.form; clear own2)
              | (go_at_call 48; (with_reducible refine (cP w2 HE2.out).mono ?_); rintro e w3 ⟨he3, hb3⟩; obtain ⟨u3, rfl, hu3, hk3⟩ := he3.good HL.out; obtain ⟨ao3, cap3, rfl⟩ := hu3.form; have HB3 := Lib.hid hb3; have HU3 := Lib.hid hu3; have HK3 := Lib.hid hk3
                 have HD3 := Lib.hid ((HD2.out.step HB3.out).step (below_box (.cells #[.int .u8 k, .slice ao3 l.length cap3] 51))); have HBB3 := Lib.hid (below_next (below_next HBB2.out HB3.out) (below_box (.cells #[.int .u8 k, .slice ao3 l.length cap3] 51))); clear he3 hb3 hu3 hk3 c2 d2 f2
                 obtain ⟨v3, d3, own3⟩ := HD3.out; have c3 := doc_cell d3; have f3 := Lib.frozen_of_heap d3 0; obtain ⟨ao4, cap4, rfl⟩ := own3.form; obtain ⟨us, hue, ho3, hp3⟩ := own3)
              | (at_builtin; refine wpList_append_own _ rfl _ _ 22 rfl w.heap.size 51 i0 _ 2 32 Tryz.underlying22 hi hz0 hz1 hz2 rfl (by decide) _ _ _ rfl (ho3.alloc (.cells #[.int .u8 k, .slice ao3 l.length cap3] 51)) ⟨w3.heap.size + 1, 0, none⟩ 1 1 [.int .u8 k, .slice ao3 l.length cap3] rfl rfl (news2.out w3 (.slice ao3 l.length cap3)) (one2.out ao3 l.length cap3) q1.out q2.out (Nat.le_trans HBB3.out.size (below_box (w := w3.alloc (.cells #[.int .u8 k, .slice ao3 l.length cap3] 51)) (.cells #[.int .u8 k, .slice ao3 l.length cap3] 51)).size) ?_; intro v6 w6 hown6 hgrow6 hnil6
                 have d4 := Below.heap_alloc _ (.cells #[.int .u8 k, .slice ao3 l.length cap3] 51) _ (lt_of_block d3) |>.trans d3
                 have d6 : w6.heap[w.heap.size]? = some (.cells #[.slice ao4 o.length cap4] 24 (0, 0)) := by rw [hgrow6.block w.heap.size (lt_of_block d4) (fun e => own_other (ho3.alloc (.cells #[.int .u8 k, .slice ao3 l.length cap3] 51)) d4 (by decide) e.symm)]; exact d4
                 have own6 : OwnK w.heap.size v6 (o ++ [⟨k, l⟩]) w6 := OwnK.more (b := ⟨k, l⟩) hue (ho3.alloc (.cells #[.int .u8 k, .slice ao3 l.length cap3] 51)) (fun i hi => (hp3 i hi).step (below_box _)) ((HU3.out.step (below_box _)).step (below_box _)) hgrow6 hown6
                 have HO6 := Lib.hid (DocAt.put d6 own6)
                 have HB6 := Lib.hid (((HBB3.out.alloc HBB3.out.size (.cells #[.int .u8 k, .slice ao3 l.length cap3] 51)).grown hgrow6 (Nat.le_trans HBB3.out.size (below_box (w := w3.alloc (.cells #[.int .u8 k, .slice ao3 l.length cap3] 51)) (.cells #[.int .u8 k, .slice ao3 l.length cap3] 51)).size) (fun k hk => (ho3.lt k hk).1)).setCell (p := ⟨w.heap.size, 0, none⟩) (Nat.le_refl _) v6)
                 have c6 := doc_cell d6; have f6 := Lib.frozen_of_heap d6 0
                 obtain ⟨ao6, cap6, rfl⟩ := own6.form
                 clear hown6 hgrow6 hnil6 own6 hp3 ho3 d4))
            have HO7 := HO6.out
            have HB7 := HB6.out
            rw [show (o ++ [(⟨k, l⟩ : Bk)]).length = o.length + 1 by simp] at HO7 HB7
            refine ⟨⟨t1, o ++ [⟨k, l⟩], rfl, by simp, ?_⟩, htz⟩
            refine ⟨by rw [htd]; exact HN.out, HO7, HB7, by simp; omega, fun b hb => ?_⟩
            rcases List.mem_append.1 hb with hb | hb
            · exact HI.out.few b hb
            · obtain rfl : b = ⟨k, l⟩ := by simpa using hb
              have h1 := HK3.out
              have h2 := bulk_len l
              simp only at h1 ⊢
              omega
end Go.Proofs.YtnbeomclmggbiaaGreatDoor
namespace Go.Proofs.YtnbeomclmggbiaaGreatDoor
open Go Go.RowKit Go.Lib
set_option maxRecDepth 100000
set_option maxHeartbeats 16000000 in
theorem blockOf_any (s : ByteArray) (w : World) (hs : s.size ≤ 3500) :
    Calls Tryz.prog 50 #[.string s] w fun e w' => BlEnd s e w' ∧ Below w.heap.size w w' := by
  have ag := Tryz.isAgg51
  have zg := Tryz.sizeOf51
  have cH := fun w2 => heads_any w2
  have HR0 := Lib.hid (ResK.new w)
  have HB0 := Lib.hid (below_box (w := w) (.cells #[.int .u8 0, .slice none 0 0] 51))
  go_enter Tryz.func50, Tryz.ntmps50
  go_wp2
  go_loopw [4] (fun i wr => ∃ k : Nat, 1 ≤ k ∧ k ≤ 7 ∧ i = .int .i64 k ∧ Hid (∀ j, 1 ≤ j → j < k → ¬ preB j s.data.toList) ∧ Hid (ResK w.heap.size wr) ∧ Hid (Below w.heap.size w wr)) (fun i _ => 7 - (RowKit.intOf i).toNat)
  case atStart => exact ⟨1, by omega, by omega, rfl, fun j h1 h2 => by omega, HR0.out, HB0.out⟩
  case round =>
    obtain ⟨k, hk1, hk7, rfl, HP, HR, HB⟩ := hrel
    by_cases hlt : k < 7
    · have hltI : (k : Int) < 7 := by omega
      have hk0 : (0 : Int) ≤ (k : Int) := by omega
      have htn : (k : Int).toNat = k := by omega
      have hwr : IntKind.i64.wrap ((k : Int) + 1) = (k : Int) + 1 := by rw [IntKind.wrap_i64]; omega
      obtain ⟨H, hH⟩ : ∃ H : ByteArray, bytes (headL k) ++ (⟨#[32]⟩ : ByteArray) = H := ⟨_, rfl⟩
      have hHl : H.data.toList = headL k ++ [32] := by rw [← hH]; rfl
      have hHz : H.size = (headL k).length + 1 := by rw [size_eq, hHl]; simp
      have hz3 := head_len k (by omega)
      have hovf : ¬ 9223372036854775807 < (bytes (headL k)).size + 1 := by rw [bsize]; omega
      have hnext : Hid (¬ preB k s.data.toList → ∀ j, 1 ≤ j → j < k + 1 → ¬ preB j s.data.toList) := fun hn j h1 h2 => by
        rcases Nat.lt_succ_iff_lt_or_eq.1 h2 with h | rfl
        · exact HP.out j h1 h
        · exact hn
      have hxl : (s.extract 0 ((headL k).length + 1)).data.toList = s.data.toList.take ((headL k).length + 1) := by rw [extract_list, List.drop_zero]
      by_cases hA : s.size < (headL k).length + 1
      · have hAI : (s.size : Int) < ((headL k).length : Int) + 1 := by omega
        have HN := Lib.hid (hnext.out (fun hp => by
          have h := congrArg List.length hp
          rw [List.length_take, ← size_eq] at h
          simp at h
          omega))
        clear hnext hxl hA
        go_wp2_with (first
          | (go_at_call 41; (with_reducible refine (cH _).mono ?_); rintro e w2 ⟨⟨v2, rfl, hv2⟩, hb2⟩; have HB2 := Lib.hid (below_next HB.out hb2); have HR2 := Lib.hid (HR.out.step hb2); obtain ⟨b2, rfl, hc2⟩ := hv2; clear hb2 hc2; fail_if_success (have := w3))
          | (go_at_call 41; (with_reducible refine (cH _).mono ?_); rintro e w3 ⟨⟨v3, rfl, hv3⟩, hb3⟩; have HB3 := Lib.hid (below_next HB2.out hb3); have HR3 := Lib.hid (HR2.out.step hb3); obtain ⟨b3, rfl, hc3⟩ := hv3; have c3 := hc3 k hlt; clear hb3 hc3))
        go_roundw
        case rel => exact ⟨k + 1, by omega, by omega, by go_num, HN.out, HR3.out, HB3.out⟩
        case measure => simp [RowKit.intOf]; omega
      · have hAI : ¬ (s.size : Int) < ((headL k).length : Int) + 1 := by omega
        by_cases hp : preB k s.data.toList
        · have heq : ((s.extract 0 ((headL k).length + 1)).toList == H.toList) = true := by
            rw [ByteArray.toList_eq, ByteArray.toList_eq, hxl, hHl, show s.data.toList.take ((headL k).length + 1) = headL k ++ [32] from hp]
            simp
          have hho := headOf_pre hk1 (by omega) hp
          obtain ⟨r, hr⟩ : ∃ r, s.extract ((headL k).length + 1) s.size = r := ⟨_, rfl⟩
          have hrl : r.data.toList = s.data.toList.drop ((headL k).length + 1) := by rw [← hr, extract_list, List.take_of_length_le (by rw [size_eq]; exact Nat.le_refl _)]
          have hrz : r.size ≤ s.size := by rw [size_eq, hrl, List.length_drop, size_eq]; omega
          have hrb : bytes (s.data.toList.drop ((headL k).length + 1)) = r := by rw [← hrl]; exact bytes_of r
          have cR := fun w2 => refRead_any r w2 (by omega)
          have HRR := Lib.hid (fun h => lineV_read hho h)
          have HRI := Lib.hid (fun h => lineV_in hho h)
          have HRO := Lib.hid (fun h => lineV_ok hho h)
          rw [hrb] at HRR HRI HRO
          have hw8 : IntKind.u8.wrap (k : Int) = (k : Int) := by rw [IntKind.wrap_u8]; omega
          have hlo1 : (0 : Int) ≤ ((headL k).length : Int) + 1 := by omega
          have hlo2 : ((headL k).length : Int) + 1 ≤ (s.size : Int) := by omega
          clear hho hxl hrl hrb hnext hp
          have fin := Lib.hid (fun e wr (h : ReadEnd r e wr) => (show ∃ v2, e = .returned (.tuple #[v2, .int .u8 (readE r)]) ∧ OwnP 0 v2 (readP r) wr ∧ bulk (readP r) ≤ 2 * r.size from h))
          by_cases hz : readE r = 0
          · have HRI2 := Lib.hid (HRI.out hz)
            have HRO2 := Lib.hid (HRO.out hz)
            rw [hz] at fin
            clear hz HRR HRI HRO
            generalize readP r = l at fin HRI2 HRO2
            have cI := fun u w2 (hu : OwnP 0 u l w2) => inBlock_any (k : Int) l u w2 hu.at
            by_cases hi : inE (k : Int) l = 0
            · have HO := Lib.hid (HRO2.out hi)
              rw [hi] at cI
              clear hi HRI2 HRO2
              go_wp2_with (first
                | (go_at_call 41; (with_reducible refine (cH _).mono ?_); rintro e w2 ⟨⟨v2, rfl, hv2⟩, hb2⟩; have HB2 := Lib.hid (below_next HB.out hb2); have HR2 := Lib.hid (HR.out.step hb2); obtain ⟨b2, rfl, hc2⟩ := hv2; clear hb2 hc2; fail_if_success (have := w3))
                | (go_at_call 41; (with_reducible refine (cH _).mono ?_); rintro e w3 ⟨⟨v3, rfl, hv3⟩, hb3⟩; have HB3 := Lib.hid (below_next HB2.out hb3); have HR3 := Lib.hid (HR2.out.step hb3); obtain ⟨b3, rfl, hc3⟩ := hv3; have c3 := hc3 k hlt; clear hb3 hc3)
                | (go_at_call 94; (with_reducible refine (cR _).mono ?_); rintro e w4 ⟨he4, hb4⟩; obtain ⟨u4, rfl, hu4, hk4⟩ := fin.out _ _ he4; obtain ⟨ao4, cap4, rfl⟩ := hu4.form; have HB4 := Lib.hid (below_next HB3.out hb4); have HR4 := Lib.hid (HR3.out.step hb4); have HU4 := Lib.hid hu4; have HK4 := Lib.hid hk4; obtain ⟨r0, r1, r2, r3⟩ := HR4.out.cells; clear he4 hb4 hu4 hk4)
                | (go_at_call 44; (with_reducible refine (cI _ _ HU4.out).mono ?_); rintro e w5 ⟨rfl, hb5⟩; have HB5 := Lib.hid (below_next HB4.out hb5); have HR5 := Lib.hid (HR4.out.step hb5); have HU5 := Lib.hid (HU4.out.step hb5); clear hb5 r0 r1 r2 r3; obtain ⟨r0, r1, r2, r3⟩ := HR5.out.cells))
              refine bodyPost_ret (results_ct (xs := [(.int .u8 (k : Int)), (.slice ao4 l.length cap4)]) rfl rfl ag zg (HR5.out.put (.int .u8 (k : Int)) (.slice ao4 l.length cap4))) rfl ?_
              refine ⟨BlEnd.of_ok HO.out (HR5.out.own HU5.out _ _) (by have := HK4.out; simp only; omega), ?_⟩
              exact (HB5.out.setCell (p := ⟨w.heap.size, 0, none⟩) (Nat.le_refl _) _).setCell (p := ⟨w.heap.size, 1, none⟩) (Nat.le_refl _) _
            · have HO := Lib.hid (HRI2.out hi)
              generalize inE (k : Int) l = Z at cI HO hi
              have hz : (Z == 0) = false := by simpa using hi
              clear hi HRI2 HRO2
              go_wp2_with (first
                | (go_at_call 41; (with_reducible refine (cH _).mono ?_); rintro e w2 ⟨⟨v2, rfl, hv2⟩, hb2⟩; have HB2 := Lib.hid (below_next HB.out hb2); have HR2 := Lib.hid (HR.out.step hb2); obtain ⟨b2, rfl, hc2⟩ := hv2; clear hb2 hc2; fail_if_success (have := w3))
                | (go_at_call 41; (with_reducible refine (cH _).mono ?_); rintro e w3 ⟨⟨v3, rfl, hv3⟩, hb3⟩; have HB3 := Lib.hid (below_next HB2.out hb3); have HR3 := Lib.hid (HR2.out.step hb3); obtain ⟨b3, rfl, hc3⟩ := hv3; have c3 := hc3 k hlt; clear hb3 hc3)
                | (go_at_call 94; (with_reducible refine (cR _).mono ?_); rintro e w4 ⟨he4, hb4⟩; obtain ⟨u4, rfl, hu4, hk4⟩ := fin.out _ _ he4; obtain ⟨ao4, cap4, rfl⟩ := hu4.form; have HB4 := Lib.hid (below_next HB3.out hb4); have HR4 := Lib.hid (HR3.out.step hb4); have HU4 := Lib.hid hu4; have HK4 := Lib.hid hk4; obtain ⟨r0, r1, r2, r3⟩ := HR4.out.cells; clear he4 hb4 hu4 hk4)
                | (go_at_call 44; (with_reducible refine (cI _ _ HU4.out).mono ?_); rintro e w5 ⟨rfl, hb5⟩; have HB5 := Lib.hid (below_next HB4.out hb5); have HR5 := Lib.hid (HR4.out.step hb5); have HU5 := Lib.hid (HU4.out.step hb5); clear hb5 r0 r1 r2 r3; obtain ⟨r0, r1, r2, r3⟩ := HR5.out.cells))
              refine bodyPost_ret (results_ct (xs := [(.int .u8 0), (.slice none 0 0)]) rfl rfl ag zg (HR5.out.put (.int .u8 0) (.slice none 0 0))) rfl ?_
              refine ⟨BlEnd.of_error HO.out, ?_⟩
              exact (HB5.out.setCell (p := ⟨w.heap.size, 0, none⟩) (Nat.le_refl _) _).setCell (p := ⟨w.heap.size, 1, none⟩) (Nat.le_refl _) _
          · have HO := Lib.hid (HRR.out hz)
            generalize readE r = Z at fin HO hz
            have hz2 : (Z == 0) = false := by simpa using hz
            clear hz HRR HRI HRO
            go_wp2_with (first
              | (go_at_call 41; (with_reducible refine (cH _).mono ?_); rintro e w2 ⟨⟨v2, rfl, hv2⟩, hb2⟩; have HB2 := Lib.hid (below_next HB.out hb2); have HR2 := Lib.hid (HR.out.step hb2); obtain ⟨b2, rfl, hc2⟩ := hv2; clear hb2 hc2; fail_if_success (have := w3))
              | (go_at_call 41; (with_reducible refine (cH _).mono ?_); rintro e w3 ⟨⟨v3, rfl, hv3⟩, hb3⟩; have HB3 := Lib.hid (below_next HB2.out hb3); have HR3 := Lib.hid (HR2.out.step hb3); obtain ⟨b3, rfl, hc3⟩ := hv3; have c3 := hc3 k hlt; clear hb3 hc3)
              | (go_at_call 94; (with_reducible refine (cR _).mono ?_); rintro e w4 ⟨he4, hb4⟩; obtain ⟨u4, rfl, hu4, hk4⟩ := fin.out _ _ he4; obtain ⟨ao4, cap4, rfl⟩ := hu4.form; have HB4 := Lib.hid (below_next HB3.out hb4); have HR4 := Lib.hid (HR3.out.step hb4); have HU4 := Lib.hid hu4; have HK4 := Lib.hid hk4; obtain ⟨r0, r1, r2, r3⟩ := HR4.out.cells; clear he4 hb4 hu4 hk4))
            refine bodyPost_ret (results_ct (xs := [(.int .u8 0), (.slice none 0 0)]) rfl rfl ag zg (HR4.out.put (.int .u8 0) (.slice none 0 0))) rfl ?_
            refine ⟨BlEnd.of_error HO.out, ?_⟩
            exact (HB4.out.setCell (p := ⟨w.heap.size, 0, none⟩) (Nat.le_refl _) _).setCell (p := ⟨w.heap.size, 1, none⟩) (Nat.le_refl _) _
        · have heq : ((s.extract 0 ((headL k).length + 1)).toList == H.toList) = false := by
            rw [beq_eq_false_iff_ne, ByteArray.toList_eq, ByteArray.toList_eq, hxl, hHl]
            exact hp
          have HN := Lib.hid (hnext.out hp)
          clear hnext hxl hp
          go_wp2_with (first
            | (go_at_call 41; (with_reducible refine (cH _).mono ?_); rintro e w2 ⟨⟨v2, rfl, hv2⟩, hb2⟩; have HB2 := Lib.hid (below_next HB.out hb2); have HR2 := Lib.hid (HR.out.step hb2); obtain ⟨b2, rfl, hc2⟩ := hv2; clear hb2 hc2; fail_if_success (have := w3))
            | (go_at_call 41; (with_reducible refine (cH _).mono ?_); rintro e w3 ⟨⟨v3, rfl, hv3⟩, hb3⟩; have HB3 := Lib.hid (below_next HB2.out hb3); have HR3 := Lib.hid (HR2.out.step hb3); obtain ⟨b3, rfl, hc3⟩ := hv3; have c3 := hc3 k hlt; clear hb3 hc3))
          go_roundw
          case rel => exact ⟨k + 1, by omega, by omega, by go_num, HN.out, HR3.out, HB3.out⟩
          case measure => simp [RowKit.intOf]; omega
    · have hltI : ¬ (k : Int) < 7 := by omega
      have hno : headOf s.data.toList = none := by
        cases h : headOf s.data.toList with
        | none => rfl
        | some p =>
          obtain ⟨j, r⟩ := p
          obtain ⟨g1, g2, g3, _⟩ := headOf_some h
          exact absurd g3 (HP.out j g1 (by omega))
      have HV := Lib.hid (fun w' => BlEnd.of_error (s := s) (w' := w') (lineV_none hno))
      clear hno
      go_wp2_with (go_at_call 41; (with_reducible refine (cH _).mono ?_); rintro e w4 ⟨⟨v2, rfl, hv2⟩, hb2⟩; have HB4 := Lib.hid (below_next HB.out hb2); have HR4 := Lib.hid (HR.out.step hb2); obtain ⟨b2, rfl, hc2⟩ := hv2; clear hb2 hc2; obtain ⟨r0, r1, r2, r3⟩ := HR4.out.cells)
      refine bodyPost_ret (results_ct (xs := [(.int .u8 0), (.slice none 0 0)]) rfl rfl ag zg (HR4.out.put (.int .u8 0) (.slice none 0 0))) rfl ?_
      refine ⟨HV.out _, ?_⟩
      exact (HB4.out.setCell (p := ⟨w.heap.size, 0, none⟩) (Nat.le_refl _) _).setCell (p := ⟨w.heap.size, 1, none⟩) (Nat.le_refl _) _
end Go.Proofs.YtnbeomclmggbiaaGreatDoor
namespace Go.Proofs.YtnbeomclmggbiaaGreatDoor
open Go Go.RowKit Go.Lib
set_option maxRecDepth 100000
structure PrI (s : ByteArray) (w : World) (o : List Bk) (k : Nat) (wr : World) : Prop where
  st : DocSt s.data.toList o (s.data.toList.drop k)
  res : wr.heap[w.heap.size]? = some (.cells #[.slice none 0 0] 24 (0, 0))
  doc : DocAt w.heap.size (w.heap.size + 1) o wr
  below : Below w.heap.size w wr
  len : o.length ≤ 256
  few : ∀ b ∈ o, b.l.length ≤ 1000000
theorem res_step {b : Nat} {w w' : World} (h : w.heap[b]? = some (.cells #[.slice none 0 0] 24 (0, 0))) (hb : Below w.heap.size w w') : w'.heap[b]? = some (.cells #[.slice none 0 0] 24 (0, 0)) := by
  rw [hb.block b (lt_of_block h)]; exact h
theorem res_other {b : Nat} {w : World} (h : w.heap[b]? = some (.cells #[.slice none 0 0] 24 (0, 0))) (v : Value) : (w.setCell ⟨b + 1, 0, none⟩ v).heap[b]? = some (.cells #[.slice none 0 0] 24 (0, 0)) := by
  rw [Below.heap_setCell _ _ _ _ (by simp)]; exact h
theorem PrI.start (s : ByteArray) (w : World) : PrI s w [] 0 ((w.alloc (.cells #[.slice none 0 0] 24)).alloc (.cells #[.slice none 0 0] 24)) := by
  refine ⟨DocSt.start _, ?_, ?_, ((Below.refl _ _).alloc (Nat.le_refl _) _).alloc (by simp) _, by simp, by simp⟩
  · have h : (w.alloc (.cells #[.slice none 0 0] 24)).heap[w.heap.size]? = some (.cells #[.slice none 0 0] 24 (0, 0)) := by show (w.heap.push _)[_]? = _; simp
    exact (Below.heap_alloc _ _ _ (lt_of_block h)).trans h
  · refine ⟨.slice none 0 0, ?_, OwnK.nil _ _⟩
    show ((w.heap.push _).push _)[_]? = _
    rw [show w.heap.size + 1 = (w.heap.push (.cells #[.slice none 0 0] 24)).size by simp, Array.getElem?_push_size]
set_option maxHeartbeats 16000000 in
theorem refParse_any (s : ByteArray) (w : World) (hs : s.size ≤ 3500) :
    Calls Tryz.prog 16 #[.string s] w fun e w' => PaEnd s e w' ∧ Below w.heap.size w w' := by
  obtain ⟨i0, hi, hz0, hz1, hz2⟩ := info_parts info_bk
  have ag := Tryz.isAgg51
  have zg := Tryz.sizeOf51
  have ag2 := Tryz.isAgg24
  have zg2 := Tryz.sizeOf24
  have hI : ¬ (65536 : Int) < (s.size : Int) := by omega
  have H0 := Lib.hid (PrI.start s w)
  go_enter Tryz.func16, Tryz.ntmps16
  go_wp2
  go_loopw [6] (fun i wr => ∃ (k : Nat) (o : List Bk), k ≤ s.size ∧ i = .int .i64 k ∧ Hid (PrI s w o k wr)) (fun i _ => s.size - (RowKit.intOf i).toNat)
  case atStart => exact ⟨0, [], Nat.zero_le _, rfl, H0⟩
  case round =>
    obtain ⟨k, o, hk, rfl, HI⟩ := hrel
    have hres := HI.out.res
    have cr := doc_cell hres
    have fr := Lib.frozen_of_heap hres 0
    obtain ⟨v1, d1, own1⟩ := HI.out.doc
    have c1 := doc_cell d1
    have HB1 := Lib.hid HI.out.below
    by_cases hlt : k < s.size
    · have hltI : (k : Int) < (s.size : Int) := by omega
      have hk0 : (0 : Int) ≤ (k : Int) := by omega
      have hne : s.data.toList.drop k ≠ [] := by
        intro e
        have := congrArg List.length e
        rw [List.length_drop, ← size_eq] at this
        simp at this
        omega
      obtain ⟨ao1, cap1, rfl⟩ := own1.form
      by_cases h256 : o.length = 256
      · have HV := Lib.hid (HI.out.st.many hne h256)
        rw [h256] at c1
        clear own1 hne h256
        go_wp2
        refine bodyPost_ret (results_ctt (xs := [.slice none 0 0]) rfl rfl ag2 zg2 (one_cell (by rw [Lib.cell_of_heap (set1_cells hres (.slice none 0 0))]; rfl))) rfl ?_
        refine ⟨PaEnd.of_error HV.out, ?_⟩
        exact HB1.out.setCell (p := ⟨w.heap.size, 0, none⟩) (Nat.le_refl _) _
      · have hlen := HI.out.len
        have h256b : (((o.length : Nat) : Int) == 256) = false := by simpa using (show ((o.length : Nat) : Int) ≠ 256 by omega)
        have cU : ∀ w2, Calls Tryz.prog 49 #[.string s, .int .i64 (k : Int), .int .u8 10] w2 fun e w' => UpEnd s k 10 e ∧ w' = w2 := fun w2 => upTo_any s k 10 w2 (by omega) (by omega)
        by_cases hj : indexByte (s.data.toList.drop k) 10 = -1
        · have HV := Lib.hid (HI.out.st.open hne h256 hj)
          have HJ := Lib.hid hj
          clear hj hne h256 own1
          go_wp2_with (go_at_call 49; (with_reducible refine (cU _).mono ?_); rintro e w2 ⟨hu, hw⟩; obtain rfl := hw.symm; obtain rfl := hu.none HJ.out)
          refine bodyPost_ret (results_ctt (xs := [.slice none 0 0]) rfl rfl ag2 zg2 (one_cell (by rw [Lib.cell_of_heap (set1_cells hres (.slice none 0 0))]; rfl))) rfl ?_
          refine ⟨PaEnd.of_error HV.out, ?_⟩
          exact HB1.out.setCell (p := ⟨w.heap.size, 0, none⟩) (Nat.le_refl _) _
        · obtain ⟨j, hj⟩ : ∃ j : Nat, indexByte (s.data.toList.drop k) 10 = (j : Int) := ⟨(indexByte (s.data.toList.drop k) 10).toNat, by have := indexByte_ge (s.data.toList.drop k) 10; omega⟩
          have hjl := indexByte_cut hj
          rw [List.length_drop, ← size_eq] at hjl
          obtain ⟨en, hen⟩ : ∃ en, en = k + j := ⟨_, rfl⟩
          have HEN := Lib.hid hen
          have HJ := Lib.hid hj
          have hen0 : ¬ ((en : Int) < 0) := by omega
          have hwr1 : IntKind.i64.wrap ((en : Int) + 1) = (en : Int) + 1 := by rw [IntKind.wrap_i64]; omega
          have hle1 : (k : Int) ≤ (en : Int) := by omega
          have hle2 : (en : Int) ≤ (s.size : Int) := by omega
          obtain ⟨l1, hl1⟩ : ∃ l1, s.extract k en = l1 := ⟨_, rfl⟩
          have hld : l1.data.toList = (s.data.toList.drop k).take j := by rw [← hl1, extract_list, hen, List.drop_take]; congr 1; omega
          have hlz : l1.size ≤ 3500 := by rw [size_eq, hld, List.length_take]; omega
          have cP := fun w2 => blockOf_any l1 w2 hlz
          cases hv : lineV ((s.data.toList.drop k).take j) with
          | error z =>
            have HV := Lib.hid (HI.out.st.bad hne h256 hj hv)
            have HL := Lib.hid (show lineV l1.data.toList = .error z by rw [hld]; exact hv)
            have hz : (z == 0) = false := by simpa using lineV_ne hv
            clear hj hne h256 hv hld own1 hen
            go_wp2_with (first
              | (go_at_call 49; (with_reducible refine (cU _).mono ?_); rintro e w2 ⟨hu, hw⟩; obtain rfl := hw.symm; obtain rfl := hu.some HJ.out; rw [← HEN.out])
              | (go_at_call 50; (with_reducible refine (cP _).mono ?_); rintro e w3 ⟨he3, hb3⟩; obtain rfl := he3.error HL.out
                 have HR3 := Lib.hid (res_step (res_step hres hb3) (below_box (.cells #[.int .u8 0, .slice none 0 0] 51))); have HB3 := Lib.hid (below_next (below_next HB1.out hb3) (below_box (.cells #[.int .u8 0, .slice none 0 0] 51))); clear he3 hb3 cr fr c1
                 have cr := doc_cell HR3.out; have fr := Lib.frozen_of_heap HR3.out 0))
            refine bodyPost_ret (results_ctt (xs := [.slice none 0 0]) rfl rfl ag2 zg2 (one_cell (by rw [Lib.cell_of_heap (set1_cells HR3.out (.slice none 0 0))]; rfl))) rfl ?_
            refine ⟨PaEnd.of_error HV.out, ?_⟩
            exact HB3.out.setCell (p := ⟨w.heap.size, 0, none⟩) (Nat.le_refl _) _
          | ok b =>
            have HN := Lib.hid (HI.out.st.next hne h256 hj hv)
            have HL := Lib.hid (show lineV l1.data.toList = .ok b by rw [hld]; exact hv)
            have HD1 := Lib.hid HI.out.doc
            clear hj hne hv hld own1 hen
            obtain ⟨k1, l⟩ := b
            have news2 : Hid (∀ (w2 : World) u j x, ([.int .u8 k1, u] : List Value)[j]? = some x → ((w2.alloc (.cells #[.int .u8 k1, u] 51)).alloc (.cells #[.int .u8 k1, u] 51)).cell? ((⟨w2.heap.size + 1, 0, none⟩ : Addr).add j) = some x) := fun w2 u => by
              have := cell_new2 (w2.alloc (.cells #[.int .u8 k1, u] 51)) (.int .u8 k1) u 51
              rw [show (w2.alloc (.cells #[.int .u8 k1, u] 51)).heap.size = w2.heap.size + 1 by simp] at this
              exact this
            have q1 := Lib.hid (show o.length + 1 ≤ maxLen by unfold maxLen; omega)
            have q2 := Lib.hid (show (o.length + 1) * 32 ≤ 140737488355328 by omega)
            have one2 : Hid (∀ ao n cap, ∀ u ∈ ([.int .u8 k1, .slice ao n cap] : List Value), u.oneCell' = true) := by intro ao n cap u hu; simp at hu; rcases hu with rfl | rfl <;> rfl
            go_wp2_with (first
              | (go_at_call 49; (with_reducible refine (cU _).mono ?_); rintro e w2 ⟨hu, hw⟩; obtain rfl := hw.symm; obtain rfl := hu.some HJ.out; rw [← HEN.out])
              | (go_at_call 50; (with_reducible refine (cP _).mono ?_); rintro e w3 ⟨he3, hb3⟩; obtain ⟨u3, rfl, hu3, hk3⟩ := he3.good HL.out; obtain ⟨ao3, cap3, rfl⟩ := hu3.form; have HU3 := Lib.hid hu3; have HK3 := Lib.hid hk3
                 have HR3 := Lib.hid (res_step (res_step hres hb3) (below_box (.cells #[.int .u8 k1, .slice ao3 l.length cap3] 51))); have HD3 := Lib.hid ((HD1.out.step hb3).step (below_box (.cells #[.int .u8 k1, .slice ao3 l.length cap3] 51))); have HB3 := Lib.hid (below_next (below_next HB1.out hb3) (below_box (.cells #[.int .u8 k1, .slice ao3 l.length cap3] 51))); clear he3 hb3 hu3 hk3 c1 cr fr d1
                 obtain ⟨v3, d3, own3⟩ := HD3.out; have c3 := doc_cell d3; obtain ⟨ao4, cap4, rfl⟩ := own3.form; obtain ⟨us, hue, ho3, hp3⟩ := own3)
              | (at_builtin; refine wpList_append_own _ rfl _ _ 22 rfl w.heap.size 51 i0 _ 2 32 Tryz.underlying22 hi hz0 hz1 hz2 rfl (by decide) _ _ _ rfl (ho3.alloc (.cells #[.int .u8 k1, .slice ao3 l.length cap3] 51)) ⟨w3.heap.size + 1, 0, none⟩ 1 1 [.int .u8 k1, .slice ao3 l.length cap3] rfl rfl (news2.out w3 (.slice ao3 l.length cap3)) (one2.out ao3 l.length cap3) q1.out q2.out (Nat.le_trans HB3.out.size (below_box (w := w3.alloc (.cells #[.int .u8 k1, .slice ao3 l.length cap3] 51)) (.cells #[.int .u8 k1, .slice ao3 l.length cap3] 51)).size) ?_; intro v6 w6 hown6 hgrow6 hnil6
                 have d4 := Below.heap_alloc _ (.cells #[.int .u8 k1, .slice ao3 l.length cap3] 51) _ (lt_of_block d3) |>.trans d3
                 have r4 := Below.heap_alloc _ (.cells #[.int .u8 k1, .slice ao3 l.length cap3] 51) _ (lt_of_block HR3.out) |>.trans HR3.out
                 have d6 : w6.heap[w.heap.size + 1]? = some (.cells #[.slice ao4 o.length cap4] 24 (0, 0)) := by rw [hgrow6.block (w.heap.size + 1) (lt_of_block d4) (fun e => own_other (ho3.alloc (.cells #[.int .u8 k1, .slice ao3 l.length cap3] 51)) d4 (by decide) e.symm)]; exact d4
                 have r6 : w6.heap[w.heap.size]? = some (.cells #[.slice none 0 0] 24 (0, 0)) := by rw [hgrow6.block w.heap.size (lt_of_block r4) (fun e => own_other (ho3.alloc (.cells #[.int .u8 k1, .slice ao3 l.length cap3] 51)) r4 (by decide) e.symm)]; exact r4
                 have own6 : OwnK w.heap.size v6 (o ++ [⟨k1, l⟩]) w6 := OwnK.more (b := ⟨k1, l⟩) hue (ho3.alloc (.cells #[.int .u8 k1, .slice ao3 l.length cap3] 51)) (fun i hi => (hp3 i hi).step (below_box _)) ((HU3.out.step (below_box _)).step (below_box _)) hgrow6 hown6
                 have HO6 := Lib.hid (DocAt.put d6 own6)
                 have HR6 := Lib.hid (res_other r6 v6)
                 have HB6 := Lib.hid (((HB3.out.alloc HB3.out.size (.cells #[.int .u8 k1, .slice ao3 l.length cap3] 51)).grown hgrow6 (Nat.le_trans HB3.out.size (below_box (w := w3.alloc (.cells #[.int .u8 k1, .slice ao3 l.length cap3] 51)) (.cells #[.int .u8 k1, .slice ao3 l.length cap3] 51)).size) (fun k hk => (ho3.lt k hk).1)).setCell (p := ⟨w.heap.size + 1, 0, none⟩) (Nat.le_succ _) v6)
                 have c6 := doc_cell d6; have f6 := Lib.frozen_of_heap d6 0
                 obtain ⟨ao6, cap6, rfl⟩ := own6.form
                 clear hown6 hgrow6 hnil6 own6 hp3 ho3 d4 r4))
            have HO7 := HO6.out
            have HB7 := HB6.out
            have HR7 := HR6.out
            rw [show (o ++ [(⟨k1, l⟩ : Bk)]).length = o.length + 1 by simp] at HO7 HB7 HR7
            go_roundw
            case rel =>
              refine ⟨en + 1, o ++ [⟨k1, l⟩], by have := HEN.out; omega, by go_num, ?_⟩
              refine ⟨by have := HN.out; rw [List.drop_drop, show k + (j + 1) = en + 1 by have := HEN.out; omega] at this; exact this, HR7, HO7, HB7, by simp; omega, fun b hb => ?_⟩
              rcases List.mem_append.1 hb with hb | hb
              · exact HI.out.few b hb
              · obtain rfl : b = ⟨k1, l⟩ := by simpa using hb
                have h1 := HK3.out
                have h2 := bulk_len l
                simp only at h1 ⊢
                omega
            case measure => have := HEN.out; simp [RowKit.intOf]; omega
    · have hltI : ¬ (k : Int) < (s.size : Int) := by omega
      have hst := HI.out.st
      rw [List.drop_eq_nil_of_le (by have := size_eq s; omega)] at hst
      have HV := Lib.hid hst.done
      have HF := Lib.hid HI.out.few
      have HO1 := Lib.hid (own1.kept (grown_setCell wr w.heap.size 0 v1) hres (by decide) (by decide))
      obtain ⟨ao1, cap1, rfl⟩ := own1.form
      clear own1 hst
      go_wp2
      refine bodyPost_ret (results_ctt (xs := [.slice ao1 o.length cap1]) rfl rfl ag2 zg2 (one_cell (by rw [Lib.cell_of_heap (set1_cells hres (.slice ao1 o.length cap1))]; rfl))) rfl ?_
      refine ⟨PaEnd.of_ok HV.out HO1.out.at HF.out, ?_⟩
      exact HB1.out.setCell (p := ⟨w.heap.size, 0, none⟩) (Nat.le_refl _) _
end Go.Proofs.YtnbeomclmggbiaaGreatDoor
