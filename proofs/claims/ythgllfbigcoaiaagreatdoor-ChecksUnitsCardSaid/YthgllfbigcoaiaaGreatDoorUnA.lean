/- Drawn regions: what the loads read is asked only till the last operation that waits for them has come up (so that the region's own stores may write it). The score of two texts by their units: the numbers. Texts, as checks asks docs. The units of a text, by both sides. The sum of two fractions, by both sides. The score of two texts by their units, by the program. -/
import Derived.Deep.RegionHeld3
import Derived.Test.YthgllfbigcoaiaaGreatDoorCkD
import Derived.Test.YthgllfbigcoaiaaGreatDoorDtB
import Derived.Test.YthgllfbigcoaiaaGreatDoorCkN
namespace Go.Proofs.YthgllfbigcoaiaaGreatDoor
open Go
variable {P : Program} {ops : Array Oper} {Q : Exit → Act → World → Prop} {md : Region.Mode} {S : World → Prop} {T : Array Bool → Bool}
/-- whatever order is picked from here on; behind an operation S holds as long as T asks for it -/
def wpTill (P : Program) (md : Region.Mode) (ops : Array Oper) (Q : Exit → Act → World → Prop) (S : World → Prop) (T : Array Bool → Bool) : Nat → Array Bool → Act → World → Prop
  | 0, listed, a, w => Region.ready md ops listed = [] ∧ Q .normal a w
  | fuel + 1, listed, a, w =>
    (Region.ready md ops listed = [] → Q .normal a w) ∧
    ∀ i ∈ Region.ready md ops listed, wpOp P ops Q i (fun b x => (T (listed.setIfInBounds i true) = true → S x) ∧ wpTill P md ops Q S T fuel (listed.setIfInBounds i true) b x) a w
theorem wpAny_of_till : ∀ (fuel : Nat) (listed : Array Bool) (a : Act) (w : World), wpTill P md ops Q S T fuel listed a w → wpAny P md ops Q fuel listed a w
  | 0, _, _, _, h => h
  | fuel + 1, _, _, _, h => ⟨h.1, fun i hi => wpOp_mono (fun b x h2 => wpAny_of_till fuel _ b x h2.2) (h.2 i hi)⟩
/-- what has come up has all that it waits for behind it -/
def closedB (md : Region.Mode) (ops : Array Oper) (listed : Array Bool) : Bool :=
  (List.range ops.size).all fun j => !listed.getD j false || (match ops[j]? with | some o => o.after.all fun e => !Region.binds md e || listed.getD e.on false | none => true)
def Closed (md : Region.Mode) (ops : Array Oper) (listed : Array Bool) : Prop := ∀ j o, ops[j]? = some o → listed.getD j false = true → ∀ e ∈ o.after, Region.binds md e = true → listed.getD e.on false = true
theorem Closed.of {listed : Array Bool} (h : closedB md ops listed = true) : Closed md ops listed := by
  intro j o ho hl e he hb
  have hj : j < ops.size := (Array.getElem?_eq_some_iff.1 ho).1
  have h1 := List.all_eq_true.1 h j (List.mem_range.2 hj)
  rw [hl, ho] at h1
  simp only [Bool.not_true, Bool.false_or, Array.all_eq_true_iff_forall_mem] at h1
  have h2 := h1 e he
  rw [hb] at h2
  simpa using h2
theorem Closed.set {listed : Array Bool} {i : Nat} (h : Closed md ops listed) (hi : i ∈ Region.ready md ops listed) : Closed md ops (listed.setIfInBounds i true) := by
  obtain ⟨_, oi, hoi, hall⟩ := mem_ready.1 hi
  intro j o ho hl e he hb
  by_cases hij : i = j
  · subst hij
    obtain rfl : oi = o := Option.some.inj (hoi.symm.trans ho)
    exact getD_set_true (hall e he hb)
  · rw [getD_set_ne false hij] at hl
    exact getD_set_true (h j o ho hl e he hb)
theorem wpTill_first {i m : Nat} {oi om : Oper} {v : Value} (hi : ops[i]? = some oi) (hsel : ∀ (j : Nat) (o : Oper) cs b, ops[j]? = some o → o.op ≠ .select cs b)
    (hQ : ∀ c a w, Q (.panic c) (a.put oi.dst v) w → Q (.panic c) a w) (hm : ops[m]? = some om) (hmi : m ≠ i) (hwait : ∃ e ∈ om.after, Region.binds md e = true ∧ e.on = i)
    (hT : ∀ l : Array Bool, l.getD m true = false → T l = true) :
    ∀ (fuel : Nat) (listed : Array Bool) (a : Act) (w : World), listed.size = ops.size → Closed md ops listed →
      (∀ j oj, ops[j]? = some oj → j ≠ i → listed.getD j true = false → (∀ e ∈ oj.after, Region.binds md e = true → e.on ≠ i) → oi.apart ops oj = true) →
      i ∈ Region.ready md ops listed → YieldsIf P ops S oi v a → S w →
      wpTill P md ops Q S T fuel (listed.setIfInBounds i true) (a.put oi.dst v) w → wpTill P md ops Q S T (fuel + 1) listed a w := by
  have gone : ∀ {l : Array Bool} {k : Nat}, l.getD k true = false → l.getD k false = false := by
    intro l k h
    rcases Nat.lt_or_ge k l.size with h2 | h2
    · simp [h2] at h ⊢; exact h
    · simp [Array.getElem?_eq_none h2] at h
  intro fuel
  induction fuel with
  | zero =>
    intro listed a w _ _ _ hr hy hS H
    refine ⟨fun h => (by rw [h] at hr; cases hr), fun j hj => ?_⟩
    by_cases hji : j = i
    · subst hji; exact hy.wpOp hi hS ⟨fun _ => hS, H⟩
    · have := ready_mono hj hji
      rw [H.1] at this
      cases this
  | succ fuel ih =>
    intro listed a w hz hc hfree hr hy hS H
    refine ⟨fun h => (by rw [h] at hr; cases hr), fun j hj => ?_⟩
    by_cases hji : j = i
    · subst hji; exact hy.wpOp hi hS ⟨fun _ => hS, H⟩
    · have h1 := H.2 j (ready_mono hj hji)
      obtain ⟨hjun, oj, hoj, hall⟩ := mem_ready.1 hj
      have hi0 := gone (mem_ready.1 hr).1
      have hnot : ∀ e ∈ oj.after, Region.binds md e = true → e.on ≠ i := fun e he hb heq => by
        have h2 := hall e he hb
        rw [heq, hi0] at h2
        cases h2
      have hjm : j ≠ m := by
        rintro rfl
        obtain ⟨e, he, hb, heq⟩ := hwait
        obtain rfl : oj = om := Option.some.inj (hoj.symm.trans hm)
        exact hnot e he hb heq
      have hml : listed.getD m true = false := by
        cases hl : listed.getD m false with
        | true =>
          obtain ⟨e, he, hb, heq⟩ := hwait
          have h2 := hc m om hm hl e he hb
          rw [heq, hi0] at h2
          cases h2
        | false =>
          have hms : m < listed.size := by rw [hz]; exact (Array.getElem?_eq_some_iff.1 hm).1
          simp [hms] at hl ⊢
          exact hl
      have hTa : T ((listed.setIfInBounds i true).setIfInBounds j true) = true := hT _ (by rw [getD_set_ne true hjm, getD_set_ne true (Ne.symm hmi)]; exact hml)
      have h2 := wpOp_putIf hoj (hfree j oj hoj hji hjun hnot) (fun cs b => hsel i oi cs b hi) (fun cs b => hsel j oj cs b hoj) hQ hy h1
      have hfree2 : ∀ k ok, ops[k]? = some ok → k ≠ i → (listed.setIfInBounds j true).getD k true = false →
          (∀ e ∈ ok.after, Region.binds md e = true → e.on ≠ i) → oi.apart ops ok = true := fun k ok hk hki hun hno => by
        refine hfree k ok hk hki ?_ hno
        by_cases hjk : j = k
        · subst hjk; exact hjun
        · rw [getD_set_ne true hjk] at hun; exact hun
      refine wpOp_mono (fun b x h3 => ⟨fun _ => h3.2.1 hTa, ih (listed.setIfInBounds j true) b x (by rw [Array.size_setIfInBounds]; exact hz) (hc.set hj) hfree2 (ready_mono hr (Ne.symm hji)) h3.1 (h3.2.1 hTa) ?_⟩) h2
      rw [Array.setIfInBounds_comm _ _ hji]
      exact h3.2.2
/-- does one operation wait for another one? -/
def waitsB (md : Region.Mode) (ops : Array Oper) (m i : Nat) : Bool := match ops[m]? with | some o => m != i && o.after.any fun e => Region.binds md e && e.on == i | none => false
/-- S is asked as long as one of these operations has not come up -/
def tillAll (ms : List Nat) (l : Array Bool) : Bool := ms.any fun m => !l.getD m true
/-- take number i first: one of those, m, waits for it -/
theorem wpTill_take {ms : List Nat} {i : Nat} (m : Nat) {oi : Oper} {v : Value} {fuel : Nat} {listed : Array Bool} {a : Act} {w : World} (hi : ops[i]? = some oi)
    (hs : Region.noSelect ops = true) (hf : Region.free md ops listed i = true) (hr : (Region.ready md ops listed).contains i = true)
    (hw : (waitsB md ops m i && ms.contains m && closedB md ops listed && listed.size == ops.size) = true)
    (hQ : ∀ c a w, Q (.panic c) (a.put oi.dst v) w → Q (.panic c) a w) (hy : YieldsIf P ops S oi v a) (hS : S w)
    (h : wpTill P md ops Q S (tillAll ms) fuel (listed.setIfInBounds i true) (a.put oi.dst v) w) : wpTill P md ops Q S (tillAll ms) (fuel + 1) listed a w := by
  simp only [Bool.and_eq_true, beq_iff_eq, List.contains_iff_mem] at hw
  obtain ⟨⟨⟨h1, h2⟩, h3⟩, h4⟩ := hw
  unfold waitsB at h1
  cases hm : ops[m]? with
  | none => rw [hm] at h1; cases h1
  | some om =>
    rw [hm] at h1
    simp only [Bool.and_eq_true, bne_iff_ne, ne_eq, Array.any_eq_true'] at h1
    obtain ⟨hmi, e, he, hb, heq⟩ := h1
    exact wpTill_first hi (Region.noSelect_spec hs) hQ hm hmi ⟨e, he, hb, beq_iff_eq.1 heq⟩ (fun l hl => List.any_eq_true.2 ⟨m, h2, by rw [hl]; rfl⟩) fuel listed a w h4 (Closed.of h3) (Region.free_spec hi hf) (by simpa using hr) hy hS h
/-- each of these operations comes up next -/
def NextTill (P : Program) (md : Region.Mode) (ops : Array Oper) (Q : Exit → Act → World → Prop) (S : World → Prop) (T : Array Bool → Bool) (fuel : Nat) (listed : Array Bool) (a : Act) (w : World) (rs : List Nat) : Prop :=
  ∀ i ∈ rs, wpOp P ops Q i (fun b x => (T (listed.setIfInBounds i true) = true → S x) ∧ wpTill P md ops Q S T fuel (listed.setIfInBounds i true) b x) a w
theorem NextTill.nil {fuel : Nat} {listed : Array Bool} {a : Act} {w : World} : NextTill P md ops Q S T fuel listed a w [] := fun _ h => by cases h
theorem NextTill.cons {fuel : Nat} {listed : Array Bool} {a : Act} {w : World} {i : Nat} {o : Oper} {rs : List Nat} (ho : ops[i]? = some o)
    (h : ∀ K : Act → World → Prop, Shut (∀ b x, (T (listed.setIfInBounds i true) = true → S x) → wpTill P md ops Q S T fuel (listed.setIfInBounds i true) b x → K b x) → if Region.wanted o (yielded ops a.tmps) = true then Oper.wp P o a w K Q else K (a.put o.dst undef) w)
    (hs : NextTill P md ops Q S T fuel listed a w rs) : NextTill P md ops Q S T fuel listed a w (i :: rs) := fun j hj => by
  rcases List.mem_cons.1 hj with rfl | hj
  · exact wpOp_step ho (fun K hK => h K (fun b x h1 h2 => hK b x ⟨h1, h2⟩))
  · exact hs j hj
theorem wpTill_next {rs : List Nat} {fuel : Nat} {listed : Array Bool} {a : Act} {w : World} (hr : Region.ready md ops listed = rs) (hne : rs ≠ [])
    (h : NextTill P md ops Q S T fuel listed a w rs) : wpTill P md ops Q S T (fuel + 1) listed a w :=
  ⟨fun h0 => absurd (hr ▸ h0) hne, hr ▸ h⟩
theorem wpTill_done {listed : Array Bool} {a : Act} {w : World} (hr : Region.ready md ops listed = []) (h : Q .normal a w) : ∀ fuel, wpTill P md ops Q S T fuel listed a w
  | 0 => ⟨hr, h⟩
  | _ + 1 => ⟨fun _ => h, by rw [hr]; simp⟩
/-- the beginning: S holds behind the draw; it is asked till all of ms have come up -/
theorem wp_region_till (S : World → Prop) (ms : List Nat) {id : Nat} {a : Act} {w : World} (hm : P.follows .mixedOrders = true) (hS : S w.drew)
    (h : S w.drew → wpTill P .any ops Q S (tillAll ms) ops.size (Array.replicate ops.size false) a w.drew) : (Code.region id ops true).wp P Q a w :=
  wp_region_any hm (wpAny_of_till _ _ _ _ (h hS))
end Go.Proofs.YthgllfbigcoaiaaGreatDoor
namespace Go.Proofs.YthgllfbigcoaiaaGreatDoor
open Go Go.RowKit Go.Lib
set_option maxRecDepth 100000
/-- a quotient as a pair -/
def quN (h g : Nat) : Nat × Nat := if h = 0 ∨ g = 0 then (0, 1) else (h / Nat.gcd h g, g / Nat.gcd h g)
def frP (p : Nat × Nat) : Value := .agg #[.int .i64 (p.1 : Int), .int .i64 (p.2 : Int)]
theorem quoV_fr (h g : Nat) : quoV h g = frP (quN h g) := by
  unfold quoV quN
  split <;> rfl
theorem quN_1 (h g : Nat) : (quN h g).1 ≤ h := by
  unfold quN
  split
  · exact Nat.zero_le _
  · exact Nat.div_le_self _ _
theorem quN_2 {h g D : Nat} (h1 : 1 ≤ D) (h2 : g ≤ D) : (quN h g).2 ≤ D := by
  unfold quN
  split
  · exact h1
  · exact Nat.le_trans (Nat.div_le_self _ _) h2
/-- the sum of two fractions -/
def plN (p q : Nat × Nat) : Nat × Nat := quN (p.1 * q.2 + q.1 * p.2) (p.2 * q.2)
/-- a sum of fractions -/
def sumQ (f : Nat → Nat × Nat) : Nat → Nat × Nat
  | 0 => quN 0 1
  | k + 1 => plN (sumQ f k) (f k)
/-- how great the parts of a fraction are -/
def Fr (A D : Nat) (p : Nat × Nat) : Prop := p.1 ≤ A ∧ p.2 ≤ D
theorem plN_le {p q : Nat × Nat} {A D : Nat} (hp : Fr A D p) (hq : Fr 200 200 q) (hD : 1 ≤ D) : Fr (A * 200 + 200 * D) (D * 200) (plN p q) := by
  have e1 : p.1 * q.2 ≤ A * 200 := Nat.mul_le_mul hp.1 hq.2
  have e2 : q.1 * p.2 ≤ 200 * D := Nat.mul_le_mul hq.1 hp.2
  have e3 : p.2 * q.2 ≤ D * 200 := Nat.mul_le_mul hp.2 hq.2
  exact ⟨Nat.le_trans (quN_1 _ _) (Nat.add_le_add e1 e2), quN_2 (by omega) e3⟩
theorem sumQ_le {f : Nat → Nat × Nat} (hf : ∀ k, Fr 200 200 (f k)) {k : Nat} (hk : k ≤ 3) : Fr 24000000 8000000 (sumQ f k) := by
  have s0 : Fr 0 1 (sumQ f 0) := ⟨quN_1 _ _, quN_2 (by omega) (by omega)⟩
  have s1 := plN_le s0 (hf 0) (by omega)
  have s2 := plN_le s1 (hf 1) (by omega)
  have s3 := plN_le s2 (hf 2) (by omega)
  have w : ∀ {A D : Nat} {p : Nat × Nat}, Fr A D p → A ≤ 24000000 → D ≤ 8000000 → Fr 24000000 8000000 p := fun h a d => ⟨Nat.le_trans h.1 a, Nat.le_trans h.2 d⟩
  match k, hk with
  | 0, _ => exact w s0 (by omega) (by omega)
  | 1, _ => exact w (show Fr _ _ (sumQ f 1) from s1) (by omega) (by omega)
  | 2, _ => exact w (show Fr _ _ (sumQ f 2) from s2) (by omega) (by omega)
  | 3, _ => exact w (show Fr _ _ (sumQ f 3) from s3) (by omega) (by omega)
/-- what is found again of the grams of k + 1 units: of those of m units -/
def partQ (a b : List ByteArray) (m k : Nat) : Nat × Nat := quN (mtQ a b (k + 1)) (m + 1 - (k + 1))
theorem partQ_le {a b : List ByteArray} (ha : a.length ≤ 200) {m : Nat} (hm : m ≤ 200) (k : Nat) : Fr 200 200 (partQ a b m k) := by
  have h := mtQ_left a b (k + 1)
  exact ⟨Nat.le_trans (quN_1 _ _) (by omega), quN_2 (by omega) (by omega)⟩
/-- the score: both sums are divided by n, and are put together with a weight -/
def overN (p : Nat × Nat) (n : Nat) : Nat × Nat := quN p.1 (p.2 * n)
def joinN (p r : Nat × Nat) (c : Nat) : Nat × Nat := quN ((1 + c) * p.1 * r.1) (c * p.1 * r.2 + r.1 * p.2)
theorem overN_le {p : Nat × Nat} {n : Nat} (hp : Fr 24000000 8000000 p) (hn : n ≤ 3) : Fr 24000000 24000000 (overN p n) := by
  have e : p.2 * n ≤ 8000000 * 3 := Nat.mul_le_mul hp.2 hn
  exact ⟨Nat.le_trans (quN_1 _ _) hp.1, quN_2 (by omega) (by omega)⟩
def unitN (a b : List ByteArray) (n beta : Nat) : Nat × Nat :=
  joinN (overN (sumQ (partQ a b a.length) n) n) (overN (sumQ (partQ a b b.length) n) n) (beta * beta)
/-- which numbers are asked for -/
def unitBad (n beta : Int) : Prop := n < 1 ∨ 3 < n ∨ beta < 1 ∨ 3 < beta
end Go.Proofs.YthgllfbigcoaiaaGreatDoor
namespace Go.Proofs.YthgllfbigcoaiaaGreatDoor
open Go Go.RowKit Go.Lib
set_option maxRecDepth 100000
theorem check_one (s : ByteArray) (h : 0 < s.size) : D.checkE [⟨1, s, false⟩] = if D.textB s = true then 0 else 4 := by
  cases hb : D.textB s <;> simp [D.checkE, D.runC, D.hereE, D.pieceE, D.folE, hb, show ¬ s.size = 0 by omega]
theorem text_empty {s : ByteArray} (h : s.size = 0) : D.textB s = true := by
  obtain ⟨d⟩ := s
  have e : d = #[] := by simpa [ByteArray.size] using h
  subst e
  decide +kernel
set_option maxHeartbeats 4000000 in
theorem isText_any (s : ByteArray) (w : World) (hs : s.size ≤ 900) (hT : D.Tabs w) :
    Calls Tryz.prog 46 #[.string s] w fun e w' => e = .returned (.bool (D.textB s)) ∧ Below w.heap.size w w' := by
  by_cases h0 : s.size = 0
  · have hE : s.toList.isEmpty = true := D.isempty (by omega)
    have HT := Lib.hid (text_empty h0)
    go_enter Tryz.func46, Tryz.ntmps46
    go_wp2
    go_ret
    exact ⟨ret_bool HT.out.symm, Below.refl _ _⟩
  · have hE : s.toList.isEmpty = false := D.nonempty (by omega)
    have HO := Lib.hid (check_one s (by omega))
    have HT := Lib.hid hT
    have HS : Hid (∀ x ∈ [(⟨1, s, false⟩ : D.Pc)], x.s.size ≤ maxLen) := by
      intro x hx
      simp at hx
      subst hx
      unfold maxLen
      show s.size ≤ _
      omega
    have HB0 := Lib.hid (below_box (w := w) (.cells #[.int .u8 1, .string s, .bool false] 108))
    have HP : Hid (D.PcsAt (w.alloc (.cells #[.int .u8 1, .string s, .bool false] 108)) (.slice (some ⟨w.heap.size, 0, none⟩) 1 1) [⟨1, s, false⟩]) := by
      refine ⟨some ⟨w.heap.size, 0, none⟩, 1, rfl, Nat.le_refl _, by unfold maxLen; omega, fun _ => ⟨_, rfl, by simp, fun i j hi hj => ?_⟩⟩
      have hi0 : i = 0 := by simp at hi; omega
      subst hi0
      match j, hj with
      | 0, _ => simp [Addr.add, D.pcF]
      | 1, _ => simp [Addr.add, D.pcF]
      | 2, _ => simp [Addr.add, D.pcF]
    clear hT
    cases hb : D.textB s
    · rw [hb] at HO
      go_enter Tryz.func46, Tryz.ntmps46
      go_wp2_with (go_at_call 66; (with_reducible refine (D.checkPieces_any [⟨1, s, false⟩] _ _ HP.out HS.out (HT.out.step HB0.out)).mono ?_); rintro e w1 ⟨rfl, hb1⟩; have HB1 := Lib.hid (below_next HB0.out hb1); rw [HO.out])
      go_ret
      exact ⟨rfl, HB1.out⟩
    · rw [hb] at HO
      go_enter Tryz.func46, Tryz.ntmps46
      go_wp2_with (go_at_call 66; (with_reducible refine (D.checkPieces_any [⟨1, s, false⟩] _ _ HP.out HS.out (HT.out.step HB0.out)).mono ?_); rintro e w1 ⟨rfl, hb1⟩; have HB1 := Lib.hid (below_next HB0.out hb1); rw [HO.out])
      go_ret
      exact ⟨rfl, HB1.out⟩
end Go.Proofs.YthgllfbigcoaiaaGreatDoor
namespace Go.Proofs.YthgllfbigcoaiaaGreatDoor
open Go Go.RowKit Go.Lib
set_option maxRecDepth 100000
/-- a rune as a text of its own -/
def encR (r : Nat) : ByteArray := Utf8.encode (r : Int)
/-- the units of a text: its runes, each a text -/
def unitsB (s : ByteArray) : List ByteArray := (D.runesOf s).map encR
def unitsF (s : ByteArray) (fuel pos : Nat) : List ByteArray := (D.runesG fuel (s.data.toList.drop pos)).map encR
theorem unitsF_all (s : ByteArray) : unitsF s s.size 0 = unitsB s := rfl
theorem unitsF_step (s : ByteArray) (fuel pos : Nat) (hp : pos < s.size) : unitsF s (fuel + 1) pos = encR (Utf8.decode s pos).1 :: unitsF s fuel (pos + (Utf8.decode s pos).2) := by
  unfold unitsF
  have hne : s.data.toList.drop pos ≠ [] := by
    intro h
    have := congrArg List.length h
    rw [List.length_drop, D.bytes_len] at this
    simp at this; omega
  simp only [D.runesG, if_neg hne, List.map_cons, decodeL_drop, List.drop_drop]
theorem unitsF_end (s : ByteArray) (fuel pos : Nat) (hp : ¬ pos < s.size) : unitsF s fuel pos = [] := by
  unfold unitsF
  have h : s.data.toList.drop pos = [] := by
    apply List.drop_eq_nil_of_le
    rw [D.bytes_len]; omega
  rw [h]
  cases fuel <;> simp [D.runesG]
theorem unitsB_len (s : ByteArray) : (unitsB s).length ≤ s.size := by
  unfold unitsB
  rw [List.length_map]
  exact D.runesG_length _ _
theorem encR_size (r : Nat) : (encR r).size ≤ 4 := D.enc_small _
theorem unitsB_small (s : ByteArray) : ∀ u ∈ unitsB s, u.size ≤ maxLen := by
  intro u hu
  unfold unitsB at hu
  obtain ⟨r, _, rfl⟩ := List.mem_map.1 hu
  have := encR_size r
  unfold maxLen
  omega
theorem own_iter {w : World} {B n pos b : Nat} {t : TypeId} {v : Value} {s : ByteArray} {xs : List Value} (hown : w.ownsRow B t 1 v n xs) (h : w.heap[b]? = some (.stringIter s pos)) : v.ownBlock ≠ some b := by
  intro e
  rcases hown.2 with ⟨rfl, _⟩ | ⟨g, cap, cur, rfl, _, hg, _⟩
  · simp [Value.ownBlock] at e
  · simp only [Value.ownBlock, Option.some.injEq] at e
    subst e
    rw [h] at hg
    simp at hg
theorem own_iterAt {w : World} {B n k pos : Nat} {t : TypeId} {v : Value} {s : ByteArray} {xs : List Value} (h : w.ownsRow B t 1 v n xs) (hk : w.heap[k]? = some (.stringIter s pos)) (pos' : Nat) : (w.iterAt k s pos').ownsRow B t 1 v n xs := by
  refine ⟨h.1, ?_⟩
  rcases h.2 with hn | ⟨g, cap, cur, hv, hbg, hg, rest⟩
  · exact .inl hn
  · have hkg : g ≠ k := by
      intro e1
      rw [e1, hk] at hg
      cases hg
    exact .inr ⟨g, cap, cur, hv, hbg, (iterAt_other w k g s pos' hkg).trans hg, rest⟩
theorem own_cells {w : World} {B b sz : Nat} {e t : TypeId} {v : Value} {n : Nat} {xs : List Value} {cs : Array Value} (hown : w.ownsRow B e sz v n xs) (hb : w.heap[b]? = some (.cells cs t (0, 0))) (hne : e ≠ t) : v.ownBlock ≠ some b := by
  rcases hown.2 with ⟨rfl, _⟩ | ⟨g, cap, cur, rfl, _, hg, _⟩
  · simp [Value.ownBlock]
  · intro e'
    simp only [Value.ownBlock, Option.some.injEq] at e'
    subst e'
    rw [hg] at hb
    injection hb with hb
    injection hb with _ ht _
    exact hne ht
set_option maxHeartbeats 4000000 in
theorem runeCount_any (s : ByteArray) (w : World) (hs : s.size ≤ 900) :
    Calls Tryz.prog 47 #[.string s] w fun e w' => e = .returned (.int .i64 ((unitsB s).length : Nat)) ∧ Below w.heap.size w w' := by
  have HL := Lib.hid (unitsB_len s)
  go_enter Tryz.func47, Tryz.ntmps47
  go_wp2
  go_loopw [2] (fun n wr => ∃ (pos fuel acc : Nat), n = .int .i64 acc ∧ wr.heap[w.heap.size]? = some (.stringIter s pos) ∧ Hid (Below w.heap.size w wr) ∧ Hid (acc + (unitsF s fuel pos).length = (unitsB s).length) ∧ s.size ≤ pos + fuel ∧ acc ≤ pos) (fun _ wr => s.size - wr.iterPos w.heap.size)
  case atStart => exact ⟨0, s.size, 0, rfl, World.iter_heap w s 0, (Below.refl _ _).alloc (Nat.le_refl _) _, by show _ = _; rw [unitsF_all]; omega, by omega, Nat.le_refl _⟩
  case round =>
    obtain ⟨pos, fuel, acc, rfl, hit, HB, HS, hb, hap⟩ := hrel
    have hpos0 := iterPos_of hit
    by_cases hp : pos < s.size
    · have hnx : ∀ ty, (Instr.next (.pointer (some ⟨w.heap.size, 0, none⟩)) true ty).run Tryz.prog wr = _ := fun ty => Lib.run_next_any_at wr w.heap.size s pos ty hit hp
      have hwd := width_pos s pos
      obtain ⟨fuel, rfl⟩ : ∃ f', fuel = f' + 1 := ⟨fuel - 1, by omega⟩
      have HO := Lib.hid (unitsF_step s fuel pos hp)
      have hit2 := Lib.iterAt_heap wr w.heap.size s pos (pos + (Utf8.decode s pos).2) hit
      have HB2 := Lib.hid (Lib.below_iterAt HB.out (k := w.heap.size) (Nat.le_refl _) s (pos + (Utf8.decode s pos).2))
      obtain ⟨W1, hW1⟩ : ∃ W1, W1 = wr.iterAt w.heap.size s (pos + (Utf8.decode s pos).2) := ⟨_, rfl⟩
      rw [← hW1] at hnx hit2 HB2
      clear hW1 hit
      generalize (Utf8.decode s pos).1 = r at hnx HO
      generalize (Utf8.decode s pos).2 = d at hnx HO hit2 hwd
      have hacc : acc < 1000 := by omega
      go_wp2
      go_roundw
      case rel => exact ⟨_, fuel, acc + 1, by go_num, hit2, HB2.out, (by show _ = _; rw [← HS.out, HO.out, List.length_cons]; omega), by omega, by omega⟩
      case measure => rw [iterPos_of hit2, hpos0]; omega
    · have hnx : ∀ ty, (Instr.next (.pointer (some ⟨w.heap.size, 0, none⟩)) true ty).run Tryz.prog wr = _ := fun ty => Lib.run_next_end_at wr w.heap.size s pos ty hit hp
      have HE := Lib.hid (show acc = (unitsB s).length by have := HS.out; rw [unitsF_end s fuel pos hp] at this; simpa using this)
      go_wp2
      go_ret
      exact ⟨by rw [HE.out]; rfl, HB.out⟩
/-- the units of a text in a row of the call's own -/
def UnEnd (_B : Nat) (s : ByteArray) (e : Ending) (w : World) : Prop := ∃ ao cap, e = .returned (.slice ao (unitsB s).length cap) ∧ WdsAt w (.slice ao (unitsB s).length cap) (unitsB s)
theorem UnEnd.of {B : Nat} {s : ByteArray} {v : Value} {w : World} (h : OwnS B v (unitsB s) w) : UnEnd B s (.returned v) w := by
  obtain ⟨ao, cap, rfl⟩ := h.form
  exact ⟨ao, cap, rfl, h.at (unitsB_small s)⟩
set_option maxHeartbeats 8000000 in
theorem unitsOf_any (s : ByteArray) (w : World) (hs : s.size ≤ 900) :
    Calls Tryz.prog 48 #[.string s] w fun e w' => UnEnd w.heap.size s e w' ∧ Below w.heap.size w w' := by
  obtain ⟨i0, hi, hz0, hz1, hz2⟩ := info_parts info_word
  go_enter Tryz.func48, Tryz.ntmps48
  go_wp2
  go_loopw [3, 5] (fun o _ wr => ∃ (pos fuel : Nat) (pre : List ByteArray), wr.heap[w.heap.size]? = some (.stringIter s pos) ∧ Hid (OwnS w.heap.size o pre wr) ∧ Hid (Below w.heap.size w wr) ∧ Hid (pre ++ unitsF s fuel pos = unitsB s) ∧ s.size ≤ pos + fuel ∧ pre.length ≤ pos) (fun _ _ wr => s.size - wr.iterPos w.heap.size)
  case atStart => exact ⟨0, s.size, [], World.iter_heap w s 0, World.ownsRow_nil _ _ _ _, (Below.refl _ _).alloc (Nat.le_refl _) _, by show _ = _; rw [unitsF_all]; rfl, by omega, Nat.le_refl _⟩
  case round =>
    obtain ⟨pos, fuel, pre, hit, HO, HB, HS, hb, hap⟩ := hrel
    have hpos0 := iterPos_of hit
    by_cases hp : pos < s.size
    · have hnx : ∀ ty, (Instr.next (.pointer (some ⟨w.heap.size, 0, none⟩)) true ty).run Tryz.prog wr = _ := fun ty => Lib.run_next_any_at wr w.heap.size s pos ty hit hp
      have hwd := width_pos s pos
      obtain ⟨fuel, rfl⟩ : ∃ f', fuel = f' + 1 := ⟨fuel - 1, by omega⟩
      have HU := Lib.hid (unitsF_step s fuel pos hp)
      have hit2 := Lib.iterAt_heap wr w.heap.size s pos (pos + (Utf8.decode s pos).2) hit
      have HB2 := Lib.hid (Lib.below_iterAt HB.out (k := w.heap.size) (Nat.le_refl _) s (pos + (Utf8.decode s pos).2))
      obtain ⟨ao, ca, hfo⟩ := HO.out.form
      subst hfo
      have hown2 := own_iterAt (pos' := pos + (Utf8.decode s pos).2) HO.out hit
      obtain ⟨W1, hW1⟩ : ∃ W1, W1 = wr.iterAt w.heap.size s (pos + (Utf8.decode s pos).2) := ⟨_, rfl⟩
      rw [← hW1] at hnx hit2 HB2 hown2
      clear hW1 hit
      have hle := decode_le s pos
      unfold encR at HU
      generalize (Utf8.decode s pos).1 = r at hnx HU hle
      generalize (Utf8.decode s pos).2 = d at hnx HU hit2 hwd
      have hpl : pre.length < 1000 := by omega
      have HO2 := Lib.hid hown2
      have HI := Lib.hid hit2
      have hsz2 := HB2.out.size
      clear hown2 hit2 HO
      go_wp2_with (at_builtin; refine wpList_append_own _ rfl _ _ 22 rfl w.heap.size 9 i0 (.string ⟨#[]⟩) 1 16 Tryz.underlying22 hi hz0 hz1 hz2 rfl (by decide) _ _ _ rfl (HO2.out.alloc (.cells #[.string (Utf8.encode (r : Int))] 9)) _ 1 1 [.string (Utf8.encode (r : Int))] rfl rfl (cell_new1 _ _ _) (fun x hx => by simp at hx; subst hx; rfl) (by unfold maxLen; omega) (by omega) (by simp; omega) ?_; intro v6 w6 hown6 hgrow6 hnil6
                   have hit6 : w6.heap[w.heap.size]? = some (.stringIter s (pos + d)) := by
                     have d4 := (Below.heap_alloc W1 (.cells #[.string (Utf8.encode (r : Int))] 9) _ (lt_of_block HI.out)).trans HI.out
                     rw [hgrow6.block w.heap.size (lt_of_block d4) (fun e => own_iter (HO2.out.alloc (.cells #[.string (Utf8.encode (r : Int))] 9)) d4 e.symm)]
                     exact d4
                   have HB6 := Lib.hid ((HB2.out.alloc hsz2 (.cells #[.string (Utf8.encode (r : Int))] 9)).grown hgrow6 (by simp; omega) (fun k hk => (HO2.out.lt k hk).1))
                   have HO6 := Lib.hid (show OwnS w.heap.size v6 (pre ++ [Utf8.encode (r : Int)]) w6 by unfold OwnS; rw [List.length_append, List.map_append]; exact hown6)
                   clear hown6 hgrow6 hnil6)
      go_roundw
      case rel => exact ⟨_, fuel, _, hit6, HO6.out, HB6.out, (by show _ = _; rw [← HS.out, HU.out, List.append_assoc]; rfl), by omega, by simp; omega⟩
      case measure => rw [iterPos_of hit6, hpos0]; omega
    · have hnx : ∀ ty, (Instr.next (.pointer (some ⟨w.heap.size, 0, none⟩)) true ty).run Tryz.prog wr = _ := fun ty => Lib.run_next_end_at wr w.heap.size s pos ty hit hp
      have HE := Lib.hid (show pre = unitsB s by have := HS.out; rw [unitsF_end s fuel pos hp] at this; simpa using this)
      go_wp2
      go_ret
      exact ⟨UnEnd.of (by rw [← HE.out]; exact HO.out), HB.out⟩
set_option maxHeartbeats 8000000 in
theorem single_any (s : ByteArray) (w : World) (hs : s.size ≤ 900) :
    Calls Tryz.prog 51 #[.string s] w fun e w' => UnEnd w.heap.size s e w' ∧ Below w.heap.size w w' := by
  obtain ⟨i0, hi, hz0, hz1, hz2⟩ := info_parts info_word
  obtain ⟨cap2, W1, cur, hcv, hb2, hbl2, hcur, hcap2⟩ := D.toRunes2 s w (by omega)
  have hrl : (D.runesOf s).length ≤ s.size := D.runesG_length _ _
  have HU := Lib.hid (show (D.runesOf s).map encR = unitsB s from rfl)
  have HCU := Lib.hid hcur
  have HB2 := Lib.hid hb2
  have HBL := Lib.hid hbl2
  have hrs : (D.runesOf s).length ≤ 900 := by omega
  clear hcur hbl2 hb2 hrl
  generalize D.runesOf s = rs at *
  go_enter Tryz.func51, Tryz.ntmps51
  go_wp2
  go_loopw [4, 5] (fun o i wr => ∃ j : Nat, j ≤ rs.length ∧ i = .int .i64 j ∧ Hid (OwnS w.heap.size o ((rs.take j).map encR) wr) ∧ Hid (wr.heap[w.heap.size]? = some (.cells cur 21 (0, 0))) ∧ Hid (Below w.heap.size w wr)) (fun _ i _ => rs.length - (RowKit.intOf i).toNat)
  case atStart => exact ⟨0, Nat.zero_le _, rfl, World.ownsRow_nil _ _ _ _, HBL.out, HB2.out⟩
  case round =>
    obtain ⟨j, hj, rfl, HO, HR, HB⟩ := hrel
    by_cases hjl : j < rs.length
    · have hr : rs[j]? = some rs[j] := List.getElem?_eq_getElem hjl
      have ck := (Lib.cell_of_heap HR.out j).trans (HCU.out j _ hr)
      have HT := Lib.hid (show (rs.take (j + 1)).map encR = (rs.take j).map encR ++ [Utf8.encode ((rs[j] : Nat) : Int)] by rw [List.take_add_one, hr, List.map_append]; rfl)
      have hlen : ((rs.take j).map encR).length ≤ 900 := by rw [List.length_map, List.length_take]; omega
      generalize rs[j] = r at hr ck HT
      generalize (rs.take j).map encR = pre at HO HT hlen
      clear hr
      obtain ⟨ao, ca, hfo⟩ := HO.out.form
      subst hfo
      have hown2 := HO.out
      unfold OwnS at hown2
      have HO2 := Lib.hid hown2
      have hsz2 := HB.out.size
      clear hown2 HO
      go_wp2_with (at_builtin; refine wpList_append_own _ rfl _ _ 22 rfl w.heap.size 9 i0 (.string ⟨#[]⟩) 1 16 Tryz.underlying22 hi hz0 hz1 hz2 rfl (by decide) _ _ _ rfl (HO2.out.alloc (.cells #[.string (Utf8.encode (r : Int))] 9)) _ 1 1 [.string (Utf8.encode (r : Int))] rfl rfl (cell_new1 _ _ _) (fun x hx => by simp at hx; subst hx; rfl) (by unfold maxLen; omega) (by omega) (by simp; omega) ?_; intro v6 w6 hown6 hgrow6 hnil6
                   have HR6 := Lib.hid (show w6.heap[w.heap.size]? = some (.cells cur 21 (0, 0)) by
                     have d4 := (Below.heap_alloc wr (.cells #[.string (Utf8.encode (r : Int))] 9) _ (lt_of_block HR.out)).trans HR.out
                     rw [hgrow6.block w.heap.size (lt_of_block d4) (fun e => own_cells (HO2.out.alloc (.cells #[.string (Utf8.encode (r : Int))] 9)) d4 (by decide) e.symm)]
                     exact d4)
                   have HB6 := Lib.hid ((HB.out.alloc hsz2 (.cells #[.string (Utf8.encode (r : Int))] 9)).grown hgrow6 (by simp; omega) (fun k hk => (HO2.out.lt k hk).1))
                   have HO6 := Lib.hid (show OwnS w.heap.size v6 (pre ++ [Utf8.encode (r : Int)]) w6 by unfold OwnS; rw [List.length_append, List.map_append]; exact hown6)
                   clear hown6 hgrow6 hnil6)
      go_roundw
      case rel => exact ⟨j + 1, hjl, by go_num, (by show OwnS _ _ _ _; rw [HT.out]; exact HO6.out), HR6.out, HB6.out⟩
      case measure => simp [RowKit.intOf]; omega
    · have HE := Lib.hid (show (rs.take j).map encR = unitsB s by rw [List.take_of_length_le (by omega)]; exact HU.out)
      go_wp2
      go_ret
      exact ⟨UnEnd.of (by rw [← HE.out]; exact HO.out), HB.out⟩
end Go.Proofs.YthgllfbigcoaiaaGreatDoor
namespace Go.Proofs.YthgllfbigcoaiaaGreatDoor
open Go Go.RowKit Go.Lib
set_option maxRecDepth 100000
theorem wrap_nat {N : Nat} (h : N ≤ 4611686018427387904) : wrap64 (N : Int) = (N : Int) := by
  unfold wrap64
  omega
theorem wrap_prod {x v N : Nat} (h : x * v = N) (hb : N ≤ 4611686018427387904) : wrap64 ((x : Int) * (v : Int)) = (N : Int) := by
  rw [← Int.natCast_mul, h]
  exact wrap_nat hb
theorem wrap_prodI {x v N : Nat} (h : x * v = N) (hb : N ≤ 4611686018427387904) : IntKind.i64.wrap ((x : Int) * (v : Int)) = (N : Int) := by
  rw [← Int.natCast_mul, h]
  clear h
  rw [IntKind.wrap_i64] <;> omega
theorem frP_mk (x y : Nat) : frP (x, y) = .agg #[.int .i64 (x : Int), .int .i64 (y : Int)] := rfl
set_option maxHeartbeats 8000000 in
theorem plus_any (x y u v : Nat) (w : World) (hx : x ≤ 24000000) (hy : y ≤ 8000000) (hu : u ≤ 200) (hv : v ≤ 200) :
    Calls Tryz.prog 49 #[.agg #[.int .i64 (x : Int), .int .i64 (y : Int)], .agg #[.int .i64 (u : Int), .int .i64 (v : Int)]] w fun e w' => e = .returned (frP (plN (x, y) (u, v))) ∧ Below w.heap.size w w' := by
  have agF := Tryz.isAgg35
  have zgF := Tryz.sizeOf35
  have b1 : x * v ≤ 4800000000 := Nat.le_trans (Nat.mul_le_mul hx hv) (by decide)
  have b2 : u * y ≤ 1600000000 := Nat.le_trans (Nat.mul_le_mul hu hy) (by decide)
  have b3 : y * v ≤ 1600000000 := Nat.le_trans (Nat.mul_le_mul hy hv) (by decide)
  have HQ : Hid (frP (plN (x, y) (u, v)) = quoV (x * v + u * y) (y * v)) := (quoV_fr _ _).symm
  obtain ⟨N1, e1⟩ : ∃ N1, x * v = N1 := ⟨_, rfl⟩
  obtain ⟨N2, e2⟩ : ∃ N2, u * y = N2 := ⟨_, rfl⟩
  obtain ⟨N3, e3⟩ : ∃ N3, y * v = N3 := ⟨_, rfl⟩
  rw [e1] at b1 HQ
  rw [e2] at b2 HQ
  rw [e3] at b3 HQ
  have m1 := wrap_prod e1 (by omega)
  have m2 := wrap_prod e2 (by omega)
  have m3 := wrap_prod e3 (by omega)
  clear e1 e2 e3
  obtain ⟨N4, h4⟩ : ∃ N4, N4 = N1 + N2 := ⟨_, rfl⟩
  rw [← h4] at HQ
  have cQ := fun w' => by
    have h := quotient_any N4 N3 w' (by omega) (by omega)
    rw [show ((N4 : Nat) : Int) = (N1 : Int) + (N2 : Int) by omega] at h
    exact h
  have hnew : (((w.alloc (.cells #[.int .i64 (x : Int), .int .i64 (y : Int)] 35)).alloc (.cells #[.int .i64 (u : Int), .int .i64 (v : Int)] 35)).alloc (.cells #[.int .i64 0, .int .i64 0] 35)).heap[w.heap.size + 1 + 1]? = some (.cells #[.int .i64 0, .int .i64 0] 35 (0, 0)) := by
    have h := (MapKept.heap_alloc ((w.alloc (.cells #[.int .i64 (x : Int), .int .i64 (y : Int)] 35)).alloc (.cells #[.int .i64 (u : Int), .int .i64 (v : Int)] 35)) (.cells #[.int .i64 0, .int .i64 0] 35)).1
    simpa using h
  have HB0 : Hid (Below w.heap.size w (((w.alloc (.cells #[.int .i64 (x : Int), .int .i64 (y : Int)] 35)).alloc (.cells #[.int .i64 (u : Int), .int .i64 (v : Int)] 35)).alloc (.cells #[.int .i64 0, .int .i64 0] 35))) := below_next (below_next (below_box _) (below_box _)) (below_box _)
  have HN := Lib.hid hnew
  clear hnew
  obtain ⟨z, hz⟩ : ∃ z, z = quoV N4 N3 := ⟨_, rfl⟩
  rw [← hz] at HQ cQ
  obtain ⟨z1, z2, hzz⟩ : ∃ z1 z2 : Nat, z = .agg #[.int .i64 (z1 : Int), .int .i64 (z2 : Int)] := ⟨_, _, hz.trans (quoV_fr _ _)⟩
  clear hz
  subst hzz
  go_enter Tryz.func49, Tryz.ntmps49
  go_wp2_with (go_at_call 44; (with_reducible refine (cQ _).mono ?_); rintro e w1 ⟨rfl, hb1⟩
               have HW1 := Lib.hid ((hb1.block _ (lt_of_block HN.out)).trans HN.out)
               have HB1 := Lib.hid (below_next HB0.out hb1)
               have hw1 := HW1.out
               have f0 : w1.frozen? ⟨w.heap.size + 1 + 1, 0, none⟩ = false := by simp [World.frozen?, hw1]
               have f1 : w1.frozen? ⟨w.heap.size + 1 + 1, 1, none⟩ = false := by simp [World.frozen?, hw1]
               have r0 : w1.cell? ⟨w.heap.size + 1 + 1, 0, none⟩ = some (.int .i64 0) := by simp [World.cell?, hw1]
               have r1 : w1.cell? ⟨w.heap.size + 1 + 1, 1, none⟩ = some (.int .i64 0) := by simp [World.cell?, hw1]
               clear hw1 hb1)
  have hfin := set2_cells HW1.out (.int .i64 z1) (.int .i64 z2)
  refine bodyPost_ret (results_c (xs := [.int .i64 z1, .int .i64 z2]) rfl rfl agF zgF (two_cells (by show World.cell? _ _ = _; exact (Lib.cell_of_heap hfin _).trans rfl) (by show World.cell? _ _ = _; exact (Lib.cell_of_heap hfin _).trans rfl))) rfl ?_
  exact ⟨by rw [HQ.out], below_set (below_set HB1.out (by show w.heap.size ≤ w.heap.size + 1 + 1; omega) _) (by show w.heap.size ≤ w.heap.size + 1 + 1; omega) _⟩
set_option maxHeartbeats 8000000 in
theorem refPlus_any (x y u v : Nat) (w : World) (hx : x ≤ 24000000) (hy : y ≤ 8000000) (hu : u ≤ 200) (hv : v ≤ 200) :
    Calls Tryz.prog 52 #[.agg #[.int .i64 (x : Int), .int .i64 (y : Int)], .agg #[.int .i64 (u : Int), .int .i64 (v : Int)]] w fun e w' => e = .returned (frP (plN (x, y) (u, v))) ∧ Below w.heap.size w w' := by
  have agF := Tryz.isAgg35
  have zgF := Tryz.sizeOf35
  have b1 : x * v ≤ 4800000000 := Nat.le_trans (Nat.mul_le_mul hx hv) (by decide)
  have b2 : u * y ≤ 1600000000 := Nat.le_trans (Nat.mul_le_mul hu hy) (by decide)
  have b3 : y * v ≤ 1600000000 := Nat.le_trans (Nat.mul_le_mul hy hv) (by decide)
  have HQ : Hid (frP (plN (x, y) (u, v)) = quoV (x * v + u * y) (y * v)) := (quoV_fr _ _).symm
  obtain ⟨N1, e1⟩ : ∃ N1, x * v = N1 := ⟨_, rfl⟩
  obtain ⟨N2, e2⟩ : ∃ N2, u * y = N2 := ⟨_, rfl⟩
  obtain ⟨N3, e3⟩ : ∃ N3, y * v = N3 := ⟨_, rfl⟩
  rw [e1] at b1 HQ
  rw [e2] at b2 HQ
  rw [e3] at b3 HQ
  have m1 := wrap_prod e1 (by omega)
  have m2 := wrap_prod e2 (by omega)
  have m3 := wrap_prod e3 (by omega)
  clear e1 e2 e3
  obtain ⟨N4, h4⟩ : ∃ N4, N4 = N1 + N2 := ⟨_, rfl⟩
  rw [← h4] at HQ
  have cQ := fun w' => by
    have h := refQuotient_any N4 N3 w' (by omega) (by omega)
    rw [show ((N4 : Nat) : Int) = (N1 : Int) + (N2 : Int) by omega] at h
    exact h
  have hnew : (((w.alloc (.cells #[.int .i64 (x : Int), .int .i64 (y : Int)] 35)).alloc (.cells #[.int .i64 (u : Int), .int .i64 (v : Int)] 35)).alloc (.cells #[.int .i64 0, .int .i64 0] 35)).heap[w.heap.size + 1 + 1]? = some (.cells #[.int .i64 0, .int .i64 0] 35 (0, 0)) := by
    have h := (MapKept.heap_alloc ((w.alloc (.cells #[.int .i64 (x : Int), .int .i64 (y : Int)] 35)).alloc (.cells #[.int .i64 (u : Int), .int .i64 (v : Int)] 35)) (.cells #[.int .i64 0, .int .i64 0] 35)).1
    simpa using h
  have HB0 : Hid (Below w.heap.size w (((w.alloc (.cells #[.int .i64 (x : Int), .int .i64 (y : Int)] 35)).alloc (.cells #[.int .i64 (u : Int), .int .i64 (v : Int)] 35)).alloc (.cells #[.int .i64 0, .int .i64 0] 35))) := below_next (below_next (below_box _) (below_box _)) (below_box _)
  have HN := Lib.hid hnew
  clear hnew
  obtain ⟨z, hz⟩ : ∃ z, z = quoV N4 N3 := ⟨_, rfl⟩
  rw [← hz] at HQ cQ
  obtain ⟨z1, z2, hzz⟩ : ∃ z1 z2 : Nat, z = .agg #[.int .i64 (z1 : Int), .int .i64 (z2 : Int)] := ⟨_, _, hz.trans (quoV_fr _ _)⟩
  clear hz
  subst hzz
  go_enter Tryz.func52, Tryz.ntmps52
  go_wp2_with (go_at_call 45; (with_reducible refine (cQ _).mono ?_); rintro e w1 ⟨rfl, hb1⟩
               have HW1 := Lib.hid ((hb1.block _ (lt_of_block HN.out)).trans HN.out)
               have HB1 := Lib.hid (below_next HB0.out hb1)
               have hw1 := HW1.out
               have f0 : w1.frozen? ⟨w.heap.size + 1 + 1, 0, none⟩ = false := by simp [World.frozen?, hw1]
               have f1 : w1.frozen? ⟨w.heap.size + 1 + 1, 1, none⟩ = false := by simp [World.frozen?, hw1]
               have r0 : w1.cell? ⟨w.heap.size + 1 + 1, 0, none⟩ = some (.int .i64 0) := by simp [World.cell?, hw1]
               have r1 : w1.cell? ⟨w.heap.size + 1 + 1, 1, none⟩ = some (.int .i64 0) := by simp [World.cell?, hw1]
               clear hw1 hb1)
  have hfin := set2_cells HW1.out (.int .i64 z1) (.int .i64 z2)
  refine bodyPost_ret (results_c (xs := [.int .i64 z1, .int .i64 z2]) rfl rfl agF zgF (two_cells (by show World.cell? _ _ = _; exact (Lib.cell_of_heap hfin _).trans rfl) (by show World.cell? _ _ = _; exact (Lib.cell_of_heap hfin _).trans rfl))) rfl ?_
  exact ⟨by rw [HQ.out], below_set (below_set HB1.out (by show w.heap.size ≤ w.heap.size + 1 + 1; omega) _) (by show w.heap.size ≤ w.heap.size + 1 + 1; omega) _⟩
end Go.Proofs.YthgllfbigcoaiaaGreatDoor
namespace Go.Proofs.YthgllfbigcoaiaaGreatDoor
open Go Go.RowKit Go.Lib
set_option maxRecDepth 100000
/-- the error of a score of two texts -/
def unE (a b : ByteArray) (n beta : Int) : Int :=
  if D.textB a = false ∨ D.textB b = false then 4
  else if 200 < (unitsB a).length ∨ 200 < (unitsB b).length then 3
  else if n < 1 ∨ 3 < n ∨ beta < 1 ∨ 3 < beta then 1 else 0
def unV (a b : ByteArray) (n beta : Int) : Nat × Nat := if unE a b n beta = 0 then unitN (unitsB a) (unitsB b) n.toNat beta.toNat else (0, 0)
/-- what the score returns -/
def unR (a b : ByteArray) (n beta : Int) : Value := .tuple #[frP (unV a b n beta), .int .u8 (unE a b n beta)]
theorem unR_no {a b : ByteArray} {n beta z : Int} (h : unE a b n beta = z) (h0 : z ≠ 0) : unR a b n beta = .tuple #[.agg #[.int .i64 0, .int .i64 0], .int .u8 z] := by
  unfold unR unV
  rw [if_neg (by rw [h]; exact h0), h]
  rfl
theorem unR_yes {a b : ByteArray} {n beta : Nat} (h : unE a b n beta = 0) : unR a b n beta = .tuple #[frP (unitN (unitsB a) (unitsB b) n beta), .int .u8 0] := by
  unfold unR unV
  rw [if_pos h, h, Int.toNat_natCast, Int.toNat_natCast]
set_option maxHeartbeats 16000000 in
theorem unitF_early (a b : ByteArray) (n beta : Int) (w : World) (ha : a.size ≤ 900) (hb : b.size ≤ 900) (hT : D.Tabs w) (h : unE a b n beta ≠ 0) :
    Calls Tryz.prog 20 #[.string a, .string b, .int .i64 n, .int .i64 beta] w fun e w' => e = .returned (unR a b n beta) ∧ Below w.heap.size w w' := by
  have agF := Tryz.isAgg35
  have zgF := Tryz.sizeOf35
  have HF : Hid (FrAt w.heap.size 0 0 (w.alloc (.cells #[.int .i64 0, .int .i64 0] 35))) := FrAt.new w 0 0
  have HBW : Hid (Below w.heap.size w (w.alloc (.cells #[.int .i64 0, .int .i64 0] 35))) := below_box _
  have HT := Lib.hid hT
  have cA := fun w' h => isText_any a w' ha h
  have cB := fun w' h => isText_any b w' hb h
  have rA := fun w' => runeCount_any a w' ha
  have rB := fun w' => runeCount_any b w' hb
  have x0 := HF.out.c0
  have x1 := HF.out.c1
  have f0 := HF.out.f 0
  have f1 := HF.out.f 1
  clear hT
  have HE : Hid (unE a b n beta = if D.textB a = false ∨ D.textB b = false then 4 else if 200 < (unitsB a).length ∨ 200 < (unitsB b).length then 3 else if n < 1 ∨ 3 < n ∨ beta < 1 ∨ 3 < beta then 1 else 0) := rfl
  have HR := Lib.hid (fun z h0 => unR_no (a := a) (b := b) (n := n) (beta := beta) (z := z) h0)
  generalize unE a b n beta = E at *
  generalize unR a b n beta = R at *
  generalize D.textB a = ta at *
  generalize D.textB b = tb at *
  generalize (unitsB a).length = la at *
  generalize (unitsB b).length = lb at *
  have key : (ta = false) ∨ (ta = true ∧ tb = false) ∨ (ta = true ∧ tb = true ∧ (200 : Int) < la) ∨ (ta = true ∧ tb = true ∧ ¬ (200 : Int) < la ∧ (200 : Int) < lb) ∨ (ta = true ∧ tb = true ∧ ¬ (200 : Int) < la ∧ ¬ (200 : Int) < lb ∧ (n < 1 ∨ (¬ n < 1 ∧ 3 < n) ∨ (¬ n < 1 ∧ ¬ 3 < n ∧ beta < 1) ∨ (¬ n < 1 ∧ ¬ 3 < n ∧ ¬ beta < 1 ∧ 3 < beta))) := by
    have he := HE.out
    cases ta <;> cases tb <;> simp at he ⊢
    by_cases h1 : 200 < la <;> by_cases h2 : 200 < lb <;> simp [h1, h2] at he ⊢ <;> try omega
  have key2 : ∃ z : Int, E = z ∧ z ≠ 0 := ⟨E, rfl, h⟩
  have HZ : Hid (R = .tuple #[.agg #[.int .i64 0, .int .i64 0], .int .u8 E]) := HR.out E rfl h
  clear HR key2
  rcases key with rfl | ⟨rfl, rfl⟩ | ⟨rfl, rfl, i1⟩ | ⟨rfl, rfl, i1, i2⟩ | ⟨rfl, rfl, i1, i2, i3 | ⟨i3, i4⟩ | ⟨i3, i4, i5⟩ | ⟨i3, i4, i5, i6⟩⟩
  · have hE : E = 4 := by
      have he := HE.out
      rw [he]
      rw [if_pos (by simp)]
    rw [hE] at HZ
    clear HE hE h
    go_enter Tryz.func20, Tryz.ntmps20
    go_wp2_with (first
      | (go_at_call 46; (with_reducible refine (cA _ (HT.out.step HBW.out)).mono ?_); rintro e w1 ⟨rfl, hb1⟩; have HF1 := Lib.hid (HF.out.step hb1); have HB1 := Lib.hid (below_next HBW.out hb1); clear HF HBW x0 x1 f0 f1; have HF := HF1; have HBW := HB1; clear HF1 HB1; have x0 := HF.out.c0; have x1 := HF.out.c1; have f0 := HF.out.f 0; have f1 := HF.out.f 1; clear hb1)
      | (go_at_call 46; (with_reducible refine (cB _ (HT.out.step HBW.out)).mono ?_); rintro e w1 ⟨rfl, hb1⟩; have HF1 := Lib.hid (HF.out.step hb1); have HB1 := Lib.hid (below_next HBW.out hb1); clear HF HBW x0 x1 f0 f1; have HF := HF1; have HBW := HB1; clear HF1 HB1; have x0 := HF.out.c0; have x1 := HF.out.c1; have f0 := HF.out.f 0; have f1 := HF.out.f 1; clear hb1)
      | (go_at_call 47; (with_reducible refine (rA _).mono ?_); rintro e w1 ⟨rfl, hb1⟩; have HF1 := Lib.hid (HF.out.step hb1); have HB1 := Lib.hid (below_next HBW.out hb1); clear HF HBW x0 x1 f0 f1; have HF := HF1; have HBW := HB1; clear HF1 HB1; have x0 := HF.out.c0; have x1 := HF.out.c1; have f0 := HF.out.f 0; have f1 := HF.out.f 1; clear hb1)
      | (go_at_call 47; (with_reducible refine (rB _).mono ?_); rintro e w1 ⟨rfl, hb1⟩; have HF1 := Lib.hid (HF.out.step hb1); have HB1 := Lib.hid (below_next HBW.out hb1); clear HF HBW x0 x1 f0 f1; have HF := HF1; have HBW := HB1; clear HF1 HB1; have x0 := HF.out.c0; have x1 := HF.out.c1; have f0 := HF.out.f 0; have f1 := HF.out.f 1; clear hb1))
    have hfin := HF.out.put 0 0
    refine bodyPost_ret (results_ct (xs := [.int .i64 0, .int .i64 0]) rfl rfl rfl agF zgF (two_cells ((Lib.cell_of_heap hfin _).trans rfl) ((Lib.cell_of_heap hfin _).trans rfl))) rfl ?_
    exact ⟨by rw [HZ.out]; rfl, below_set (below_set HBW.out (Nat.le_refl _) _) (Nat.le_refl _) _⟩
  · have hE : E = 4 := by
      have he := HE.out
      rw [he]
      rw [if_pos (by simp)]
    rw [hE] at HZ
    clear HE hE h
    go_enter Tryz.func20, Tryz.ntmps20
    go_wp2_with (first
      | (go_at_call 46; (with_reducible refine (cA _ (HT.out.step HBW.out)).mono ?_); rintro e w1 ⟨rfl, hb1⟩; have HF1 := Lib.hid (HF.out.step hb1); have HB1 := Lib.hid (below_next HBW.out hb1); clear HF HBW x0 x1 f0 f1; have HF := HF1; have HBW := HB1; clear HF1 HB1; have x0 := HF.out.c0; have x1 := HF.out.c1; have f0 := HF.out.f 0; have f1 := HF.out.f 1; clear hb1)
      | (go_at_call 46; (with_reducible refine (cB _ (HT.out.step HBW.out)).mono ?_); rintro e w1 ⟨rfl, hb1⟩; have HF1 := Lib.hid (HF.out.step hb1); have HB1 := Lib.hid (below_next HBW.out hb1); clear HF HBW x0 x1 f0 f1; have HF := HF1; have HBW := HB1; clear HF1 HB1; have x0 := HF.out.c0; have x1 := HF.out.c1; have f0 := HF.out.f 0; have f1 := HF.out.f 1; clear hb1)
      | (go_at_call 47; (with_reducible refine (rA _).mono ?_); rintro e w1 ⟨rfl, hb1⟩; have HF1 := Lib.hid (HF.out.step hb1); have HB1 := Lib.hid (below_next HBW.out hb1); clear HF HBW x0 x1 f0 f1; have HF := HF1; have HBW := HB1; clear HF1 HB1; have x0 := HF.out.c0; have x1 := HF.out.c1; have f0 := HF.out.f 0; have f1 := HF.out.f 1; clear hb1)
      | (go_at_call 47; (with_reducible refine (rB _).mono ?_); rintro e w1 ⟨rfl, hb1⟩; have HF1 := Lib.hid (HF.out.step hb1); have HB1 := Lib.hid (below_next HBW.out hb1); clear HF HBW x0 x1 f0 f1; have HF := HF1; have HBW := HB1; clear HF1 HB1; have x0 := HF.out.c0; have x1 := HF.out.c1; have f0 := HF.out.f 0; have f1 := HF.out.f 1; clear hb1))
    have hfin := HF.out.put 0 0
    refine bodyPost_ret (results_ct (xs := [.int .i64 0, .int .i64 0]) rfl rfl rfl agF zgF (two_cells ((Lib.cell_of_heap hfin _).trans rfl) ((Lib.cell_of_heap hfin _).trans rfl))) rfl ?_
    exact ⟨by rw [HZ.out]; rfl, below_set (below_set HBW.out (Nat.le_refl _) _) (Nat.le_refl _) _⟩
  · have hE : E = 3 := by
      have he := HE.out
      rw [he]
      rw [if_neg (by simp), if_pos (by omega)]
    rw [hE] at HZ
    clear HE hE h
    go_enter Tryz.func20, Tryz.ntmps20
    go_wp2_with (first
      | (go_at_call 46; (with_reducible refine (cA _ (HT.out.step HBW.out)).mono ?_); rintro e w1 ⟨rfl, hb1⟩; have HF1 := Lib.hid (HF.out.step hb1); have HB1 := Lib.hid (below_next HBW.out hb1); clear HF HBW x0 x1 f0 f1; have HF := HF1; have HBW := HB1; clear HF1 HB1; have x0 := HF.out.c0; have x1 := HF.out.c1; have f0 := HF.out.f 0; have f1 := HF.out.f 1; clear hb1)
      | (go_at_call 46; (with_reducible refine (cB _ (HT.out.step HBW.out)).mono ?_); rintro e w1 ⟨rfl, hb1⟩; have HF1 := Lib.hid (HF.out.step hb1); have HB1 := Lib.hid (below_next HBW.out hb1); clear HF HBW x0 x1 f0 f1; have HF := HF1; have HBW := HB1; clear HF1 HB1; have x0 := HF.out.c0; have x1 := HF.out.c1; have f0 := HF.out.f 0; have f1 := HF.out.f 1; clear hb1)
      | (go_at_call 47; (with_reducible refine (rA _).mono ?_); rintro e w1 ⟨rfl, hb1⟩; have HF1 := Lib.hid (HF.out.step hb1); have HB1 := Lib.hid (below_next HBW.out hb1); clear HF HBW x0 x1 f0 f1; have HF := HF1; have HBW := HB1; clear HF1 HB1; have x0 := HF.out.c0; have x1 := HF.out.c1; have f0 := HF.out.f 0; have f1 := HF.out.f 1; clear hb1)
      | (go_at_call 47; (with_reducible refine (rB _).mono ?_); rintro e w1 ⟨rfl, hb1⟩; have HF1 := Lib.hid (HF.out.step hb1); have HB1 := Lib.hid (below_next HBW.out hb1); clear HF HBW x0 x1 f0 f1; have HF := HF1; have HBW := HB1; clear HF1 HB1; have x0 := HF.out.c0; have x1 := HF.out.c1; have f0 := HF.out.f 0; have f1 := HF.out.f 1; clear hb1))
    have hfin := HF.out.put 0 0
    refine bodyPost_ret (results_ct (xs := [.int .i64 0, .int .i64 0]) rfl rfl rfl agF zgF (two_cells ((Lib.cell_of_heap hfin _).trans rfl) ((Lib.cell_of_heap hfin _).trans rfl))) rfl ?_
    exact ⟨by rw [HZ.out]; rfl, below_set (below_set HBW.out (Nat.le_refl _) _) (Nat.le_refl _) _⟩
  · have hE : E = 3 := by
      have he := HE.out
      rw [he]
      rw [if_neg (by simp), if_pos (by omega)]
    rw [hE] at HZ
    clear HE hE h
    go_enter Tryz.func20, Tryz.ntmps20
    go_wp2_with (first
      | (go_at_call 46; (with_reducible refine (cA _ (HT.out.step HBW.out)).mono ?_); rintro e w1 ⟨rfl, hb1⟩; have HF1 := Lib.hid (HF.out.step hb1); have HB1 := Lib.hid (below_next HBW.out hb1); clear HF HBW x0 x1 f0 f1; have HF := HF1; have HBW := HB1; clear HF1 HB1; have x0 := HF.out.c0; have x1 := HF.out.c1; have f0 := HF.out.f 0; have f1 := HF.out.f 1; clear hb1)
      | (go_at_call 46; (with_reducible refine (cB _ (HT.out.step HBW.out)).mono ?_); rintro e w1 ⟨rfl, hb1⟩; have HF1 := Lib.hid (HF.out.step hb1); have HB1 := Lib.hid (below_next HBW.out hb1); clear HF HBW x0 x1 f0 f1; have HF := HF1; have HBW := HB1; clear HF1 HB1; have x0 := HF.out.c0; have x1 := HF.out.c1; have f0 := HF.out.f 0; have f1 := HF.out.f 1; clear hb1)
      | (go_at_call 47; (with_reducible refine (rA _).mono ?_); rintro e w1 ⟨rfl, hb1⟩; have HF1 := Lib.hid (HF.out.step hb1); have HB1 := Lib.hid (below_next HBW.out hb1); clear HF HBW x0 x1 f0 f1; have HF := HF1; have HBW := HB1; clear HF1 HB1; have x0 := HF.out.c0; have x1 := HF.out.c1; have f0 := HF.out.f 0; have f1 := HF.out.f 1; clear hb1)
      | (go_at_call 47; (with_reducible refine (rB _).mono ?_); rintro e w1 ⟨rfl, hb1⟩; have HF1 := Lib.hid (HF.out.step hb1); have HB1 := Lib.hid (below_next HBW.out hb1); clear HF HBW x0 x1 f0 f1; have HF := HF1; have HBW := HB1; clear HF1 HB1; have x0 := HF.out.c0; have x1 := HF.out.c1; have f0 := HF.out.f 0; have f1 := HF.out.f 1; clear hb1))
    have hfin := HF.out.put 0 0
    refine bodyPost_ret (results_ct (xs := [.int .i64 0, .int .i64 0]) rfl rfl rfl agF zgF (two_cells ((Lib.cell_of_heap hfin _).trans rfl) ((Lib.cell_of_heap hfin _).trans rfl))) rfl ?_
    exact ⟨by rw [HZ.out]; rfl, below_set (below_set HBW.out (Nat.le_refl _) _) (Nat.le_refl _) _⟩
  · have hE : E = 1 := by
      have he := HE.out
      rw [he]
      rw [if_neg (by simp), if_neg (by omega), if_pos (by omega)]
    rw [hE] at HZ
    clear HE hE h
    go_enter Tryz.func20, Tryz.ntmps20
    go_wp2_with (first
      | (go_at_call 46; (with_reducible refine (cA _ (HT.out.step HBW.out)).mono ?_); rintro e w1 ⟨rfl, hb1⟩; have HF1 := Lib.hid (HF.out.step hb1); have HB1 := Lib.hid (below_next HBW.out hb1); clear HF HBW x0 x1 f0 f1; have HF := HF1; have HBW := HB1; clear HF1 HB1; have x0 := HF.out.c0; have x1 := HF.out.c1; have f0 := HF.out.f 0; have f1 := HF.out.f 1; clear hb1)
      | (go_at_call 46; (with_reducible refine (cB _ (HT.out.step HBW.out)).mono ?_); rintro e w1 ⟨rfl, hb1⟩; have HF1 := Lib.hid (HF.out.step hb1); have HB1 := Lib.hid (below_next HBW.out hb1); clear HF HBW x0 x1 f0 f1; have HF := HF1; have HBW := HB1; clear HF1 HB1; have x0 := HF.out.c0; have x1 := HF.out.c1; have f0 := HF.out.f 0; have f1 := HF.out.f 1; clear hb1)
      | (go_at_call 47; (with_reducible refine (rA _).mono ?_); rintro e w1 ⟨rfl, hb1⟩; have HF1 := Lib.hid (HF.out.step hb1); have HB1 := Lib.hid (below_next HBW.out hb1); clear HF HBW x0 x1 f0 f1; have HF := HF1; have HBW := HB1; clear HF1 HB1; have x0 := HF.out.c0; have x1 := HF.out.c1; have f0 := HF.out.f 0; have f1 := HF.out.f 1; clear hb1)
      | (go_at_call 47; (with_reducible refine (rB _).mono ?_); rintro e w1 ⟨rfl, hb1⟩; have HF1 := Lib.hid (HF.out.step hb1); have HB1 := Lib.hid (below_next HBW.out hb1); clear HF HBW x0 x1 f0 f1; have HF := HF1; have HBW := HB1; clear HF1 HB1; have x0 := HF.out.c0; have x1 := HF.out.c1; have f0 := HF.out.f 0; have f1 := HF.out.f 1; clear hb1))
    have hfin := HF.out.put 0 0
    refine bodyPost_ret (results_ct (xs := [.int .i64 0, .int .i64 0]) rfl rfl rfl agF zgF (two_cells ((Lib.cell_of_heap hfin _).trans rfl) ((Lib.cell_of_heap hfin _).trans rfl))) rfl ?_
    exact ⟨by rw [HZ.out]; rfl, below_set (below_set HBW.out (Nat.le_refl _) _) (Nat.le_refl _) _⟩
  · have hE : E = 1 := by
      have he := HE.out
      rw [he]
      rw [if_neg (by simp), if_neg (by omega), if_pos (by omega)]
    rw [hE] at HZ
    clear HE hE h
    go_enter Tryz.func20, Tryz.ntmps20
    go_wp2_with (first
      | (go_at_call 46; (with_reducible refine (cA _ (HT.out.step HBW.out)).mono ?_); rintro e w1 ⟨rfl, hb1⟩; have HF1 := Lib.hid (HF.out.step hb1); have HB1 := Lib.hid (below_next HBW.out hb1); clear HF HBW x0 x1 f0 f1; have HF := HF1; have HBW := HB1; clear HF1 HB1; have x0 := HF.out.c0; have x1 := HF.out.c1; have f0 := HF.out.f 0; have f1 := HF.out.f 1; clear hb1)
      | (go_at_call 46; (with_reducible refine (cB _ (HT.out.step HBW.out)).mono ?_); rintro e w1 ⟨rfl, hb1⟩; have HF1 := Lib.hid (HF.out.step hb1); have HB1 := Lib.hid (below_next HBW.out hb1); clear HF HBW x0 x1 f0 f1; have HF := HF1; have HBW := HB1; clear HF1 HB1; have x0 := HF.out.c0; have x1 := HF.out.c1; have f0 := HF.out.f 0; have f1 := HF.out.f 1; clear hb1)
      | (go_at_call 47; (with_reducible refine (rA _).mono ?_); rintro e w1 ⟨rfl, hb1⟩; have HF1 := Lib.hid (HF.out.step hb1); have HB1 := Lib.hid (below_next HBW.out hb1); clear HF HBW x0 x1 f0 f1; have HF := HF1; have HBW := HB1; clear HF1 HB1; have x0 := HF.out.c0; have x1 := HF.out.c1; have f0 := HF.out.f 0; have f1 := HF.out.f 1; clear hb1)
      | (go_at_call 47; (with_reducible refine (rB _).mono ?_); rintro e w1 ⟨rfl, hb1⟩; have HF1 := Lib.hid (HF.out.step hb1); have HB1 := Lib.hid (below_next HBW.out hb1); clear HF HBW x0 x1 f0 f1; have HF := HF1; have HBW := HB1; clear HF1 HB1; have x0 := HF.out.c0; have x1 := HF.out.c1; have f0 := HF.out.f 0; have f1 := HF.out.f 1; clear hb1))
    have hfin := HF.out.put 0 0
    refine bodyPost_ret (results_ct (xs := [.int .i64 0, .int .i64 0]) rfl rfl rfl agF zgF (two_cells ((Lib.cell_of_heap hfin _).trans rfl) ((Lib.cell_of_heap hfin _).trans rfl))) rfl ?_
    exact ⟨by rw [HZ.out]; rfl, below_set (below_set HBW.out (Nat.le_refl _) _) (Nat.le_refl _) _⟩
  · have hE : E = 1 := by
      have he := HE.out
      rw [he]
      rw [if_neg (by simp), if_neg (by omega), if_pos (by omega)]
    rw [hE] at HZ
    clear HE hE h
    go_enter Tryz.func20, Tryz.ntmps20
    go_wp2_with (first
      | (go_at_call 46; (with_reducible refine (cA _ (HT.out.step HBW.out)).mono ?_); rintro e w1 ⟨rfl, hb1⟩; have HF1 := Lib.hid (HF.out.step hb1); have HB1 := Lib.hid (below_next HBW.out hb1); clear HF HBW x0 x1 f0 f1; have HF := HF1; have HBW := HB1; clear HF1 HB1; have x0 := HF.out.c0; have x1 := HF.out.c1; have f0 := HF.out.f 0; have f1 := HF.out.f 1; clear hb1)
      | (go_at_call 46; (with_reducible refine (cB _ (HT.out.step HBW.out)).mono ?_); rintro e w1 ⟨rfl, hb1⟩; have HF1 := Lib.hid (HF.out.step hb1); have HB1 := Lib.hid (below_next HBW.out hb1); clear HF HBW x0 x1 f0 f1; have HF := HF1; have HBW := HB1; clear HF1 HB1; have x0 := HF.out.c0; have x1 := HF.out.c1; have f0 := HF.out.f 0; have f1 := HF.out.f 1; clear hb1)
      | (go_at_call 47; (with_reducible refine (rA _).mono ?_); rintro e w1 ⟨rfl, hb1⟩; have HF1 := Lib.hid (HF.out.step hb1); have HB1 := Lib.hid (below_next HBW.out hb1); clear HF HBW x0 x1 f0 f1; have HF := HF1; have HBW := HB1; clear HF1 HB1; have x0 := HF.out.c0; have x1 := HF.out.c1; have f0 := HF.out.f 0; have f1 := HF.out.f 1; clear hb1)
      | (go_at_call 47; (with_reducible refine (rB _).mono ?_); rintro e w1 ⟨rfl, hb1⟩; have HF1 := Lib.hid (HF.out.step hb1); have HB1 := Lib.hid (below_next HBW.out hb1); clear HF HBW x0 x1 f0 f1; have HF := HF1; have HBW := HB1; clear HF1 HB1; have x0 := HF.out.c0; have x1 := HF.out.c1; have f0 := HF.out.f 0; have f1 := HF.out.f 1; clear hb1))
    have hfin := HF.out.put 0 0
    refine bodyPost_ret (results_ct (xs := [.int .i64 0, .int .i64 0]) rfl rfl rfl agF zgF (two_cells ((Lib.cell_of_heap hfin _).trans rfl) ((Lib.cell_of_heap hfin _).trans rfl))) rfl ?_
    exact ⟨by rw [HZ.out]; rfl, below_set (below_set HBW.out (Nat.le_refl _) _) (Nat.le_refl _) _⟩
  · have hE : E = 1 := by
      have he := HE.out
      rw [he]
      rw [if_neg (by simp), if_neg (by omega), if_pos (by omega)]
    rw [hE] at HZ
    clear HE hE h
    go_enter Tryz.func20, Tryz.ntmps20
    go_wp2_with (first
      | (go_at_call 46; (with_reducible refine (cA _ (HT.out.step HBW.out)).mono ?_); rintro e w1 ⟨rfl, hb1⟩; have HF1 := Lib.hid (HF.out.step hb1); have HB1 := Lib.hid (below_next HBW.out hb1); clear HF HBW x0 x1 f0 f1; have HF := HF1; have HBW := HB1; clear HF1 HB1; have x0 := HF.out.c0; have x1 := HF.out.c1; have f0 := HF.out.f 0; have f1 := HF.out.f 1; clear hb1)
      | (go_at_call 46; (with_reducible refine (cB _ (HT.out.step HBW.out)).mono ?_); rintro e w1 ⟨rfl, hb1⟩; have HF1 := Lib.hid (HF.out.step hb1); have HB1 := Lib.hid (below_next HBW.out hb1); clear HF HBW x0 x1 f0 f1; have HF := HF1; have HBW := HB1; clear HF1 HB1; have x0 := HF.out.c0; have x1 := HF.out.c1; have f0 := HF.out.f 0; have f1 := HF.out.f 1; clear hb1)
      | (go_at_call 47; (with_reducible refine (rA _).mono ?_); rintro e w1 ⟨rfl, hb1⟩; have HF1 := Lib.hid (HF.out.step hb1); have HB1 := Lib.hid (below_next HBW.out hb1); clear HF HBW x0 x1 f0 f1; have HF := HF1; have HBW := HB1; clear HF1 HB1; have x0 := HF.out.c0; have x1 := HF.out.c1; have f0 := HF.out.f 0; have f1 := HF.out.f 1; clear hb1)
      | (go_at_call 47; (with_reducible refine (rB _).mono ?_); rintro e w1 ⟨rfl, hb1⟩; have HF1 := Lib.hid (HF.out.step hb1); have HB1 := Lib.hid (below_next HBW.out hb1); clear HF HBW x0 x1 f0 f1; have HF := HF1; have HBW := HB1; clear HF1 HB1; have x0 := HF.out.c0; have x1 := HF.out.c1; have f0 := HF.out.f 0; have f1 := HF.out.f 1; clear hb1))
    have hfin := HF.out.put 0 0
    refine bodyPost_ret (results_ct (xs := [.int .i64 0, .int .i64 0]) rfl rfl rfl agF zgF (two_cells ((Lib.cell_of_heap hfin _).trans rfl) ((Lib.cell_of_heap hfin _).trans rfl))) rfl ?_
    exact ⟨by rw [HZ.out]; rfl, below_set (below_set HBW.out (Nat.le_refl _) _) (Nat.le_refl _) _⟩
theorem quotient_fr (h g : Nat) (w : World) (hh : h ≤ 4611686018427387904) (hg : g ≤ 4611686018427387904) :
    Calls Tryz.prog 44 #[.int .i64 h, .int .i64 g] w fun e w' => e = .returned (.agg #[.int .i64 ((quN h g).1 : Int), .int .i64 ((quN h g).2 : Int)]) ∧ Below w.heap.size w w' := by
  have := quotient_any h g w hh hg
  rw [quoV_fr] at this
  exact this
/-- what is known of two texts and two numbers that are scored -/
structure UnOk (a b : ByteArray) (n beta : Nat) : Prop where
  ta : D.textB a = true
  tb : D.textB b = true
  la : (unitsB a).length ≤ 200
  lb : (unitsB b).length ≤ 200
  n1 : 1 ≤ n
  n3 : n ≤ 3
  b1 : 1 ≤ beta
  b3 : beta ≤ 3
theorem UnOk.of {a b : ByteArray} {n beta : Nat} (h : unE a b n beta = 0) : UnOk a b n beta := by
  unfold unE at h
  by_cases h1 : D.textB a = false ∨ D.textB b = false
  · rw [if_pos h1] at h; cases h
  · rw [if_neg h1] at h
    by_cases h2 : 200 < (unitsB a).length ∨ 200 < (unitsB b).length
    · rw [if_pos h2] at h; cases h
    · rw [if_neg h2] at h
      by_cases h3 : (n : Int) < 1 ∨ 3 < (n : Int) ∨ (beta : Int) < 1 ∨ 3 < (beta : Int)
      · rw [if_pos h3] at h; cases h
      · refine ⟨?_, ?_, by omega, by omega, by omega, by omega, by omega, by omega⟩
        · cases e : D.textB a
          · exact absurd (.inl e) h1
          · rfl
        · cases e : D.textB b
          · exact absurd (.inr e) h1
          · rfl
end Go.Proofs.YthgllfbigcoaiaaGreatDoor
