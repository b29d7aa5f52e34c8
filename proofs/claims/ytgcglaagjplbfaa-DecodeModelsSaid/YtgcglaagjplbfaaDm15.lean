/- DecodeModels: the arguments opened; the row. -/
import Derived.Test.YtgcglaagjplbfaaDm14
import Derived.Test.YtgcglaagjplbfaaRows
import Derived.WalkKit
import Derived.ProofKit
import Derived.OpenShut
import Derived.Deep.Slices
import Derived.ChangeSame
import Derived.Carry
namespace Go.Proofs.Ytgcglaagjplbfaa
open Go Go.ChangeShapes Go.WideShapes Go.ChangeAt Go.ChangeMaps Go.RowKit
set_option maxRecDepth 100000
section
variable {H : Type} {enc : TypeId × Value → H} {W : World}
/-- A type's cells, read. -/
def Rd (enc : TypeId × Value → H) (W : World) (n : Nat) (t : TypeId) (cs : List Value) : Prop := ∃ y, DataW.trod enc Try.prog W 0 (fun _ => true) true n t cs = some y
theorem rd_string {n : Nat} {cs : List Value} (h : Rd enc W n 9 cs) : ∃ s : ByteArray, cs = [.string s] ∧ s.size ≤ maxLen := by
  obtain ⟨y, h⟩ := h
  obtain ⟨s, e, _, h2⟩ := DataW.trod_string (show Try.prog.underlying 9 = some .string by kernel_rfl) h
  exact ⟨s, e, h2⟩
theorem rd_int {n : Nat} {cs : List Value} (h : Rd enc W n 3 cs) : ∃ k : Int, cs = [.int .i64 k] := by
  obtain ⟨y, h⟩ := h
  obtain ⟨k, e, _, _⟩ := DataW.trod_int (show Try.prog.underlying 3 = some (.int .i64) by kernel_rfl) h
  exact ⟨k, e⟩
/-- A struct's fields, by offset and type. -/
noncomputable def fieldsAre (t : TypeId) (l : List (Nat × TypeId)) : Bool := match Try.prog.underlying t with
  | some (.struct fs) => fs.toList.map (fun f => (f.offset, f.type)) == l
  | _ => false
theorem rd_struct {t : TypeId} {l : List (Nat × TypeId)} {n : Nat} {cs : List Value} (hl : fieldsAre t l = true) (h : Rd enc W n t cs) :
    cs.length = Try.prog.cellsOf t ∧ ∃ m, ∀ (i off : Nat) (ty : TypeId), l[i]? = some (off, ty) → Rd enc W m ty ((cs.drop off).take (Try.prog.cellsOf ty)) := by
  unfold fieldsAre at hl
  split at hl
  · rename_i fs hu
    obtain ⟨y, h⟩ := h
    obtain ⟨xs, m, _, _, hc, hlen, hf⟩ := DataW.trod_struct hu h
    refine ⟨hc, m, fun i off ty hi => ?_⟩
    rw [← eq_of_beq hl, List.getElem?_map] at hi
    cases hfi : fs.toList[i]? with
    | none => rw [hfi] at hi; cases hi
    | some f =>
      rw [hfi] at hi
      simp at hi
      obtain ⟨rfl, rfl⟩ := hi
      have h1 := hf i f (by rw [← Array.getElem?_toList]; exact hfi)
      have hil : i < xs.length := by
        rw [hlen]
        have := (List.getElem?_eq_some_iff.1 hfi).1
        simpa using this
      rw [List.getElem?_eq_getElem hil] at h1
      exact ⟨_, h1⟩
  · cases hl
theorem rows_open {α : Type} {t e : TypeId} {sz fuel : Nat} {cs : List Value} (ht : Try.prog.underlying t = some (.slice e)) (hc : Try.prog.cellsOf e = sz) (hz : 0 < sz) (R : List Value → α → Prop)
    (hel : ∀ n cs, Rd enc W n e cs → ∃ a, R cs a) (F : List α → Nat → Nat → Value) (hF : ∀ (l : List α) i (hi : i < l.length) cs, R cs l[i] → ∀ j, j < sz → cs[j]? = some (F l i j)) (h : Rd enc W fuel t cs) :
    ∃ (l : List α) (v : Value), cs = [v] ∧ SliceAt W.heap.size W v l.length sz (F l) ∧ (∀ a ∈ l, ∃ cs', R cs' a) ∧ (v = .slice none 0 0 ∨ ∃ A n c, v = .slice (some A) n c) := by
  obtain ⟨y, h⟩ := h
  rcases Go.Deep.open_slice ht h with ⟨rfl, _⟩ | ⟨a, len, cap, m, n, D, Pl, rfl, _, hl, hm, hmm, _, hx⟩
  · exact ⟨[], _, rfl, ⟨none, 0, rfl, by simp, by simp, fun h => absurd h (by simp)⟩, (fun _ h => by cases h), .inl rfl⟩
  · have hlm : len ≤ m := by rw [hmm]; split <;> omega
    have each : ∀ i : Fin len, ∃ al : α, ∃ cs', W.cells? 0 (a.add (i.1 * sz)) sz = some cs' ∧ R cs' al := fun i => by
      obtain ⟨cs', h1, h2⟩ := hx i.1 (by have := i.2; omega)
      obtain ⟨al, hal⟩ := hel n cs' ⟨_, h2⟩
      exact ⟨al, cs', by rw [← hc]; exact h1, hal⟩
    refine ⟨List.ofFn fun i => Classical.choose (each i), _, rfl, ⟨some a, cap, by simp, by simpa using hl, hm, fun h0 => ⟨a, rfl, ?_, ?_⟩⟩, ?_, .inr ⟨_, _, _, rfl⟩⟩
    · have h0' : 0 < len := by simpa using h0
      obtain ⟨cs', h1, _⟩ := Classical.choose_spec (each ⟨0, h0'⟩)
      obtain ⟨_, hlen, hcl⟩ := World.cells?_some h1
      have := hcl 0 hz
      rw [List.getElem?_eq_getElem (by omega)] at this
      have hb := World.block_lt_of_cell? W _ this
      rwa [add_block, add_block] at hb
    · intro i j hi hj
      have hi' : i < len := by simpa using hi
      obtain ⟨cs', h1, h2⟩ := Classical.choose_spec (each ⟨i, hi'⟩)
      obtain ⟨_, hlen, hcl⟩ := World.cells?_some h1
      have e1 := hcl j hj
      rw [Go.Deep.add_add] at e1
      rw [e1]
      exact hF _ i hi cs' (by simpa using h2) j hj
    · intro al hal
      obtain ⟨i, hi, rfl⟩ := List.getElem_of_mem hal
      have hi' : i < len := by simpa using hi
      obtain ⟨cs', _, h2⟩ := Classical.choose_spec (each ⟨i, hi'⟩)
      exact ⟨cs', by simpa using h2⟩
def RStr (cs : List Value) (s : ByteArray) : Prop := cs = [.string s] ∧ s.size ≤ maxLen
theorem strs_open {n : Nat} {cs : List Value} (h : Rd enc W n 35 cs) : ∃ (l : List ByteArray) (v : Value), cs = [v] ∧ SliceAt W.heap.size W v l.length 1 (wdF l) ∧ ∀ s ∈ l, s.size ≤ maxLen := by
  obtain ⟨l, v, e, h1, h2, _⟩ := rows_open (t := 35) (e := 9) (sz := 1) (by kernel_rfl) (by kernel_rfl) (by omega) RStr (fun n cs h => rd_string h) wdF (fun l i hi cs hr j hj => by
    obtain ⟨rfl, _⟩ := hr
    obtain rfl : j = 0 := by omega
    simp [wdF, hi]) h
  exact ⟨l, v, e, h1, fun s hs => by obtain ⟨_, _, h⟩ := h2 s hs; exact h⟩
theorem three_of {cs : List Value} {u v x : Value} (h0 : (cs.drop 0).take 1 = [u]) (h1 : (cs.drop 1).take 1 = [v]) (h2 : (cs.drop 2).take 1 = [x]) (hl : cs.length = 3) : cs = [u, v, x] := by
  match cs, hl with
  | [a, b, c], _ => simp at h0 h1 h2; simp [h0, h1, h2]
theorem cells_str : Try.prog.cellsOf 9 = 1 := by kernel_rfl
theorem cells_int : Try.prog.cellsOf 3 = 1 := by kernel_rfl
theorem cells_us : Try.prog.cellsOf 22 = 1 := by kernel_rfl
theorem cells_bs : Try.prog.cellsOf 23 = 1 := by kernel_rfl
theorem cells_model : Try.prog.cellsOf 25 = 3 := by kernel_rfl
def RUn (cs : List Value) (x : Un) : Prop := cs = [.string x.w, .int .i64 x.c, .int .i64 x.b] ∧ x.w.size ≤ maxLen
theorem us_open {n : Nat} {cs : List Value} (h : Rd enc W n 22 cs) : ∃ (l : List Un) (v : Value), cs = [v] ∧ SliceAt W.heap.size W v l.length 3 (unF l) ∧ ∀ x ∈ l, x.w.size ≤ maxLen := by
  obtain ⟨l, v, e, h1, h2, _⟩ := rows_open (t := 22) (e := 45) (sz := 3) (by kernel_rfl) (by kernel_rfl) (by omega) RUn (fun n cs h => by
    obtain ⟨hl, m, hf⟩ := rd_struct (l := [(0, 9), (1, 3), (2, 3)]) (by kernel_rfl) h
    obtain ⟨s0, e0, z0⟩ := rd_string (hf 0 0 _ rfl)
    obtain ⟨k1, e1⟩ := rd_int (hf 1 1 _ rfl)
    obtain ⟨k2, e2⟩ := rd_int (hf 2 2 _ rfl)
    rw [cells_str] at e0
    rw [cells_int] at e1 e2
    exact ⟨⟨s0, k1, k2⟩, three_of e0 e1 e2 (by rw [hl]; kernel_rfl), z0⟩) unF (fun l i hi cs hr j hj => by
    rw [hr.1]
    match j, hj with
    | 0, _ => simp [unF, hi]
    | 1, _ => simp [unF, hi]
    | 2, _ => simp [unF, hi]) h
  exact ⟨l, v, e, h1, fun x hx => by obtain ⟨_, _, h⟩ := h2 x hx; exact h⟩
def RBr (cs : List Value) (x : Br) : Prop := cs = [.string x.x, .string x.y, .int .i64 x.c] ∧ x.x.size ≤ maxLen ∧ x.y.size ≤ maxLen
theorem bs_open {n : Nat} {cs : List Value} (h : Rd enc W n 23 cs) : ∃ (l : List Br) (v : Value), cs = [v] ∧ SliceAt W.heap.size W v l.length 3 (brF l) ∧ ∀ x ∈ l, x.x.size ≤ maxLen ∧ x.y.size ≤ maxLen := by
  obtain ⟨l, v, e, h1, h2, _⟩ := rows_open (t := 23) (e := 47) (sz := 3) (by kernel_rfl) (by kernel_rfl) (by omega) RBr (fun n cs h => by
    obtain ⟨hl, m, hf⟩ := rd_struct (l := [(0, 9), (1, 9), (2, 3)]) (by kernel_rfl) h
    obtain ⟨s0, e0, z0⟩ := rd_string (hf 0 0 _ rfl)
    obtain ⟨s1, e1, z1⟩ := rd_string (hf 1 1 _ rfl)
    obtain ⟨k2, e2⟩ := rd_int (hf 2 2 _ rfl)
    rw [cells_str] at e0 e1
    rw [cells_int] at e2
    exact ⟨⟨s0, s1, k2⟩, three_of e0 e1 e2 (by rw [hl]; kernel_rfl), z0, z1⟩) brF (fun l i hi cs hr j hj => by
    rw [hr.1]
    match j, hj with
    | 0, _ => simp [brF, hi]
    | 1, _ => simp [brF, hi]
    | 2, _ => simp [brF, hi]) h
  exact ⟨l, v, e, h1, fun x hx => by obtain ⟨_, _, h⟩ := h2 x hx; exact h⟩
theorem model_open {n : Nat} {cs : List Value} (h : Rd enc W n 25 cs) : ∃ M : Mdl, cs = [.int .i64 M.unk, M.uv, M.bv] ∧ MdlAt W M := by
  obtain ⟨hl, m, hf⟩ := rd_struct (l := [(0, 3), (1, 22), (2, 23)]) (by kernel_rfl) h
  obtain ⟨k0, e0⟩ := rd_int (hf 0 0 _ rfl)
  obtain ⟨l1, v1, e1, s1, z1⟩ := us_open (hf 1 1 _ rfl)
  obtain ⟨l2, v2, e2, s2, z2⟩ := bs_open (hf 2 2 _ rfl)
  rw [cells_int] at e0
  rw [cells_us] at e1
  rw [cells_bs] at e2
  exact ⟨⟨k0, l1, l2, v1, v2⟩, three_of e0 e1 e2 (by rw [hl]; kernel_rfl), ⟨s1, s2, z1, z2⟩⟩
theorem fifteen_of {cs : List Value} {u v x a b : Value} (h0 : (cs.drop 0).take 3 = [u, v, x]) (h1 : (cs.drop 3).take 1 = [a]) (h2 : (cs.drop 4).take 1 = [b]) (hl : cs.length = 15) : ∃ c5 c6 c7 c8 c9 cA cB cC0 cD0 cE, cs = [u, v, x, a, b, c5, c6, c7, c8, c9, cA, cB, cC0, cD0, cE] := by
  match cs, hl with
  | [y0, y1, y2, y3, y4, y5, y6, y7, y8, y9, yA, yB, yC, yD, yE], _ =>
    simp at h0 h1 h2
    exact ⟨y5, y6, y7, y8, y9, yA, yB, yC, yD, yE, by simp [h0, h1, h2]⟩
theorem task_open {n : Nat} {cs : List Value} (h : Rd enc W n 34 cs) : ∃ (M : Mdl) (a b : ByteArray) (c5 c6 c7 c8 c9 cA cB cC0 cD0 cE : Value), cs = [.int .i64 M.unk, M.uv, M.bv, .string a, .string b, c5, c6, c7, c8, c9, cA, cB, cC0, cD0, cE] ∧ MdlAt W M ∧ a.size ≤ maxLen ∧ b.size ≤ maxLen := by
  obtain ⟨hl, m, hf⟩ := rd_struct (l := [(0, 25), (3, 9), (4, 9), (5, 3), (6, 3), (7, 26), (8, 32)]) (by kernel_rfl) h
  obtain ⟨M, e0, hM⟩ := model_open (hf 0 0 _ rfl)
  obtain ⟨a, e1, z1⟩ := rd_string (hf 1 3 _ rfl)
  obtain ⟨b, e2, z2⟩ := rd_string (hf 2 4 _ rfl)
  rw [cells_model] at e0
  rw [cells_str] at e1 e2
  obtain ⟨c5, c6, c7, c8, c9, cA, cB, cC0, cD0, cE, e⟩ := fifteen_of e0 e1 e2 (by rw [hl]; kernel_rfl)
  exact ⟨M, a, b, c5, c6, c7, c8, c9, cA, cB, cC0, cD0, cE, e, hM, z1, z2⟩
set_option maxRecDepth 100000 in
theorem agg_of {v : Value} {cs : Array Value} (h : v.cells.toList = cs.toList) (hn : cs.size ≠ 1) : v = .agg cs := by
  cases v
  case agg c => rw [show c = cs from Array.ext' h]
  all_goals
    have := congrArg List.length h
    simp [Value.cells] at this
    exact absurd this.symm hn
theorem Trod_rd {t : TypeId} {v : Value} {d : DataW H} {p : List MemPlace} (h : DataW.Trod enc Try.prog W 0 (fun _ => true) true t v d p) : Rd enc W (Classical.choose h) t v.cells.toList := ⟨_, Classical.choose_spec h⟩
theorem strs_of {base n : Nat} {v : Value} (hv : Value.okWide Try.prog W .any base 35 v) (h : Rd enc W n 35 v.cells.toList) : ∃ l, WdsAt W v l := by
  obtain ⟨a0, len0, cap0, rfl⟩ := okWide_slice (show Try.prog.underlying 35 = some (.slice 9) by kernel_rfl) hv
  obtain ⟨l, v, e, hl, hz⟩ := strs_open h
  obtain rfl : Value.slice a0 len0 cap0 = v := by simpa [Value.cells] using e
  exact ⟨l, hl, hz⟩
end
theorem own : ownKnob Try.prog.godebug = none := by kernel_rfl
set_option maxHeartbeats 4000000 in
theorem models_lifted (os : Os) (started : os.Started) (H : Type) (enc : TypeId × Value → H) :
    ReturnsInHanded {} Try.checked os 3 .any (Rows.decodeModelsSpec.pre6 enc Try.prog Try.f3 Rows.decodeModelsRow.domain false) (Rows.decodeModelsSpec.post enc Try.prog Try.f3 false true false false) := by
  refine returnsInHanded_of_change (C := Try.checked) own started (by kernel_rfl) Try.func3
    (ChangeSpec.witness6 (enc := enc) (C := Try.checked) false ⟨#[], #[.agg #[.int .i64 0, .slice none 0 0, .slice none 0 0, .string ⟨#[]⟩, .string ⟨#[]⟩, .int .i64 0, .int .i64 0, .slice none 0 0, .int .i64 0, .slice none 0 0, .slice none 0 0, .int .i64 0, .int .i64 0, .int .i64 0, .int .i64 0], .slice none 0 0], []⟩ 8 (by kernel_rfl) (by kernel_rfl) (by kernel_rfl) (by kernel_rfl)) ?_
  intro W base args ds gs before hval0 hW hcnd _
  have hval : ∀ (j : Nat) t v, Try.f3.params[j]? = some t → args[j]? = some v → Value.okWide Try.prog W .any base t v := hval0
  have hW' := hW
  have hlt := hW.lt
  obtain ⟨p, q, hA0, hV, rfl, hfz, hnd⟩ := hW
  have hA : DataW.TrodAll enc Try.prog W 0 (fun _ => true) true Try.f3.params.toList args.toList ds p := hA0
  rw [Try.params3] at hA hval
  obtain ⟨v0, v1, d0, d1, p0, p1, rfl, rfl, rfl, h0, h1⟩ := trodAll_two hA
  obtain ⟨rfl, rfl⟩ := trodVars_none hV
  obtain ⟨M, a, b, c5, c6, c7, c8, c9, cA, cB, cC0, cD0, cE, e0, hM, ha, hb⟩ := task_open (Trod_rd h0)
  obtain rfl := agg_of (cs := #[.int .i64 M.unk, M.uv, M.bv, .string a, .string b, c5, c6, c7, c8, c9, cA, cB, cC0, cD0, cE]) e0 (by simp)
  obtain ⟨l, hl⟩ := strs_of (hval 1 35 v1 rfl rfl) (Trod_rd h1)
  refine (models_law M a b c5 c6 c7 c8 c9 cA cB cC0 cD0 cE v1 l W hM hl ha hb).mono fun e W' ⟨he, hbw⟩ => ?_
  subst he
  exact ⟨_, rfl, [_, _], [], _, [], p0 ++ p1, [], hW', trodAll_mk1 (shut_bool Try.underlying4 true),
    by rw [Try.params3]; exact trodAll_mk2 (Below.trod laidO (by kernel_rfl) (by decide +kernel) h0 hbw fun x hx => hlt x (by simp [hx])) (Below.trod laidO (by kernel_rfl) (by decide +kernel) h1 hbw fun x hx => hlt x (by simp [hx])), rfl, hbw.frame _, fun h => by cases h⟩
set_option maxHeartbeats 4000000 in
theorem models_holds : Rows.DecodeModelsSaid :=
  OpenClaim.holds_of_wide 3 Try.f3 rfl rfl rfl rfl rfl rfl rfl ⟨rfl, rfl, rfl, rfl, rfl⟩ rfl rfl rfl rfl rfl (by kernel_rfl) Try.func3 (by kernel_rfl)
    (of_decide_eq_true (by kernel_rfl)) (by unfold Func.isWrapper; first | (rw [if_pos (by decide +kernel)]; kernel_rfl) | (rw [if_neg (by decide +kernel)]; exact ⟨rfl, rfl⟩))
    (fun os started H enc _ => models_lifted os started H enc)
#print axioms models_holds
end Go.Proofs.Ytgcglaagjplbfaa
