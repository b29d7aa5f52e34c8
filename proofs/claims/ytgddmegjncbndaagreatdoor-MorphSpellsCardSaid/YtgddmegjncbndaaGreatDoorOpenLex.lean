/- A lexicon among the arguments, opened as data. -/
import Derived.Test.YtgddmegjncbndaaGreatDoorLex7
import Derived.Test.YtgddmegjncbndaaGreatDoorLaid
import Derived.Deep.Slices
import Derived.ChangeSame
import Derived.Carry
namespace Go.Proofs.YtgddmegjncbndaaGreatDoor
open Go Go.ChangeShapes Go.WideShapes Go.ChangeAt Go.ChangeMaps Go.RowKit
section
variable {H : Type} {enc : TypeId × Value → H} {W : World}
/-- A type's cells, read. -/
def Rd (enc : TypeId × Value → H) (W : World) (n : Nat) (t : TypeId) (cs : List Value) : Prop := ∃ y, DataW.trod enc Tryz.prog W 0 (fun _ => true) true n t cs = some y
theorem rd_string {n : Nat} {cs : List Value} (h : Rd enc W n 9 cs) : ∃ s : ByteArray, cs = [.string s] ∧ s.size ≤ maxLen := by
  obtain ⟨y, h⟩ := h
  obtain ⟨s, e, _, h2⟩ := DataW.trod_string (show Tryz.prog.underlying 9 = some .string by kernel_rfl) h
  exact ⟨s, e, h2⟩
theorem rd_int {n : Nat} {cs : List Value} (h : Rd enc W n 3 cs) : ∃ k : Int, cs = [.int .i64 k] := by
  obtain ⟨y, h⟩ := h
  obtain ⟨k, e, _, _⟩ := DataW.trod_int (show Tryz.prog.underlying 3 = some (.int .i64) by kernel_rfl) h
  exact ⟨k, e⟩
/-- A struct's fields, by offset and type. -/
noncomputable def fieldsAre (t : TypeId) (l : List (Nat × TypeId)) : Bool := match Tryz.prog.underlying t with
  | some (.struct fs) => fs.toList.map (fun f => (f.offset, f.type)) == l
  | _ => false
theorem rd_struct {t : TypeId} {l : List (Nat × TypeId)} {n : Nat} {cs : List Value} (hl : fieldsAre t l = true) (h : Rd enc W n t cs) :
    cs.length = Tryz.prog.cellsOf t ∧ ∃ m, ∀ (i off : Nat) (ty : TypeId), l[i]? = some (off, ty) → Rd enc W m ty ((cs.drop off).take (Tryz.prog.cellsOf ty)) := by
  unfold fieldsAre at hl
  split at hl
  · rename_i fs hu
    obtain ⟨y, h⟩ := h
    obtain ⟨xs, m, _, _, hc, hlen, hf⟩ := DataW.trod_struct hu h
    refine ⟨hc, m, fun i off ty hi => ?_⟩
    rw [← eq_of_beq hl, List.getElem?_map] at hi
    cases hfi : fs.toList[i]? with
    | none => rw [hfi] at hi; cases hi
    | some f =>
      rw [hfi] at hi
      simp at hi
      obtain ⟨rfl, rfl⟩ := hi
      have h1 := hf i f (by rw [← Array.getElem?_toList]; exact hfi)
      have hil : i < xs.length := by
        rw [hlen]
        have := (List.getElem?_eq_some_iff.1 hfi).1
        simpa using this
      rw [List.getElem?_eq_getElem hil] at h1
      exact ⟨_, h1⟩
  · cases hl
theorem rows_open {α : Type} {t e : TypeId} {sz fuel : Nat} {cs : List Value} (ht : Tryz.prog.underlying t = some (.slice e)) (hc : Tryz.prog.cellsOf e = sz) (hz : 0 < sz) (R : List Value → α → Prop)
    (hel : ∀ n cs, Rd enc W n e cs → ∃ a, R cs a) (F : List α → Nat → Nat → Value) (hF : ∀ (l : List α) i (hi : i < l.length) cs, R cs l[i] → ∀ j, j < sz → cs[j]? = some (F l i j)) (h : Rd enc W fuel t cs) :
    ∃ (l : List α) (v : Value), cs = [v] ∧ SliceAt W.heap.size W v l.length sz (F l) ∧ (∀ a ∈ l, ∃ cs', R cs' a) ∧ (v = .slice none 0 0 ∨ ∃ A n c, v = .slice (some A) n c) := by
  obtain ⟨y, h⟩ := h
  rcases Go.Deep.open_slice ht h with ⟨rfl, _⟩ | ⟨a, len, cap, m, n, D, Pl, rfl, _, hl, hm, hmm, _, hx⟩
  · exact ⟨[], _, rfl, ⟨none, 0, rfl, by simp, by simp, fun h => absurd h (by simp)⟩, (fun _ h => by cases h), .inl rfl⟩
  · have hlm : len ≤ m := by rw [hmm]; split <;> omega
    have each : ∀ i : Fin len, ∃ al : α, ∃ cs', W.cells? 0 (a.add (i.1 * sz)) sz = some cs' ∧ R cs' al := fun i => by
      obtain ⟨cs', h1, h2⟩ := hx i.1 (by have := i.2; omega)
      obtain ⟨al, hal⟩ := hel n cs' ⟨_, h2⟩
      exact ⟨al, cs', by rw [← hc]; exact h1, hal⟩
    refine ⟨List.ofFn fun i => Classical.choose (each i), _, rfl, ⟨some a, cap, by simp, by simpa using hl, hm, fun h0 => ⟨a, rfl, ?_, ?_⟩⟩, ?_, .inr ⟨_, _, _, rfl⟩⟩
    · have h0' : 0 < len := by simpa using h0
      obtain ⟨cs', h1, _⟩ := Classical.choose_spec (each ⟨0, h0'⟩)
      obtain ⟨_, hlen, hcl⟩ := World.cells?_some h1
      have := hcl 0 hz
      rw [List.getElem?_eq_getElem (by omega)] at this
      have hb := World.block_lt_of_cell? W _ this
      rwa [add_block, add_block] at hb
    · intro i j hi hj
      have hi' : i < len := by simpa using hi
      obtain ⟨cs', h1, h2⟩ := Classical.choose_spec (each ⟨i, hi'⟩)
      obtain ⟨_, hlen, hcl⟩ := World.cells?_some h1
      have e1 := hcl j hj
      rw [Go.Deep.add_add] at e1
      rw [e1]
      exact hF _ i hi cs' (by simpa using h2) j hj
    · intro al hal
      obtain ⟨i, hi, rfl⟩ := List.getElem_of_mem hal
      have hi' : i < len := by simpa using hi
      obtain ⟨cs', _, h2⟩ := Classical.choose_spec (each ⟨i, hi'⟩)
      exact ⟨cs', by simpa using h2⟩
def RStr (cs : List Value) (s : ByteArray) : Prop := cs = [.string s] ∧ s.size ≤ maxLen
theorem strs_open {n : Nat} {cs : List Value} (h : Rd enc W n 42 cs) : ∃ (l : List ByteArray) (v : Value), cs = [v] ∧ SliceAt W.heap.size W v l.length 1 (strF l) ∧ ∀ s ∈ l, s.size ≤ maxLen := by
  obtain ⟨l, v, e, h1, h2, _⟩ := rows_open (t := 42) (e := 9) (sz := 1) (by kernel_rfl) (by kernel_rfl) (by omega) RStr (fun n cs h => rd_string h) strF (fun l i hi cs hr j hj => by
    obtain ⟨rfl, _⟩ := hr
    obtain rfl : j = 0 := by omega
    simp [strF, hi]) h
  exact ⟨l, v, e, h1, fun s hs => by obtain ⟨_, _, h⟩ := h2 s hs; exact h⟩
def RFt (cs : List Value) (x : Ft) : Prop := cs = [.string x.1, .string x.2]
theorem two_of {cs : List Value} {u v : Value} (h0 : (cs.drop 0).take 1 = [u]) (h1 : (cs.drop 1).take 1 = [v]) (hl : cs.length = 2) : cs = [u, v] := by
  match cs, hl with
  | [a, b], _ => simp at h0 h1; simp [h0, h1]
theorem three_of {cs : List Value} {u v x : Value} (h0 : (cs.drop 0).take 1 = [u]) (h1 : (cs.drop 1).take 1 = [v]) (h2 : (cs.drop 2).take 1 = [x]) (hl : cs.length = 3) : cs = [u, v, x] := by
  match cs, hl with
  | [a, b, c], _ => simp at h0 h1 h2; simp [h0, h1, h2]
theorem four_of {cs : List Value} {u v x y : Value} (h0 : (cs.drop 0).take 1 = [u]) (h1 : (cs.drop 1).take 1 = [v]) (h2 : (cs.drop 2).take 1 = [x]) (h3 : (cs.drop 3).take 1 = [y]) (hl : cs.length = 4) : cs = [u, v, x, y] := by
  match cs, hl with
  | [a, b, c, d], _ => simp at h0 h1 h2 h3; simp [h0, h1, h2, h3]
theorem six_of {cs : List Value} {u v x y z t : Value} (h0 : (cs.drop 0).take 1 = [u]) (h1 : (cs.drop 1).take 1 = [v]) (h2 : (cs.drop 2).take 1 = [x]) (h3 : (cs.drop 3).take 1 = [y]) (h4 : (cs.drop 4).take 1 = [z]) (h5 : (cs.drop 5).take 1 = [t]) (hl : cs.length = 6) : cs = [u, v, x, y, z, t] := by
  match cs, hl with
  | [a, b, c, d, e, f], _ => simp at h0 h1 h2 h3 h4 h5; simp [h0, h1, h2, h3, h4, h5]
theorem cells_str : Tryz.prog.cellsOf 9 = 1 := by kernel_rfl
theorem cells_int : Tryz.prog.cellsOf 3 = 1 := by kernel_rfl
theorem cells_strs : Tryz.prog.cellsOf 42 = 1 := by kernel_rfl
theorem cells_fts : Tryz.prog.cellsOf 29 = 1 := by kernel_rfl
theorem cells_slots : Tryz.prog.cellsOf 65 = 1 := by kernel_rfl
theorem cells_irrs : Tryz.prog.cellsOf 70 = 1 := by kernel_rfl
theorem cells_tras : Tryz.prog.cellsOf 22 = 1 := by kernel_rfl
theorem cells_clas : Tryz.prog.cellsOf 23 = 1 := by kernel_rfl
theorem cells_ents : Tryz.prog.cellsOf 24 = 1 := by kernel_rfl
theorem cells_spes : Tryz.prog.cellsOf 25 = 1 := by kernel_rfl
theorem cells_lins : Tryz.prog.cellsOf 26 = 1 := by kernel_rfl
theorem fts_open {n : Nat} {cs : List Value} (h : Rd enc W n 29 cs) : ∃ (l : List Ft) (v : Value), cs = [v] ∧ ReadsIn W.heap.size W v l := by
  obtain ⟨l, v, e, ⟨p, cap, ev, h1, h2, h3⟩, _, hv⟩ := rows_open (t := 29) (e := 61) (sz := 2) (by kernel_rfl) (by kernel_rfl) (by omega) RFt (fun n cs h => by
    obtain ⟨hl, m, hf⟩ := rd_struct (l := [(0, 9), (1, 9)]) (by kernel_rfl) h
    obtain ⟨s0, e0, _⟩ := rd_string (hf 0 0 _ rfl)
    obtain ⟨s1, e1, _⟩ := rd_string (hf 1 1 _ rfl)
    rw [cells_str] at e0 e1
    exact ⟨(s0, s1), two_of e0 e1 (by rw [hl]; kernel_rfl)⟩) featF (fun l i hi cs hr j hj => by
    rw [show cs = [.string l[i].1, .string l[i].2] from hr]
    match j, hj with
    | 0, _ => simp [featF, hi]
    | 1, _ => simp [featF, hi]) h
  refine ⟨l, v, e, ?_⟩
  subst ev
  by_cases h0 : 0 < l.length
  · obtain ⟨A, rfl, hA, hc⟩ := h3 h0
    refine .inr ⟨A, cap, rfl, h1, h2, fun _ => hA, fun i hi => ⟨?_, ?_⟩⟩
    · have := hc i 0 hi (by omega)
      simpa [featF, hi] using this
    · have := hc i 1 hi (by omega)
      simpa [featF, hi] using this
  · obtain rfl : l = [] := List.eq_nil_of_length_eq_zero (by omega)
    cases p with
    | none =>
      rcases hv with hv | ⟨A, n, c, hv⟩
      · exact .inl ⟨hv, rfl⟩
      · cases hv
    | some A => exact .inr ⟨A, cap, rfl, h1, h2, fun h => absurd h (by simp), fun i hi => absurd hi (by simp)⟩
def RTra (W : World) (cs : List Value) (x : Tra) : Prop := cs = [.string x.name, x.vv] ∧ SliceAt W.heap.size W x.vv x.vs.length 1 (strF x.vs) ∧ x.name.size ≤ maxLen ∧ ∀ s ∈ x.vs, s.size ≤ maxLen
theorem tras_open {n : Nat} {cs : List Value} (h : Rd enc W n 22 cs) : ∃ (l : List Tra) (v : Value), cs = [v] ∧ TrasAt W v l := by
  obtain ⟨l, v, e, h1, h2, _⟩ := rows_open (t := 22) (e := 64) (sz := 2) (by kernel_rfl) (by kernel_rfl) (by omega) (RTra W) (fun n cs h => by
    obtain ⟨hl, m, hf⟩ := rd_struct (l := [(0, 9), (1, 42)]) (by kernel_rfl) h
    obtain ⟨s0, e0, z0⟩ := rd_string (hf 0 0 _ rfl)
    obtain ⟨vs, v1, e1, z1, z2⟩ := strs_open (hf 1 1 _ rfl)
    rw [cells_str] at e0
    rw [cells_strs] at e1
    exact ⟨⟨s0, v1, vs⟩, two_of e0 e1 (by rw [hl]; kernel_rfl), z1, z0, z2⟩) traF (fun l i hi cs hr j hj => by
    rw [hr.1]
    match j, hj with
    | 0, _ => simp [traF, hi]
    | 1, _ => simp [traF, hi]) h
  exact ⟨l, v, e, h1, fun x hx => by obtain ⟨_, _, h⟩ := h2 x hx; exact h⟩
def RSlo (W : World) (cs : List Value) (x : Slo) : Prop := cs = [.int .i64 x.cut, .string x.pre, .string x.add, x.fv] ∧ ReadsIn W.heap.size W x.fv x.fs ∧ x.pre.size ≤ maxLen ∧ x.add.size ≤ maxLen
theorem slos_open {n : Nat} {cs : List Value} (h : Rd enc W n 65 cs) : ∃ (l : List Slo) (v : Value), cs = [v] ∧ SlosAt W v l := by
  obtain ⟨l, v, e, h1, h2, _⟩ := rows_open (t := 65) (e := 69) (sz := 4) (by kernel_rfl) (by kernel_rfl) (by omega) (RSlo W) (fun n cs h => by
    obtain ⟨hl, m, hf⟩ := rd_struct (l := [(0, 3), (1, 9), (2, 9), (3, 29)]) (by kernel_rfl) h
    obtain ⟨k0, e0⟩ := rd_int (hf 0 0 _ rfl)
    obtain ⟨s1, e1, z1⟩ := rd_string (hf 1 1 _ rfl)
    obtain ⟨s2, e2, z2⟩ := rd_string (hf 2 2 _ rfl)
    obtain ⟨fs, v3, e3, z3⟩ := fts_open (hf 3 3 _ rfl)
    rw [cells_int] at e0
    rw [cells_str] at e1 e2
    rw [cells_fts] at e3
    exact ⟨⟨k0, s1, s2, v3, fs⟩, four_of e0 e1 e2 e3 (by rw [hl]; kernel_rfl), z3, z1, z2⟩) sloF (fun l i hi cs hr j hj => by
    rw [hr.1]
    match j, hj with
    | 0, _ => simp [sloF, hi]
    | 1, _ => simp [sloF, hi]
    | 2, _ => simp [sloF, hi]
    | 3, _ => simp [sloF, hi]) h
  exact ⟨l, v, e, h1, fun x hx => by obtain ⟨_, _, h⟩ := h2 x hx; exact h⟩
def RCla (W : World) (cs : List Value) (x : Cla) : Prop := cs = [.string x.name, x.sv] ∧ SlosAt W x.sv x.slots ∧ x.name.size ≤ maxLen
theorem clas_open {n : Nat} {cs : List Value} (h : Rd enc W n 23 cs) : ∃ (l : List Cla) (v : Value), cs = [v] ∧ ClasAt W v l := by
  obtain ⟨l, v, e, h1, h2, _⟩ := rows_open (t := 23) (e := 67) (sz := 2) (by kernel_rfl) (by kernel_rfl) (by omega) (RCla W) (fun n cs h => by
    obtain ⟨hl, m, hf⟩ := rd_struct (l := [(0, 9), (1, 65)]) (by kernel_rfl) h
    obtain ⟨s0, e0, z0⟩ := rd_string (hf 0 0 _ rfl)
    obtain ⟨vs, v1, e1, z1⟩ := slos_open (hf 1 1 _ rfl)
    rw [cells_str] at e0
    rw [cells_slots] at e1
    exact ⟨⟨s0, v1, vs⟩, two_of e0 e1 (by rw [hl]; kernel_rfl), z1, z0⟩) claF (fun l i hi cs hr j hj => by
    rw [hr.1]
    match j, hj with
    | 0, _ => simp [claF, hi]
    | 1, _ => simp [claF, hi]) h
  exact ⟨l, v, e, h1, fun x hx => by obtain ⟨_, _, h⟩ := h2 x hx; exact h⟩
def RIrr (cs : List Value) (x : Irr) : Prop := cs = [.int .i64 x.slot, .string x.word] ∧ x.word.size ≤ maxLen
theorem irrs_open {n : Nat} {cs : List Value} (h : Rd enc W n 70 cs) : ∃ (l : List Irr) (v : Value), cs = [v] ∧ SliceAt W.heap.size W v l.length 2 (irrF l) ∧ ∀ x ∈ l, x.word.size ≤ maxLen := by
  obtain ⟨l, v, e, h1, h2, _⟩ := rows_open (t := 70) (e := 74) (sz := 2) (by kernel_rfl) (by kernel_rfl) (by omega) RIrr (fun n cs h => by
    obtain ⟨hl, m, hf⟩ := rd_struct (l := [(0, 3), (1, 9)]) (by kernel_rfl) h
    obtain ⟨k0, e0⟩ := rd_int (hf 0 0 _ rfl)
    obtain ⟨s1, e1, z1⟩ := rd_string (hf 1 1 _ rfl)
    rw [cells_int] at e0
    rw [cells_str] at e1
    exact ⟨⟨k0, s1⟩, two_of e0 e1 (by rw [hl]; kernel_rfl), z1⟩) irrF (fun l i hi cs hr j hj => by
    rw [hr.1]
    match j, hj with
    | 0, _ => simp [irrF, hi]
    | 1, _ => simp [irrF, hi]) h
  exact ⟨l, v, e, h1, fun x hx => by obtain ⟨_, _, h⟩ := h2 x hx; exact h⟩
def REnt (W : World) (cs : List Value) (x : Ent) : Prop := cs = [.string x.lem, .string x.cls, x.fv, x.mv] ∧ ReadsIn W.heap.size W x.fv x.fs ∧ SliceAt W.heap.size W x.mv x.forms.length 2 (irrF x.forms) ∧ x.lem.size ≤ maxLen ∧ x.cls.size ≤ maxLen ∧ ∀ f ∈ x.forms, f.word.size ≤ maxLen
theorem ents_open {n : Nat} {cs : List Value} (h : Rd enc W n 24 cs) : ∃ (l : List Ent) (v : Value), cs = [v] ∧ EntsAt W v l := by
  obtain ⟨l, v, e, h1, h2, _⟩ := rows_open (t := 24) (e := 72) (sz := 4) (by kernel_rfl) (by kernel_rfl) (by omega) (REnt W) (fun n cs h => by
    obtain ⟨hl, m, hf⟩ := rd_struct (l := [(0, 9), (1, 9), (2, 29), (3, 70)]) (by kernel_rfl) h
    obtain ⟨s0, e0, z0⟩ := rd_string (hf 0 0 _ rfl)
    obtain ⟨s1, e1, z1⟩ := rd_string (hf 1 1 _ rfl)
    obtain ⟨fs, v2, e2, z2⟩ := fts_open (hf 2 2 _ rfl)
    obtain ⟨ms, v3, e3, z3, z4⟩ := irrs_open (hf 3 3 _ rfl)
    rw [cells_str] at e0 e1
    rw [cells_fts] at e2
    rw [cells_irrs] at e3
    exact ⟨⟨s0, s1, v2, fs, v3, ms⟩, four_of e0 e1 e2 e3 (by rw [hl]; kernel_rfl), z2, z3, z0, z1, z4⟩) entF (fun l i hi cs hr j hj => by
    rw [hr.1]
    match j, hj with
    | 0, _ => simp [entF, hi]
    | 1, _ => simp [entF, hi]
    | 2, _ => simp [entF, hi]
    | 3, _ => simp [entF, hi]) h
  exact ⟨l, v, e, h1, fun x hx => by obtain ⟨_, _, h⟩ := h2 x hx; exact h⟩
def RSpe (cs : List Value) (x : Spe) : Prop := cs = [.string x.frm, .string x.to, .string x.left, .string x.right] ∧ x.frm.size ≤ maxLen ∧ x.to.size ≤ maxLen ∧ x.left.size ≤ maxLen ∧ x.right.size ≤ maxLen
theorem spes_open {n : Nat} {cs : List Value} (h : Rd enc W n 25 cs) : ∃ (l : List Spe) (v : Value), cs = [v] ∧ SpesAt W v l := by
  obtain ⟨l, v, e, h1, h2, _⟩ := rows_open (t := 25) (e := 76) (sz := 4) (by kernel_rfl) (by kernel_rfl) (by omega) RSpe (fun n cs h => by
    obtain ⟨hl, m, hf⟩ := rd_struct (l := [(0, 9), (1, 9), (2, 9), (3, 9)]) (by kernel_rfl) h
    obtain ⟨s0, e0, z0⟩ := rd_string (hf 0 0 _ rfl)
    obtain ⟨s1, e1, z1⟩ := rd_string (hf 1 1 _ rfl)
    obtain ⟨s2, e2, z2⟩ := rd_string (hf 2 2 _ rfl)
    obtain ⟨s3, e3, z3⟩ := rd_string (hf 3 3 _ rfl)
    rw [cells_str] at e0 e1 e2 e3
    exact ⟨⟨s0, s1, s2, s3⟩, four_of e0 e1 e2 e3 (by rw [hl]; kernel_rfl), z0, z1, z2, z3⟩) speF (fun l i hi cs hr j hj => by
    rw [hr.1]
    match j, hj with
    | 0, _ => simp [speF, hi]
    | 1, _ => simp [speF, hi]
    | 2, _ => simp [speF, hi]
    | 3, _ => simp [speF, hi]) h
  exact ⟨l, v, e, h1, fun x hx => by obtain ⟨_, _, h⟩ := h2 x hx; exact h⟩
def RLin (W : World) (cs : List Value) (x : Lin) : Prop := cs = [.string x.cls, .string x.glue, x.fv] ∧ ReadsIn W.heap.size W x.fv x.fs ∧ x.cls.size ≤ maxLen ∧ x.glue.size ≤ maxLen
theorem lins_open {n : Nat} {cs : List Value} (h : Rd enc W n 26 cs) : ∃ (l : List Lin) (v : Value), cs = [v] ∧ LinsAt W v l := by
  obtain ⟨l, v, e, h1, h2, _⟩ := rows_open (t := 26) (e := 78) (sz := 3) (by kernel_rfl) (by kernel_rfl) (by omega) (RLin W) (fun n cs h => by
    obtain ⟨hl, m, hf⟩ := rd_struct (l := [(0, 9), (1, 9), (2, 29)]) (by kernel_rfl) h
    obtain ⟨s0, e0, z0⟩ := rd_string (hf 0 0 _ rfl)
    obtain ⟨s1, e1, z1⟩ := rd_string (hf 1 1 _ rfl)
    obtain ⟨fs, v2, e2, z2⟩ := fts_open (hf 2 2 _ rfl)
    rw [cells_str] at e0 e1
    rw [cells_fts] at e2
    exact ⟨⟨s0, s1, v2, fs⟩, three_of e0 e1 e2 (by rw [hl]; kernel_rfl), z2, z0, z1⟩) linF (fun l i hi cs hr j hj => by
    rw [hr.1]
    match j, hj with
    | 0, _ => simp [linF, hi]
    | 1, _ => simp [linF, hi]
    | 2, _ => simp [linF, hi]) h
  exact ⟨l, v, e, h1, fun x hx => by obtain ⟨_, _, h⟩ := h2 x hx; exact h⟩
theorem lex_open {n : Nat} {v : Value} (h : Rd enc W n 28 v.cells.toList) : ∃ L : Lex, v.cells.toList = L.val.cells.toList ∧ LexAt W L := by
  obtain ⟨hl, m, hf⟩ := rd_struct (l := [(0, 9), (1, 22), (2, 23), (3, 24), (4, 25), (5, 26)]) (by kernel_rfl) h
  obtain ⟨s0, e0, z0⟩ := rd_string (hf 0 0 _ rfl)
  obtain ⟨l1, v1, e1, z1⟩ := tras_open (hf 1 1 _ rfl)
  obtain ⟨l2, v2, e2, z2⟩ := clas_open (hf 2 2 _ rfl)
  obtain ⟨l3, v3, e3, z3⟩ := ents_open (hf 3 3 _ rfl)
  obtain ⟨l4, v4, e4, z4⟩ := spes_open (hf 4 4 _ rfl)
  obtain ⟨l5, v5, e5, z5⟩ := lins_open (hf 5 5 _ rfl)
  rw [cells_str] at e0
  rw [cells_tras] at e1
  rw [cells_clas] at e2
  rw [cells_ents] at e3
  rw [cells_spes] at e4
  rw [cells_lins] at e5
  exact ⟨⟨s0, v1, l1, v2, l2, v3, l3, v4, l4, v5, l5⟩, by rw [six_of e0 e1 e2 e3 e4 e5 (by rw [hl]; kernel_rfl)]; rfl, ⟨z0, z1, z2, z3, z4, z5⟩⟩
set_option maxRecDepth 100000 in
theorem agg_of {v : Value} {cs : Array Value} (h : v.cells.toList = cs.toList) (hn : cs.size ≠ 1) : v = .agg cs := by
  cases v
  case agg c => rw [show c = cs from Array.ext' h]
  all_goals
    have := congrArg List.length h
    simp [Value.cells] at this
    exact absurd this.symm hn
set_option maxRecDepth 100000 in
theorem lex_of {n : Nat} {v : Value} (h : Rd enc W n 28 v.cells.toList) : ∃ L : Lex, v = L.val ∧ LexAt W L := by
  obtain ⟨L, e, hL⟩ := lex_open h
  exact ⟨L, agg_of e (by simp), hL⟩
theorem Trod_rd {t : TypeId} {v : Value} {d : DataW H} {p : List MemPlace} (h : DataW.Trod enc Tryz.prog W 0 (fun _ => true) true t v d p) : Rd enc W (Classical.choose h) t v.cells.toList := ⟨_, Classical.choose_spec h⟩
set_option maxRecDepth 100000 in
theorem fts_of {base n : Nat} {v : Value} (hv : Value.okWide Tryz.prog W .any base 29 v) (h : Rd enc W n 29 v.cells.toList) : ∃ l, ReadsIn W.heap.size W v l := by
  obtain ⟨a0, len0, cap0, rfl⟩ := okWide_slice (show Tryz.prog.underlying 29 = some (.slice 61) by kernel_rfl) hv
  obtain ⟨l, v, e, hl⟩ := fts_open h
  obtain rfl : Value.slice a0 len0 cap0 = v := by simpa [Value.cells] using e
  exact ⟨l, hl⟩
set_option maxRecDepth 100000 in
theorem int_of {base n : Nat} {v : Value} (hv : Value.okWide Tryz.prog W .any base 3 v) (_h : Rd enc W n 3 v.cells.toList) : ∃ k : Int, v = .int .i64 k ∧ True := by
  obtain ⟨k, rfl⟩ := okWide_int (show Tryz.prog.underlying 3 = some (.int .i64) by kernel_rfl) hv
  exact ⟨k, rfl, trivial⟩
set_option maxRecDepth 100000 in
theorem str_of {base n : Nat} {v : Value} (hv : Value.okWide Tryz.prog W .any base 9 v) (h : Rd enc W n 9 v.cells.toList) : ∃ s : ByteArray, v = .string s ∧ s.size ≤ maxLen := by
  obtain ⟨s, rfl⟩ := okWide_string (show Tryz.prog.underlying 9 = some .string by kernel_rfl) hv
  obtain ⟨s', e, hs⟩ := rd_string h
  obtain rfl : s = s' := by simpa [Value.cells] using e
  exact ⟨s, rfl, hs⟩
set_option maxRecDepth 100000 in
theorem laid_out : laidOutB Tryz.prog = true := by kernel_rfl
end
end Go.Proofs.YtgddmegjncbndaaGreatDoor
