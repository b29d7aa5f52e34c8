/- What the program's spelling rule makes of a string. -/
import Derived.Test.YtgddmegjncbndaaGreatDoorSp1
import Derived.Lib.AppendStr
import Derived.Laws.IdiomStrings
import Derived.Laws.BytesArg
import Derived.OwnWalk
import Derived.Laws.AppendOwnNone
import Derived.KernelRfl
import Derived.Deep.AppendLies
namespace Go.Proofs.YtgddmegjncbndaaGreatDoor
open Go Go.RowKit
/-- What a rule makes of the rest of a string. -/
def rest (v : ByteArray) (r : Spe) (s : ByteArray) (a : Nat) : List UInt8 :=
  if h : a < s.size then
    if hc : appB v r s a = true ∧ 0 < r.frm.size then r.to.data.toList ++ rest v r s (a + r.frm.size)
    else s[a] :: rest v r s (a + 1)
  else []
termination_by s.size - a
decreasing_by
  · have := hc.2; omega
  · omega
theorem rest_end {v : ByteArray} {r : Spe} {s : ByteArray} {a : Nat} (h : ¬ a < s.size) : rest v r s a = [] := by rw [rest, dif_neg h]
theorem rest_hit {v : ByteArray} {r : Spe} {s : ByteArray} {a : Nat} (h : a < s.size) (hc : appB v r s a = true) (hf : 0 < r.frm.size) : rest v r s a = r.to.data.toList ++ rest v r s (a + r.frm.size) := by
  conv => lhs; rw [rest]
  rw [dif_pos h, dif_pos ⟨hc, hf⟩]
theorem rest_miss {v : ByteArray} {r : Spe} {s : ByteArray} {a : Nat} (h : a < s.size) (hc : appB v r s a = false) : rest v r s a = s[a] :: rest v r s (a + 1) := by
  conv => lhs; rw [rest]
  rw [dif_pos h, dif_neg (by rw [hc]; simp)]
theorem app_room {v : ByteArray} {r : Spe} {s : ByteArray} {a : Nat} (h : appB v r s a = true) (ha : a ≤ s.size) : a + r.frm.size ≤ s.size := by
  unfold appB at h
  simp only [Bool.and_eq_true] at h
  have := (List.isPrefixOf_iff_prefix.1 h.1.1).length_le
  rw [ByteArray.toList_eq, ByteArray.toList_eq, List.length_drop] at this
  simp at this
  omega
def cellsB (l : List UInt8) : List Value := l.map fun b => Value.int .u8 b.toNat
theorem cellsB_str (s : ByteArray) : cellsB s.data.toList = Lib.strCells s := rfl
theorem cellsB_length (l : List UInt8) : (cellsB l).length = l.length := by simp [cellsB]
/-- What respell returns: the string, if neither is too long. -/
def respB (v : ByteArray) (r : Spe) (s : ByteArray) : Option ByteArray := if s.size ≤ 512 ∧ (rest v r s 0).length ≤ 512 then some ⟨(rest v r s 0).toArray⟩ else none
def respEnd (o : Option ByteArray) : Ending := match o with | some x => .returned (.tuple #[.string x, .bool true]) | none => .returned (.tuple #[.string ⟨#[]⟩, .bool false])
def RespAt (v : ByteArray) (r : Spe) (s : ByteArray) (w0 : World) (vo va : Value) (wr : World) : Prop :=
  ∃ (lo : List UInt8) (a : Nat), a ≤ s.size ∧ lo.length ≤ 3000 * a ∧ va = .int .i64 a ∧ wr.ownsRow w0.heap.size 5 1 vo lo.length (cellsB lo) ∧ Below w0.heap.size w0 wr ∧ rest v r s 0 = lo ++ rest v r s a
theorem owned_string {w : World} {base : Nat} {u : Value} {lo : List UInt8} (h : w.ownsRow base 5 1 u lo.length (cellsB lo)) :
    (convert 118 9 u).run Tryz.prog w = .ok (.string ⟨lo.toArray⟩) w := by
  have hs : Tryz.prog.underlying 118 = some (.slice 5) := by kernel_rfl
  have he : Tryz.prog.underlying 5 = some (.int .u8) := by kernel_rfl
  have hd : Tryz.prog.underlying 9 = some .string := by kernel_rfl
  rcases h.2 with ⟨rfl, h0⟩ | ⟨g, cap, cur, rfl, _⟩
  · rw [run_convert_bytes_nil w _ _ hs he 0 0 _ hd]
    rw [List.length_eq_zero_iff.1 h0]; rfl
  · refine run_convert_bytes_back w _ _ _ _ cap lo hs he hd fun j hj => ?_
    have := World.ownsRow.cells h (g := g) rfl j (.int .u8 (lo[j].toNat : Int)) (by simp [cellsB, hj])
    exact this
theorem infoU8 : (Tryz.prog.info? 5).map (fun i => (i.zero, i.size, i.bytes)) = some (some (.int .u8 0), 1, 1) := by kernel_rfl
theorem parts_of {P : Program} {t : TypeId} {z : Value} {n m : Nat} (h : (P.info? t).map (fun i => (i.zero, i.size, i.bytes)) = some (some z, n, m)) : ∃ i, P.info? t = some i ∧ i.zero = some z ∧ i.size = n ∧ i.bytes = m := by
  cases hi : P.info? t with
  | none => rw [hi] at h; cases h
  | some i => rw [hi] at h; simp at h; exact ⟨i, rfl, h.1, h.2.1, h.2.2⟩
theorem own_below {w w' : World} {base : Nat} {e : TypeId} {size n : Nat} {v : Value} {xs : List Value} (hb : Below w.heap.size w w') (h : w.ownsRow base e size v n xs) : w'.ownsRow base e size v n xs :=
  h.kept (row := none) ⟨hb.os, hb.tape, hb.output, hb.size, fun k hk _ => hb.block k hk⟩ (by cases v.ownBlock <;> simp)
theorem own_slice {w : World} {base : Nat} {e : TypeId} {size n : Nat} {v : Value} {xs : List Value} (h : w.ownsRow base e size v n xs) : ∃ p c, v = .slice p n c := by
  rcases h.2 with ⟨rfl, rfl⟩ | ⟨g, cap, _, rfl, _⟩
  · exact ⟨_, _, rfl⟩
  · exact ⟨_, _, rfl⟩
theorem RespAt.next {v : ByteArray} {r : Spe} {s : ByteArray} {w0 W w1 : World} {lo new : List UInt8} {a a' : Nat} {v0 v' : Value} (ha : a' ≤ s.size) (hl : lo.length ≤ 3000 * a) (haa : a < a') (hnew : new.length ≤ 3000)
    (hown : w1.ownsRow w0.heap.size 5 1 v' (lo.length + new.length) (cellsB lo ++ cellsB new)) (hW : Below w0.heap.size w0 W) (hg : W.grownBy w1 v0.ownBlock)
    (hlt : ∀ k, v0.ownBlock = some k → w0.heap.size ≤ k) (hr : rest v r s 0 = lo ++ (new ++ rest v r s a')) : RespAt v r s w0 v' (.int .i64 a') w1 := by
  refine ⟨lo ++ new, a', ha, by simp; omega, rfl, ?_, hW.grown hg hW.size hlt, by rw [hr]; simp⟩
  have : cellsB (lo ++ new) = cellsB lo ++ cellsB new := by simp [cellsB]
  rw [this, List.length_append]; exact hown
set_option maxRecDepth 100000 in
set_option maxHeartbeats 4000000 in
theorem respell_any (v : ByteArray) (r : Spe) (s : ByteArray) (w : World) (hs : s.size ≤ 3000) (hf : 0 < r.frm.size) (h1 : r.frm.size ≤ 3000) (ht : r.to.size ≤ 3000) (h2 : r.left.size ≤ 3000) (h3 : r.right.size ≤ 3000) :
    Calls Tryz.prog 49 #[.agg #[.string r.frm, .string r.to, .string r.left, .string r.right], .string v, .string s] w fun e w' => e = respEnd (respB v r s) ∧ Below w.heap.size w w' := by
  obtain ⟨i0, hi0, hz0, hz1, hz2⟩ := parts_of infoU8
  by_cases h512 : (512 : Int) < (s.size : Int)
  · have HX := Lib.hid (show respB v r s = none by unfold respB; rw [if_neg (by omega)])
    go_enter Tryz.func49, Tryz.ntmps49
    go_wp2
    go_ret2
    exact ⟨by rw [HX.out]; rfl, below_one _ _⟩
  have HB0 := Lib.hid (below_one w (.cells #[.string r.frm, .string r.to, .string r.left, .string r.right] 76))
  have y0 : (w.alloc (.cells #[.string r.frm, .string r.to, .string r.left, .string r.right] 76)).cell? ⟨w.heap.size, 0, none⟩ = some (.string r.frm) := by rw [World.cell?_alloc_new]; rfl
  have y1 : (w.alloc (.cells #[.string r.frm, .string r.to, .string r.left, .string r.right] 76)).cell? ⟨w.heap.size, 1, none⟩ = some (.string r.to) := by rw [World.cell?_alloc_new]; rfl
  have y2 : (w.alloc (.cells #[.string r.frm, .string r.to, .string r.left, .string r.right] 76)).cell? ⟨w.heap.size, 2, none⟩ = some (.string r.left) := by rw [World.cell?_alloc_new]; rfl
  have y3 : (w.alloc (.cells #[.string r.frm, .string r.to, .string r.left, .string r.right] 76)).cell? ⟨w.heap.size, 3, none⟩ = some (.string r.right) := by rw [World.cell?_alloc_new]; rfl
  go_enter Tryz.func49, Tryz.ntmps49
  go_wp2
  generalize w.alloc (.cells #[.string r.frm, .string r.to, .string r.left, .string r.right] 76) = w0 at HB0 y0 y1 y2 y3 ⊢
  have HW0 := Lib.hid (World.block_lt_of_cell? w0 _ y0)
  have agp := Tryz.isAgg76
  have zgp := Tryz.sizeOf76
  go_loopw [8, 9] (fun vo va wr => RespAt v r s w0 vo va wr) (fun _ va _ => s.size - (intOf va).toNat)
  case atStart => exact ⟨[], 0, by omega, by simp, rfl, World.ownsRow_nil _ _ _ _, Below.refl _ _, by simp⟩
  case round =>
    obtain ⟨lo, a, ha, hlo, rfl, hown, hbel, hrest⟩ := hrel
    obtain ⟨po, co, rfl⟩ := own_slice hown
    have HOWN := Lib.hid hown; clear hown
    have HBEL := Lib.hid hbel; clear hbel
    have HREST := Lib.hid hrest; clear hrest
    rename World => wr
    have x0 : wr.cell? ⟨w.heap.size, 0, none⟩ = some (.string r.frm) := by rw [HBEL.out.cell (p := ⟨w.heap.size, 0, none⟩) HW0.out]; exact y0
    have x1 : wr.cell? ⟨w.heap.size, 1, none⟩ = some (.string r.to) := by rw [HBEL.out.cell (p := ⟨w.heap.size, 1, none⟩) HW0.out]; exact y1
    have x2 : wr.cell? ⟨w.heap.size, 2, none⟩ = some (.string r.left) := by rw [HBEL.out.cell (p := ⟨w.heap.size, 2, none⟩) HW0.out]; exact y2
    have x3 : wr.cell? ⟨w.heap.size, 3, none⟩ = some (.string r.right) := by rw [HBEL.out.cell (p := ⟨w.heap.size, 3, none⟩) HW0.out]; exact y3
    by_cases hlt : a < s.size
    · cases happ : appB v r s a
      · have HR2 := Lib.hid (show rest v r s 0 = lo ++ ([s[a]] ++ rest v r s (a + 1)) by rw [HREST.out, rest_miss hlt happ]; rfl)
        go_wp2_with (first
          | (go_at_call 84; refine (applies_any v r s a _ (by omega) hs h1 h2 h3).mono ?_; rintro e w2 ⟨he, hb2⟩; rw [happ] at he; subst he; have HB2 := Lib.hid (HBEL.out.trans (hb2.mono HBEL.out.size)); have HOWN2 := Lib.hid (own_below hb2 HOWN.out); have z1 := (show w2.cell? ⟨w.heap.size, 1, none⟩ = some (.string r.to) by rw [HB2.out.cell (p := ⟨w.heap.size, 1, none⟩) HW0.out]; exact y1); clear hb2)
          | (at_builtin; refine wpList_append_own _ rfl (.tmp 31) (.tmp 35) 118 rfl w0.heap.size 5 i0 _ 1 1 Tryz.underlying118 hi0 hz0 hz1 hz2 rfl (by omega) _ _ _ rfl (HOWN2.out.alloc _) ⟨w2.heap.size, 0, none⟩ 1 1 [.int .u8 s[a].toNat] rfl rfl (World.news_of_block (cs := #[.int .u8 s[a].toNat]) (t := 5) (fr := (0, 0)) (heap_alloc_new _ _)) (by simp [Value.oneCell']) (by unfold maxLen; omega) (by omega) (by have := HB2.out.size; simp; omega) ?_; intro v1 w3 hO hG hN))
        go_roundw
        case rel =>
          have HT := RespAt.next (a' := a + 1) (new := [s[a]]) (by omega) hlo (by omega) (by simp) (by simpa [cellsB] using hO) (HB2.out.alloc HB2.out.size _) hG (fun k hk => (HOWN.out.lt k hk).1) HR2.out
          simpa using HT
        case measure => simp [intOf]; omega
      · have hroom := app_room happ (by omega)
        have HR2 := Lib.hid (show rest v r s 0 = lo ++ (r.to.data.toList ++ rest v r s (a + r.frm.size)) by rw [HREST.out, rest_hit hlt happ hf])
        go_wp2_with (first
          | (go_at_call 84; refine (applies_any v r s a _ (by omega) hs h1 h2 h3).mono ?_; rintro e w2 ⟨he, hb2⟩; rw [happ] at he; subst he; have HB2 := Lib.hid (HBEL.out.trans (hb2.mono HBEL.out.size)); have HOWN2 := Lib.hid (own_below hb2 HOWN.out); have z1 := (show w2.cell? ⟨w.heap.size, 1, none⟩ = some (.string r.to) by rw [HB2.out.cell (p := ⟨w.heap.size, 1, none⟩) HW0.out]; exact y1); clear hb2)
          | (at_builtin; refine Lib.wpList_append_own_string _ rfl (.tmp 22) (.tmp 24) 118 9 rfl w0.heap.size 5 i0 Tryz.underlying118 Tryz.underlying9 hi0 hz0 hz1 hz2 _ _ _ rfl HOWN2.out r.to rfl (by unfold maxLen; omega) (by omega) (by have := HB2.out.size; omega) ?_; intro v1 w3 hO hG hN; have HB3 := Lib.hid (HB2.out.grown hG HB2.out.size (fun k hk => (HOWN.out.lt k hk).1)); have z0 := (show w3.cell? ⟨w.heap.size, 0, none⟩ = some (.string r.frm) by rw [HB3.out.cell (p := ⟨w.heap.size, 0, none⟩) HW0.out]; exact y0)))
        go_roundw
        case rel =>
          have HT := RespAt.next (a' := a + r.frm.size) (new := r.to.data.toList) hroom hlo (by omega) (by simpa using ht) (by rw [cellsB_str]; simpa using hO) HB2.out hG (fun k hk => (HOWN.out.lt k hk).1) HR2.out
          simpa using HT
        case measure => simp [intOf]; omega
    · have HFIN := Lib.hid (show rest v r s 0 = lo by rw [HREST.out, rest_end hlt]; simp)
      have hcv := owned_string HOWN.out
      by_cases h5 : (512 : Int) < (lo.length : Int)
      · have HX := Lib.hid (show respB v r s = none by unfold respB; rw [HFIN.out, if_neg (by omega)])
        go_wp2
        go_ret2
        exact ⟨by rw [HX.out]; rfl, HB0.out.trans (HBEL.out.mono HB0.out.size)⟩
      · have HX := Lib.hid (show respB v r s = some ⟨lo.toArray⟩ by unfold respB; rw [HFIN.out, if_pos (by omega)])
        go_wp2
        go_ret2
        exact ⟨by rw [HX.out]; rfl, HB0.out.trans (HBEL.out.mono HB0.out.size)⟩
end Go.Proofs.YtgddmegjncbndaaGreatDoor
