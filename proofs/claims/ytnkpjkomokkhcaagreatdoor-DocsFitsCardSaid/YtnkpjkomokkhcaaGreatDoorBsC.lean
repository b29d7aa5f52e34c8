/- Whether there is a break at a place, by the specification. Breaks and Fits, by the specification. Fits, by the specification. The guard on rules; two lists of numbers compared. The law DocsBreaks over any rules and any list, given that the layer's examples hold. A break rule put ahead of others, as data. No run of any program here. Rules put behind one of the call's own. The law DocsFits over any rules and any list, given that the layer's examples hold. -/
import Derived.Test.YtnkpjkomokkhcaaGreatDoorBsB
import Derived.Test.YtnkpjkomokkhcaaGreatDoorDqA
import Derived.Laws.OwnMore
import Derived.Laws.AppendOwnNone
namespace Go.Proofs.YtnkpjkomokkhcaaGreatDoor
open Go Go.RowKit Go.Lib
set_option maxRecDepth 100000
end Go.Proofs.YtnkpjkomokkhcaaGreatDoor
namespace Go.Proofs.YtnkpjkomokkhcaaGreatDoor
open Go Go.RowKit Go.Lib
set_option maxRecDepth 100000
def brF (R : List Rl) (L : List Un) (p : Nat) : Bool := decide (0 < p) && rlBreak R L p
end Go.Proofs.YtnkpjkomokkhcaaGreatDoor
namespace Go.Proofs.YtnkpjkomokkhcaaGreatDoor
open Go Go.RowKit Go.Lib
set_option maxRecDepth 100000
end Go.Proofs.YtnkpjkomokkhcaaGreatDoor
namespace Go.Proofs.YtnkpjkomokkhcaaGreatDoor
open Go Go.RowKit Go.Lib
set_option maxRecDepth 100000
def rlB (x : Rl) : Nat := x.b.size + x.a.size
def strM (R : List Rl) (k : Nat) : Nat := R.length + ((R.take k).map rlB).sum
theorem strM_succ {R : List Rl} {k : Nat} (h : k < R.length) : strM R (k + 1) = strM R k + rlB (R.getD k nilR) := by
  unfold strM
  rw [List.take_add_one, List.getElem?_eq_getElem h, List.map_append, List.sum_append, List.getD_eq_getElem?_getD, List.getElem?_eq_getElem h]
  simp
  omega
theorem strM_le {R : List Rl} (hz : ∀ x ∈ R, x.b.size ≤ 140737488355328 ∧ x.a.size ≤ 140737488355328) : ∀ k, k ≤ R.length → strM R k ≤ R.length + k * 281474976710656
  | 0, _ => by simp [strM]
  | k + 1, hk => by
    have h1 := strM_le hz k (by omega)
    have h2 := hz (R.getD k nilR) (by rw [List.getD_eq_getElem?_getD, List.getElem?_eq_getElem (by omega)]; exact List.getElem_mem _)
    rw [strM_succ (by omega)]
    unfold rlB
    omega
theorem sum_mem {l : List Nat} {n : Nat} (h : n ∈ l) : n ≤ l.sum := by
  induction l with
  | nil => cases h
  | cons a l ih =>
    rw [List.sum_cons]
    rcases List.mem_cons.1 h with rfl | h
    · omega
    · have := ih h; omega
theorem strM_sz {R : List Rl} (h : strM R (min 100 R.length) ≤ 600) : SzR R := by
  intro hl x hx
  rw [Nat.min_eq_right (by omega)] at h
  unfold strM at h
  rw [List.take_length] at h
  have := sum_mem (List.mem_map.2 ⟨x, hx, rfl⟩ : rlB x ∈ R.map rlB)
  unfold rlB at this h
  omega
def StrEnd (R : List Rl) (e : Ending) : Prop := e = .returned (.bool (decide (600 < strM R (min 100 R.length))))
set_option maxHeartbeats 16000000 in
theorem strict_any (R : List Rl) (v : Value) (w : World) (hv : RulesAt w v R) (hz : ∀ x ∈ R, x.b.size ≤ 140737488355328 ∧ x.a.size ≤ 140737488355328) (hl : R.length ≤ 140737488355328) :
    Calls Tryz.prog 16 #[v] w fun e w' => StrEnd R e ∧ Below w.heap.size w w' := by
  have ar := Tryz.isAgg47
  have zr := Tryz.sizeOf47
  have HV := Lib.hid hv
  have HZ := Lib.hid (fun k hk => @strM_le R hz k hk)
  obtain ⟨p, cap, rfl, hlc, hc, hrow⟩ := hv
  clear hrow hz
  unfold maxLen at hc
  go_enter Tryz.func16, Tryz.ntmps16
  go_wp2
  go_loopw [3, 4] (fun n i wr => ∃ k : Nat, i = .int .i64 k ∧ n = .int .i64 (strM R k : Nat) ∧ k ≤ R.length ∧ k ≤ 100 ∧ Hid (Below w.heap.size w wr)) (fun _ i _ => R.length - (RowKit.intOf i).toNat)
  case atStart => exact ⟨0, rfl, by simp [strM], Nat.zero_le _, Nat.zero_le _, Below.refl _ _⟩
  case round =>
    obtain ⟨k, rfl, rfl, hk, hk2, HB⟩ := hrel
    by_cases hlt : k < R.length
    · have hki : (k : Int) < (R.length : Int) := by omega
      have hk0 : (0 : Int) ≤ (k : Int) := by omega
      by_cases h100 : k < 100
      · have h100I : (k : Int) < 100 := by omega
        obtain ⟨A, rfl, x0, x1, x2⟩ := (HV.out.step HB.out).get hlt
        have hsz := HZ.out (k + 1) (by omega)
        have hS := strM_succ hlt
        unfold rlB at hS
        clear x2
        obtain ⟨m2, hm2⟩ : ∃ m2, m2 = strM R (k + 1) := ⟨_, rfl⟩
        rw [← hm2] at hsz hS
        have HM2 := Lib.hid hm2
        clear hm2
        generalize strM R k = m at *
        generalize R.getD k nilR = x at *
        obtain ⟨xb, xa, xk⟩ := x
        dsimp only at x0 x1 hS
        have h1 : IntKind.i64.wrap ((m : Int) + (xb.size : Int)) = ((m + xb.size : Nat) : Int) := by rw [IntKind.wrap_i64]; omega
        have h2 : IntKind.i64.wrap (((m + xb.size : Nat) : Int) + (xa.size : Int)) = (m2 : Int) := by rw [IntKind.wrap_i64]; omega
        go_wp2
        go_quiet (fail)
        go_wp2
        go_roundw
        case rel => exact ⟨k + 1, by go_num, by rw [← HM2.out]; go_num, by omega, by omega, below_next HB.out (below_drawn _ _)⟩
        case measure => simp [RowKit.intOf]; omega
      · obtain rfl : k = 100 := by omega
        have HE := Lib.hid (show strM R (min 100 R.length) = strM R 100 by rw [Nat.min_eq_left (by omega)])
        go_wp2
        go_ret
        exact ⟨ret_bool (by rw [HE.out]; simp; omega), HB.out⟩
    · have hki : ¬ (k : Int) < (R.length : Int) := by omega
      obtain rfl : k = R.length := by omega
      have HE := Lib.hid (show strM R (min 100 R.length) = strM R R.length by rw [Nat.min_eq_right (by omega)])
      go_wp2
      go_ret
      exact ⟨ret_bool (by rw [HE.out]; simp; omega), HB.out⟩
set_option maxHeartbeats 8000000 in
theorem ints_any (l : List Int) (u v : Value) (w : World) (hu : IntsAt w u l) (hv : IntsAt w v l) (_hl : l.length ≤ 1000000) :
    Calls Tryz.prog 23 #[u, v] w fun e w' => e = .returned (.bool true) ∧ Below w.heap.size w w' := by
  have HU := Lib.hid hu
  have HV := Lib.hid hv
  obtain ⟨p, cap, rfl, hl1, hc, hrow⟩ := hu
  obtain ⟨q, cap2, rfl, hl2, hc2, hrow2⟩ := hv
  unfold maxLen at hc hc2
  clear hrow hrow2
  go_enter Tryz.func23, Tryz.ntmps23
  go_wp2
  go_loopw [5] (fun i wr => ∃ k : Nat, k ≤ l.length ∧ i = .int .i64 k ∧ Hid (Below w.heap.size w wr)) (fun i _ => l.length - (RowKit.intOf i).toNat)
  case atStart => exact ⟨0, Nat.zero_le _, rfl, Below.refl _ _⟩
  case round =>
    obtain ⟨k, hk, rfl, HB⟩ := hrel
    by_cases hlt : k < l.length
    · have hki : (k : Int) < (l.length : Int) := by omega
      have hk0 : (0 : Int) ≤ (k : Int) := by omega
      obtain ⟨A, rfl, x0⟩ := HU.out.cell HB.out hlt
      obtain ⟨A2, rfl, y0⟩ := HV.out.cell HB.out hlt
      generalize l.getD k 0 = x at *
      go_wp2
      go_quiet (fail)
      go_wp2
      go_roundw
      case rel => exact ⟨k + 1, by omega, by go_num, below_next HB.out (below_drawn _ _)⟩
      case measure => simp [RowKit.intOf]; omega
    · have hki : ¬ (k : Int) < (l.length : Int) := by omega
      go_wp2
      go_ret
      exact ⟨rfl, HB.out⟩
end Go.Proofs.YtnkpjkomokkhcaaGreatDoor
namespace Go.Proofs.YtnkpjkomokkhcaaGreatDoor
open Go Go.RowKit Go.Lib
set_option maxRecDepth 100000
end Go.Proofs.YtnkpjkomokkhcaaGreatDoor
namespace Go.Proofs.YtnkpjkomokkhcaaGreatDoor
open Go Go.RowKit Go.Lib
set_option maxRecDepth 100000
theorem rlsTo_cons {x : Rl} (hx : rlE x = 0) (R : List Rl) : ∀ k, rlsTo (x :: R) (k + 1) = rlsTo R k
  | 0 => by
    show (if rlsTo (x :: R) 0 ≠ 0 then _ else rlE x) = 0
    rw [if_neg (by simp [rlsTo]), hx]
  | k + 1 => by
    have ih := rlsTo_cons hx R k
    show (if rlsTo (x :: R) (k + 1) ≠ 0 then rlsTo (x :: R) (k + 1) else rlE ((x :: R).getD (k + 1) _)) = if rlsTo R k ≠ 0 then rlsTo R k else rlE (R.getD k _)
    rw [ih]
    rfl
theorem rlsE_cons {x : Rl} {R : List Rl} (hx : rlE x = 0) (hl : R.length < 64) (h : rlsE R = 0) : rlsE (x :: R) = 0 := by
  unfold rlsE at h ⊢
  rw [if_neg (by omega)] at h
  rw [if_neg (by rw [List.length_cons]; omega), List.length_cons, rlsTo_cons hx]
  exact h
theorem brE_cons {x : Rl} {R : List Rl} {l : List Pc} (hx : rlE x = 0) (hl : R.length < 64) (h : rlsE R = 0) (hc : checkE l = 0) : brE (x :: R) l = 0 := by
  unfold brE
  rw [if_neg (by rw [rlsE_cons hx hl h]; simp)]
  exact hc
theorem brR_of {R : List Rl} {l : List Pc} (h : brE R l = 0) : brR R l = brksL R (unsL l) := by unfold brR; rw [if_pos h]
/-- the rule that fits nowhere in a list without the sign %: %a, %%, %h, %% -/
def rPct : Rl := ⟨⟨#[37, 97, 37, 37, 37, 104, 37, 37]⟩, ⟨#[]⟩, true⟩
def rAll (k : Bool) : Rl := ⟨⟨#[]⟩, ⟨#[]⟩, k⟩
theorem pct_ok : rlE rPct = 0 := by decide +kernel
theorem all_ok (k : Bool) : rlE (rAll k) = 0 := by cases k <;> decide +kernel
theorem pct_items : items rPct.b = [⟨true, 97⟩, ⟨true, 37⟩, ⟨true, 104⟩, ⟨true, 37⟩] := by rfl
theorem pct_no {L : List Un} (h : ∀ u ∈ L, u.h = false → u.r ≠ 37) (p : Nat) : rlFits rPct L p = false := by
  unfold rlFits
  rw [pct_items]
  have hb : ∀ q, behB L q [⟨true, 97⟩, ⟨true, 37⟩, ⟨true, 104⟩, ⟨true, 37⟩] = false := by
    intro q
    have h1 : (decide (q + 1 < L.length) && oneB ⟨true, 37⟩ (L.getD (q + 1) nilU)) = false := by
      by_cases hq : q + 1 < L.length
      · have hm : L.getD (q + 1) nilU ∈ L := by rw [List.getD_eq_getElem?_getD, List.getElem?_eq_getElem hq]; exact List.getElem_mem hq
        have hu := h _ hm
        generalize L.getD (q + 1) nilU = u at *
        show (_ && (!u.h && decide (u.r = 37))) = false
        cases hh : u.h
        · simp [hu hh]
        · simp
      · simp [hq]
    show (decide (q < L.length) && _ && (decide (q + 1 < L.length) && oneB ⟨true, 37⟩ (L.getD (q + 1) nilU) && _)) = false
    rw [h1]
    simp
  rw [hb]
  simp
theorem brks_pct {L : List Un} (h : ∀ u ∈ L, u.h = false → u.r ≠ 37) (R : List Rl) : brksL (rPct :: R) L = brksL R L := by
  unfold brksL
  congr 1
  funext p
  show (_ && if rlFits rPct L p = true then _ else rlBreak R L p) = _
  rw [if_neg (by rw [pct_no h]; simp)]
theorem all_fits (k : Bool) (L : List Un) (p : Nat) : rlFits (rAll k) L p = true := by
  unfold rlFits
  rw [show items (rAll k).b = [] by rfl, show items (rAll k).a = [] by rfl]
  simp [ftW, behB]
theorem brks_all (k : Bool) (R : List Rl) (L : List Un) : brksL (rAll k :: R) L = if k = true then (List.range L.length).filter (fun p => decide (0 < p)) else [] := by
  have e : ∀ p, rlBreak (rAll k :: R) L p = k := fun p => by
    show (if rlFits (rAll k) L p = true then k else _) = k
    rw [if_pos (all_fits k L p)]
  unfold brksL
  cases k
  · simp [e]
  · rw [if_pos rfl]
    congr 1
    funext p
    rw [e]
    simp
theorem pos_range : ∀ n : Nat, (List.range n).filter (fun p => decide (0 < p)) = (List.range (n - 1)).map (· + 1)
  | 0 => rfl
  | 1 => rfl
  | n + 2 => by
    rw [List.range_succ, List.filter_append, pos_range (n + 1), show n + 2 - 1 = (n + 1 - 1) + 1 by omega, List.range_succ, List.map_append]
    simp
theorem brks_one (R : List Rl) (L : List Un) : brksL (rAll true :: R) L = (List.range (L.length - 1)).map (· + 1) := by rw [brks_all, if_pos rfl, pos_range]
theorem brks_none (R : List Rl) (L : List Un) : brksL (rAll false :: R) L = [] := by rw [brks_all]; rfl
/-- breaks lie inside of the list, one behind another -/
theorem brks_in {R : List Rl} {L : List Un} {i : Nat} (hi : i < (brksL R L).length) : 1 ≤ (brksL R L).getD i 0 ∧ (brksL R L).getD i 0 + 1 ≤ L.length := by
  rw [List.getD_eq_getElem?_getD, List.getElem?_eq_getElem hi]
  have hm : (brksL R L)[i] ∈ brksL R L := List.getElem_mem hi
  show 1 ≤ (brksL R L)[i] ∧ (brksL R L)[i] + 1 ≤ L.length
  generalize (brksL R L)[i] = q at hm
  unfold brksL at hm
  rw [List.mem_filter, List.mem_range] at hm
  simp only [Bool.and_eq_true, decide_eq_true_eq] at hm
  omega
theorem brks_up {R : List Rl} {L : List Un} {i : Nat} (hi : i + 1 < (brksL R L).length) : (brksL R L).getD i 0 < (brksL R L).getD (i + 1) 0 := by
  have hs : (brksL R L).Pairwise (· < ·) := by
    unfold brksL
    exact List.Pairwise.filter _ List.pairwise_lt_range
  rw [List.getD_eq_getElem?_getD, List.getD_eq_getElem?_getD, List.getElem?_eq_getElem hi, List.getElem?_eq_getElem (by omega)]
  exact List.pairwise_iff_getElem.1 hs i (i + 1) (by omega) hi (by omega)
/-- no text of a list has the sign % -/
def noPct (l : List Pc) : Prop := ∀ x ∈ l, x.k = 1 → ∀ b ∈ x.s.data.toList, b ≠ 37
theorem pct_runes {s : ByteArray} (ht : textB s = true) (h : ∀ b ∈ s.data.toList, b ≠ 37) : ∀ r ∈ runesOf s, r ≠ 37 := by
  rintro r hr rfl
  have hv : validD s.data.toList = true := by rw [text_of, Bool.and_eq_true] at ht; exact ht.1
  have he := (enc_iff s.data.toList.length s.data.toList (Nat.le_refl _)).2 hv
  have hm : (37 : UInt8) ∈ encAll (runesOf s) := by
    unfold encAll
    refine List.mem_flatMap.2 ⟨37, hr, ?_⟩
    decide
  have e : encAll (runesOf s) = s.data.toList := he
  rw [e] at hm
  exact h _ hm rfl
theorem pct_units {l : List Pc} (hv : ∀ x ∈ l, pieceE x = 0) (h : noPct l) : ∀ u ∈ unsL l, u.h = false → u.r ≠ 37 := by
  intro u hu hh
  unfold unsL at hu
  obtain ⟨x, hx, hux⟩ := List.mem_flatMap.1 hu
  unfold unsP at hux
  split at hux
  · rw [List.mem_singleton.1 hux] at hh
    cases hh
  · split at hux
    · rename_i h1
      obtain ⟨r, hr, rfl⟩ := List.mem_map.1 hux
      have hp := hv x hx
      have ht : textB x.s = true := by
        unfold pieceE at hp
        split at hp
        · cases hp
        · split at hp
          · cases hp
          · try rw [if_pos h1] at hp
            split at hp
            · cases hp
            · rename_i h4
              cases htx : textB x.s
              · exact absurd (.inr htx) h4
              · rfl
      exact pct_runes ht (h x hx h1) r hr
    · cases hux
end Go.Proofs.YtnkpjkomokkhcaaGreatDoor
namespace Go.Proofs.YtnkpjkomokkhcaaGreatDoor
open Go Go.RowKit Go.Lib
set_option maxRecDepth 100000
theorem run_app_none {P : Program} {w : World} (base : Nat) (t ty e : TypeId) (i : TypeInfo) (size : Nat) (ht : P.underlying t = some (.slice e)) (hi : P.info? e = some i)
    (v : Value) (n c : Nat) (xs : List Value) (hown : w.ownsRow base e size v n xs) :
    (Builtin.append_ #[t, t] ty #[v, .slice none 0 c]).run P w = .ok v w := by
  rcases hown.2 with ⟨rfl, rfl⟩ | ⟨g, cap, cur, rfl, _, _, hnc, _⟩
  · simp [Builtin.append_, run_underlying ht, sizeOf, typeInfo, hi, Builtin.lenOf, Builtin.firstCells]
  · simp [Builtin.append_, run_underlying ht, sizeOf, typeInfo, hi, Builtin.lenOf, Builtin.firstCells, hnc, storeCells]
/-- append to a row of the call's own, whatever the shape of what is appended -/
theorem app_anyZ {P : Program} (w : World) {ops : Array Oper} {rest : List Oper} {o : Oper} {a : Act} {Q : Exit → Act → World → Prop} (hgd : o.guard = none) (s x : Operand) (t : TypeId)
    (ho : o.op = .call { callee := .builtin .append, args := #[s, x], argTypes := #[t, t] })
    (base : Nat) (e : TypeId) (i : TypeInfo) (z : Value) (size bytes : Nat) (ht : P.underlying t = some (.slice e)) (hi : P.info? e = some i) (hz : i.zero = some z)
    (hsize : i.size = size) (hby : i.bytes = bytes) (hzs : z.cells.size = size) (hsz : 0 < size)
    (v : Value) (n : Nat) (xs : List Value) (hs : a.eval s = v) (hown : w.ownsRow base e size v n xs)
    (ao : Option Addr) (m c : Nat) (news : List Value) (hx : a.eval x = .slice ao m c) (hl : news.length = m * size) (hnone : ao = none → m = 0) (hnews : ∀ ad, ao = some ad → ∀ j u, news[j]? = some u → w.cell? (ad.add j) = some u) (h1 : ∀ u ∈ news, u.oneCell' = true)
    (h63 : n + m ≤ maxLen) (hbytes : (n + m) * bytes ≤ 140737488355328) (hbase : base ≤ w.heap.size)
    (h : ∀ v' w', w'.ownsRow base e size v' (n + m) (xs ++ news) → w.grownBy w' v.ownBlock → wpList P ops Q rest (a.put o.dst v') w') : wpList P ops Q (o :: rest) a w := by
  cases ao with
  | some ad => exact wpList_append_own _ hgd s x t ho base e i z size bytes ht hi hz hsize hby hzs hsz v n xs hs hown ad m c news hx hl (hnews ad rfl) h1 h63 hbytes hbase (fun v' w' h1 h2 _ => h v' w' h1 h2)
  | none =>
    have hm := hnone rfl
    subst hm
    have hn0 : news = [] := List.eq_nil_of_length_eq_zero (by rw [hl, Nat.zero_mul])
    subst hn0
    refine wpList_plain hgd fun K hK => ?_
    have hrun := run_app_none (P := P) (w := w) base t o.type e i size ht hi v n c xs hown
    unfold Oper.wp
    simp [execOp, ho, resolve, invoke, builtin, hs, hx, hrun, Result.andThen]
    exact hK _ _ (h v w (by simpa using hown) (World.grownBy.refl _ _))
def cellsR (R : List Rl) : List Value := R.flatMap fun x => [.string x.b, .string x.a, .bool x.k]
theorem cellsR_len (R : List Rl) : (cellsR R).length = R.length * 3 := by
  unfold cellsR
  induction R with
  | nil => rfl
  | cons x R ih => rw [List.flatMap_cons, List.length_append, ih, List.length_cons]; simp; omega
theorem cellsR_get (R : List Rl) (i j : Nat) (hi : i < R.length) (hj : j < 3) : (cellsR R)[i * 3 + j]? = some (rF R i j) := by
  unfold cellsR
  rw [flat_get _ 3 (fun _ => rfl) nilR R i j hi hj]
  match j, hj with
  | 0, _ => rfl
  | 1, _ => rfl
  | 2, _ => rfl
theorem cellsR_one (R : List Rl) : ∀ u ∈ cellsR R, u.oneCell' = true := by
  intro u hu
  unfold cellsR at hu
  obtain ⟨x, _, hx⟩ := List.mem_flatMap.1 hu
  simp at hx
  rcases hx with rfl | rfl | rfl <;> rfl
theorem rules_own {B : Nat} {v : Value} {R : List Rl} {w : World} (h : w.ownsRow B 47 3 v R.length (cellsR R)) : RulesAt w v R := own_at h fun i j hi hj => cellsR_get R i j hi hj
/-- what an append takes from rules -/
theorem rules_src {w : World} {p : Option Addr} {cap : Nat} {R : List Rl} (h : RulesAt w (.slice p R.length cap) R) :
    (p = none → R.length = 0) ∧ ∀ ad, p = some ad → ∀ j u, (cellsR R)[j]? = some u → w.cell? (ad.add j) = some u := by
  obtain ⟨p', cap', e, h1, h2, h3⟩ := h
  obtain ⟨rfl, _, rfl⟩ : p = p' ∧ R.length = R.length ∧ cap = cap' := by simpa using e
  refine ⟨fun hp => ?_, fun ad hp j u hu => ?_⟩
  · rcases Nat.eq_zero_or_pos R.length with h0 | h0
    · exact h0
    · obtain ⟨A, hA, _⟩ := h3 h0
      rw [hp] at hA; cases hA
  · have hj := (List.getElem?_eq_some_iff.1 hu).1
    rw [cellsR_len] at hj
    obtain ⟨A, hA, _, hc⟩ := h3 (by omega)
    rw [hp] at hA
    obtain rfl := Option.some.inj hA
    have h5 := hc (j / 3) (j % 3) (by omega) (by omega)
    rw [show j / 3 * 3 + j % 3 = j by omega] at h5
    have h6 := cellsR_get R (j / 3) (j % 3) (by omega) (by omega)
    rw [show j / 3 * 3 + j % 3 = j by omega, hu] at h6
    rw [h5, Option.some.inj h6]
theorem info_rl : (Tryz.prog.info? 47).map (fun i => (i.zero, i.size, i.bytes)) = some (some (.agg #[.string ⟨#[]⟩, .string ⟨#[]⟩, .bool false]), 3, 40) := by kernel_rfl
theorem own_lit1 {w : World} {B : Nat} (hB : B ≤ w.heap.size) (x : Rl) : (w.alloc (.cells #[.string x.b, .string x.a, .bool x.k] 47)).ownsRow B 47 3 (.slice (some ⟨w.heap.size, 0, none⟩) 1 1) 1 (cellsR [x]) :=
  World.ownsRow_lit (base := B) (size := 3) (e := 47) w #[.string x.b, .string x.a, .bool x.k] 1 hB (by unfold maxLen; omega) rfl
end Go.Proofs.YtnkpjkomokkhcaaGreatDoor
namespace Go.Proofs.YtnkpjkomokkhcaaGreatDoor
open Go Go.RowKit Go.Lib
set_option maxRecDepth 100000
def neP (c : Int) : Bool := decide (c ≠ 37)
def PcIn (l : List Pc) (k j : Nat) (b : Bool) : Prop := b = false → noPct (l.take k) ∧ ((l.getD k nil).k = 1 → upTo neP (l.getD k nil).s j)
theorem PcIn.start {l : List Pc} {k : Nat} {b : Bool} (h : b = false → noPct (l.take k)) : PcIn l k 0 b := fun hb => ⟨h hb, fun _ => upTo_zero _ _⟩
theorem PcIn.stay {l : List Pc} {k j : Nat} (h : PcIn l k j false) (hk : (l.getD k nil).k ≠ 1) : PcIn l k (j + 1) false := fun hb => ⟨(h hb).1, fun h1 => absurd h1 hk⟩
theorem PcIn.next {l : List Pc} {k j : Nat} (h : PcIn l k j false) (hj : j < (l.getD k nil).s.size) (hc : ((l.getD k nil).s[j].toNat : Int) ≠ 37) : PcIn l k (j + 1) false := fun hb => ⟨(h hb).1, fun h1 => upTo_succ ((h hb).2 h1) hj (by unfold neP; simpa using hc)⟩
theorem PcIn.seen {l : List Pc} {k j : Nat} : PcIn l k j true := fun hb => by cases hb
theorem PcIn.out {l : List Pc} {k j : Nat} {b : Bool} (h : PcIn l k j b) (hk : k < l.length) (hj : (l.getD k nil).s.size ≤ j) : b = false → noPct (l.take (k + 1)) := by
  intro hb
  obtain ⟨h1, h2⟩ := h hb
  rw [take_succ_getD l k hk]
  intro x hx
  rcases List.mem_append.1 hx with hx | hx
  · exact h1 x hx
  · rw [List.mem_singleton.1 hx]
    intro hk1 b hb
    have ha := allB_true (h2 hk1) hj
    unfold allB at ha
    rw [List.all_eq_true] at ha
    have := ha b hb
    rintro rfl
    revert this
    decide
theorem pcs_get {w wr : World} {p : Option Addr} {cap : Nat} {l : List Pc} (h : PcsAt w (.slice p l.length cap) l) (hb : Below w.heap.size w wr) {k : Nat} (hk : k < l.length) : ∃ A, p = some A ∧ wr.cell? (A.add (k * 3)) = some (.int .u8 (l.getD k nil).k) ∧ wr.cell? { block := (A.add (k * 3)).block, off := (A.add (k * 3)).off + 1 } = some (.string (l.getD k nil).s) ∧ True := by
  obtain ⟨q, c, e, _, _, h3⟩ := h
  injection e with e1 e2 e3
  subst e1
  obtain ⟨A, rfl, hA, hc⟩ := h3 (by omega)
  obtain ⟨x0, x1, _⟩ := pcs_cells hA hc hk hb
  exact ⟨A, rfl, x0, x1, trivial⟩
theorem cast_get (us : List Nat) (i : Nat) : (us.map fun p : Nat => (p : Int)).getD i 0 = ((us.getD i 0 : Nat) : Int) := by
  rw [List.getD_eq_getElem?_getD, List.getD_eq_getElem?_getD, List.getElem?_map]
  cases us[i]? <;> rfl
theorem ints_len {w : World} {p : Option Addr} {cap : Nat} {us : List Nat} {L : List Int} (h : IntsAt w (.slice p (us.map fun p : Nat => (p : Int)).length cap) L) : IntsAt w (.slice p us.length cap) L := by rwa [List.length_map] at h
theorem ints_cast {w wr : World} {p : Option Addr} {cap : Nat} {us : List Nat} (h : IntsAt w (.slice p us.length cap) (us.map fun p : Nat => (p : Int))) (hb : Below w.heap.size w wr) {i : Nat} (hi : i < us.length) : ∃ A, p = some A ∧ wr.cell? (A.add i) = some (.int .i64 ((us.getD i 0 : Nat) : Int)) := by
  have h' : IntsAt w (.slice p (us.map fun p : Nat => (p : Int)).length cap) (us.map fun p : Nat => (p : Int)) := by rw [List.length_map]; exact h
  obtain ⟨A, e, x⟩ := h'.cell hb (i := i) (by rw [List.length_map]; exact hi)
  rw [cast_get] at x
  exact ⟨A, e, x⟩
theorem ones_get {n i : Nat} (h : i < n - 1) : ((List.range (n - 1)).map (· + 1)).getD i 0 = i + 1 := by
  rw [List.getD_eq_getElem?_getD, List.getElem?_map, List.getElem?_range h]
  rfl
set_option maxHeartbeats 64000000 in
theorem fits_law (R : List Rl) (l : List Pc) (vR v : Value) (w : World) (hr : RulesAt w vR R) (hv : PcsAt w v l)
    (hRz : ∀ x ∈ R, x.b.size ≤ 140737488355328 ∧ x.a.size ≤ 140737488355328) (hRl : R.length ≤ 140737488355328) (hsz : ∀ x ∈ l, x.s.size ≤ 140737488355328) (hll : l.length ≤ 140737488355328) (hT : Tabs w) (hC : ClsAt clsR w)
    (hR : ∀ w', Below w.heap.size w w' → Calls Tryz.prog 8 #[] w' fun e w'' => e = .returned (.bool true) ∧ Below w'.heap.size w' w'') :
    Calls Tryz.prog 6 #[vR, v] w fun e w' => e = .returned (.bool true) ∧ Below w.heap.size w w' := by
  have ar := Tryz.isAgg47
  have zr := Tryz.sizeOf47
  have ag := Tryz.isAgg52
  have zg := Tryz.sizeOf52
  have cS := strict_any R vR w hr hRz hRl
  have cL := fun w1 (h : Below w.heap.size w w1) => long_any l v w1.heap.size (w1.alloc (.cells #[v] 22)) (by rw [Lib.cell_of_heap (heap_alloc_new w1 _)]; rfl) ((hv.step h).step (below_box _)) hsz hll
  have hg : 5 ≤ w.heap.size := hT.2.2
  have HRu := Lib.hid hr
  have HVu := Lib.hid hv
  obtain ⟨p, cap, rfl, hl, hc, _⟩ := id hv
  obtain ⟨pR, capR, rfl, hlR, hcR, _⟩ := id hr
  have HSR := Lib.hid (rules_src hr).1
  unfold maxLen at hc hcR
  by_cases h1 : 600 < strM R (min 100 R.length)
  · have HS := Lib.hid (show decide (600 < strM R (min 100 R.length)) = true by simpa using h1)
    clear hv hr hT hC
    go_enter Tryz.func6, Tryz.ntmps6
    go_wp2_with (first
      | (go_at_call 16; (with_reducible refine cS.mono ?_); rintro e w1 ⟨he, hb1⟩; unfold StrEnd at he; rw [HS.out] at he; subst he; have HB1 := Lib.hid hb1; clear hb1)
      | (go_at_call 8; (with_reducible refine (hR _ HB1.out).mono ?_); rintro e w99 ⟨rfl, hb99⟩; have HB99 := Lib.hid (below_next HB1.out hb99); clear hb99))
    go_ret
    exact ⟨rfl, HB99.out⟩
  · have HS := Lib.hid (show decide (600 < strM R (min 100 R.length)) = false by simpa using h1)
    by_cases h3 : bulk l ≤ 2500
    · have cPl := fun wr (h : Below w.heap.size w wr) => refPlain_any l _ wr (hv.step h) (by omega)
      have hZ : SzR R := strM_sz (by omega)
      have cU2 := fun wr (h : Below w.heap.size w wr) => refUnits_any l _ wr (hv.step h) (by omega)
      have cK2 := fun wr (h : Below w.heap.size w wr) => sCheckBreaks_any R _ wr (hr.step h) hZ
      have cC2 := fun wr (h : Below w.heap.size w wr) => refCheck_any l _ wr (hv.step h) (by omega)
      have cB := fun R' vr wr (h : Below w.heap.size w wr) (h2 : RulesAt wr vr R') (h3 : SzR R') => breaks_any R' l vr _ wr h2 h3 (hv.step h) (by omega) (hT.step h) (hC.below h (by omega))
      clear hv hT hC
      by_cases hP : 400 < (bytes (plainB l)).size
      · have hPI : (400 : Int) < ((bytes (plainB l)).size : Int) := by omega
        generalize bytes (plainB l) = s at *
        go_enter Tryz.func6, Tryz.ntmps6
        go_wp2_with (first
          | (go_at_call 16; (with_reducible refine cS.mono ?_); rintro e w1 ⟨he, hb1⟩; unfold StrEnd at he; rw [HS.out] at he; subst he; have HB1 := Lib.hid hb1; clear hb1)
          | (go_at_call 7; (with_reducible refine (cL _ HB1.out).mono ?_); rintro e w2 ⟨⟨b, rfl, hbb⟩, hw⟩; obtain rfl := hw.symm; have HB2 := Lib.hid (below_next HB1.out (below_box (w := w1) (.cells #[.slice p l.length cap] 22))); cases b)
          | (go_at_call 17; (with_reducible refine (cPl _ HB2.out).mono ?_); rintro e w3 ⟨rfl, hw⟩; obtain rfl := hw.symm)
          | (go_at_call 8; (with_reducible refine (hR _ HB2.out).mono ?_); rintro e w99 ⟨rfl, hb99⟩; have HB99 := Lib.hid (below_next HB2.out hb99); clear hb99))
        all_goals
          go_ret
          exact ⟨rfl, HB99.out⟩
      · have hPI : ¬ (400 : Int) < ((bytes (plainB l)).size : Int) := by omega
        generalize bytes (plainB l) = s at *
        by_cases hE : rlsE R = 0
        · simp only [hE] at cK2
          by_cases hCk : checkE l = 0
          · simp only [hCk] at cC2 cU2
            by_cases h64 : R.length < 64
            · have h64I : ¬ (64 : Int) ≤ (R.length : Int) := by omega
              have hSz : ∀ x : Rl, x.b.size ≤ 100000 ∧ x.a.size ≤ 100000 → SzR (x :: R) := fun x hx _ y hy => by
                rcases List.mem_cons.1 hy with rfl | hy
                · exact hx
                · exact hZ (by omega) y hy
              have c1 := cB R (.slice pR R.length capR)
              rw [show brE R l = 0 by unfold brE; rw [if_neg (by simp [hE])]; exact hCk, brR_of (show brE R l = 0 by unfold brE; rw [if_neg (by simp [hE])]; exact hCk)] at c1
              have c2 := fun vr wr h h2 => cB (rPct :: R) vr wr h h2 (hSz _ (by decide))
              rw [brE_cons pct_ok h64 hE hCk, brR_of (brE_cons pct_ok h64 hE hCk)] at c2
              have c3 := fun vr wr h h2 => cB (rAll true :: R) vr wr h h2 (hSz _ (by decide))
              rw [brE_cons (all_ok true) h64 hE hCk, brR_of (brE_cons (all_ok true) h64 hE hCk), brks_one] at c3
              have c4 := fun vr wr h h2 => cB (rAll false :: R) vr wr h h2 (hSz _ (by decide))
              rw [brE_cons (all_ok false) h64 hE hCk, brR_of (brE_cons (all_ok false) h64 hE hCk), brks_none] at c4
              have HPC := Lib.hid (fun h => brks_pct (pct_units (valid_mem hCk) h) R)
              have hun : unE l = (unsL l).length := by unfold unE; rw [if_pos hCk, uns_len]
              have hul : (unsL l).length ≤ 2500 := by
                have h2 := sum_un l
                rw [uns_len]
                unfold nUnits
                omega
              rw [hun] at cU2
              have HBI := Lib.hid (fun i h => @brks_in R (unsL l) i h)
              have HBU := Lib.hid (fun i h => @brks_up R (unsL l) i h)
              have hbl : (brksL R (unsL l)).length ≤ (unsL l).length := by
                unfold brksL
                have := List.length_filter_le (fun p => decide (0 < p) && rlBreak R (unsL l) p) (List.range (unsL l).length)
                rw [List.length_range] at this
                exact this
              obtain ⟨i0, hi0, hz0, hz1, hz2⟩ := info_parts2 info_rl
              clear cB hr hun hSz
              have hbl2 : (brksL R (unsL l)).length ≤ 1000000 := by omega
              generalize brksL (rPct :: R) (unsL l) = A2 at *
              generalize brksL R (unsL l) = A1 at *
              generalize (unsL l).length = n at *
              have hA1 : (A1.map fun p : Nat => (p : Int)).length ≤ 1000000 := by rw [List.length_map]; exact hbl2
              obtain ⟨C, hC⟩ : ∃ C : List Int, C = ((List.range (n - 1)).map (· + 1)).map fun p : Nat => (p : Int) := ⟨_, rfl⟩
              rw [← hC] at c3
              have hCl : C.length = n - 1 := by rw [hC]; simp
              have HCG := Lib.hid (show ∀ i, i < C.length → C.getD i 0 = ((i + 1 : Nat) : Int) from fun i hi => by rw [hC, cast_get, ones_get (by omega)])
              obtain ⟨N, hN⟩ : ∃ N : Int, N = (n : Int) - 1 := ⟨_, rfl⟩
              have hmx : max N 0 = ((C.length : Nat) : Int) := by omega
              have hw1 : IntKind.i64.wrap ((n : Int) - 1) = N := by rw [IntKind.wrap_i64]; omega
              have HNN2 := Lib.hid hN
              clear hN
              have hCb : C.length ≤ 2500 := by omega
              clear hC hCl
              go_enter Tryz.func6, Tryz.ntmps6
              go_wp2_with (first
                | (go_at_call 16; (with_reducible refine cS.mono ?_); rintro e w1 ⟨he, hb1⟩; unfold StrEnd at he; rw [HS.out] at he; subst he; have HB1 := Lib.hid hb1; clear hb1)
                | (go_at_call 7; (with_reducible refine (cL _ HB1.out).mono ?_); rintro e w2 ⟨⟨b, rfl, hbb⟩, hw⟩; obtain rfl := hw.symm; have HB2 := Lib.hid (below_next HB1.out (below_box (w := w1) (.cells #[.slice p l.length cap] 22))); cases b)
                | (go_at_call 17; (with_reducible refine (cPl _ HB2.out).mono ?_); rintro e w3 ⟨rfl, hw⟩; obtain rfl := hw.symm)
                | (go_at_call 20; (with_reducible refine (cK2 _ HB2.out).mono ?_); rintro e w3 ⟨rfl, hb3⟩; have HB3 := Lib.hid (below_next HB2.out hb3); clear hb3)
                | (go_at_call 26; (with_reducible refine (cC2 _ HB3.out).mono ?_); rintro e w4 ⟨rfl, hb4⟩; have HB4 := Lib.hid (below_next HB3.out hb4); clear hb4)
                | (go_at_call 8; (with_reducible refine (hR _ HB2.out).mono ?_); rintro e w99 ⟨rfl, hb99⟩; have HB99 := Lib.hid (below_next HB2.out hb99); clear hb99)
                | (go_at_call 21; (with_reducible refine (c1 _ HB4.out (HRu.out.step HB4.out) hZ).mono ?_); rintro e w5 ⟨⟨u5, rfl, hu5⟩, hb5⟩; have HU5 := Lib.hid hu5; obtain ⟨q5, c5, rfl, _, _⟩ := hu5.form; have HB5 := Lib.hid (below_next HB4.out hb5); have HBB5 := Lib.hid hb5; clear hb5 hu5)
                | (at_builtin; refine app_anyZ _ rfl _ _ 38 rfl w5.heap.size 47 i0 _ 3 40 Tryz.underlying38 hi0 hz0 hz1 hz2 rfl (by decide) (.slice (some ⟨w5.heap.size, 0, none⟩) 1 1) 1 (cellsR [rPct]) rfl (own_lit1 (Nat.le_refl _) rPct) pR R.length capR (cellsR R) rfl (cellsR_len R) HSR.out (fun ad h => (rules_src ((HRu.out.step HB5.out).step (below_box (w := w5) (.cells #[.string ⟨#[37, 97, 37, 37, 37, 104, 37, 37]⟩, .string ⟨#[]⟩, .bool true] 47)))).2 ad h) (cellsR_one R) (by unfold maxLen; omega) (by omega) (by simp) ?_; intro v6 w6 hown6 hgrow6
                   have HR6 := Lib.hid (rules_own (R := rPct :: R) (by rw [List.length_cons, Nat.add_comm]; exact hown6))
                   have HBB6 := Lib.hid (show Below w5.heap.size w5 w6 from (below_box (w := w5) (.cells #[.string ⟨#[37, 97, 37, 37, 37, 104, 37, 37]⟩, .string ⟨#[]⟩, .bool true] 47)).grown hgrow6 (by simp) (fun k hk => (own_lit1 (Nat.le_refl _) rPct |>.lt k (by simpa [Value.ownBlock] using hk)).1))
                   have HB6 := Lib.hid (below_next HB5.out HBB6.out)
                   obtain ⟨q6, c6, rfl⟩ := own_slice hown6
                   clear hown6 hgrow6)
                | (go_at_call 21; (with_reducible refine (c2 _ _ HB6.out HR6.out).mono ?_); rintro e w7 ⟨⟨u7, rfl, hu7⟩, hb7⟩; have HU7 := Lib.hid hu7; obtain ⟨q7, c7, rfl, _, _⟩ := hu7.form; have HB7 := Lib.hid (below_next HB6.out hb7); have HBB7 := Lib.hid hb7; clear hb7 hu7)
                | (go_at_call 14; (with_reducible refine (cU2 _ HB7.out).mono ?_); rintro e w8 ⟨rfl, hb8⟩; have HB8 := Lib.hid (below_next HB7.out hb8); have HU58 := Lib.hid (HU5.out.step (below_next (below_next HBB6.out HBB7.out) hb8)); have HU78 := Lib.hid (HU7.out.step hb8); clear hb8))
              · have HV8 := Lib.hid (HVu.out.step HB8.out)
                clear cS cL cPl cK2 cC2 c1 c2 hbb HVu
                go_loopw [11, 12] (fun s i wr => ∃ (b : Bool) (k : Nat), s = .bool b ∧ i = .int .i64 k ∧ k ≤ l.length ∧ Hid (b = false → noPct (l.take k)) ∧ Hid (Below w8.heap.size w8 wr)) (fun _ i _ => l.length - (RowKit.intOf i).toNat)
                case atStart => exact ⟨false, 0, rfl, rfl, Nat.zero_le _, show false = false → noPct (l.take 0) from fun _ x hx => (by simp at hx), Below.refl _ _⟩
                case round =>
                  obtain ⟨b, k, rfl, rfl, hk, HN, HX8⟩ := hrel
                  by_cases hlt : k < l.length
                  · have hki : (k : Int) < (l.length : Int) := by omega
                    have hk0 : (0 : Int) ≤ (k : Int) := by omega
                    have HS1 := Lib.hid (PcIn.start HN.out)
                    have hsz1 := bulk_getD hlt
                    have HOU := Lib.hid (fun j b h1 h2 => @PcIn.out l k j b h1 hlt h2)
                    obtain ⟨wo, hwo⟩ : ∃ wo, wo = wr := ⟨_, rfl⟩
                    subst hwo
                    clear HN
                    go_wp2
                    go_loopw [11, 13] (fun s i wr => ∃ (b : Bool) (j : Nat), s = .bool b ∧ i = .int .i64 j ∧ j ≤ (l.getD k nil).s.size ∧ Hid (PcIn l k j b) ∧ Hid (Below w8.heap.size w8 wr)) (fun _ i _ => (l.getD k nil).s.size - (RowKit.intOf i).toNat)
                    case atStart => exact ⟨b, 0, rfl, rfl, Nat.zero_le _, HS1.out, HX8.out⟩
                    case round =>
                      clear HX8 HS1
                      obtain ⟨b, j, rfl, rfl, hj, HP, HX⟩ := hrel
                      obtain ⟨A, q, x0, x1, x2⟩ := pcs_get HV8.out HX.out hlt
                      subst q
                      clear x2
                      have HNX := Lib.hid (fun h => @PcIn.next l k j h)
                      have HST := Lib.hid (fun h => @PcIn.stay l k j h)
                      by_cases hjl : j < (l.getD k nil).s.size
                      · have hjx := HNX.out
                        have HPX := Lib.hid (fun (h : PcIn l k j false) (hc : ((l.getD k nil).s[j].toNat : Int) ≠ 37) => PcIn.next h hjl hc)
                        clear hjx HNX
                        generalize l.getD k nil = x at *
                        obtain ⟨xk, xs, xc⟩ := x
                        dsimp only at x0 x1 hjl HPX HST hsz1
                        have hji : (j : Int) < (xs.size : Int) := by omega
                        have hj0 : (0 : Int) ≤ (j : Int) := by omega
                        cases b
                        · by_cases hk1 : xk = 1
                          · subst hk1
                            generalize hc : (xs[j].toNat : Int) = c at HPX
                            by_cases h37 : c = 37
                            · subst h37
                              go_wp2
                              go_roundw
                              case rel => exact ⟨true, j + 1, rfl, by go_num, by omega, PcIn.seen, HX.out⟩
                              case measure => simp [RowKit.intOf]; omega
                            · have HP2 := Lib.hid (HPX.out HP.out h37)
                              go_wp2
                              go_roundw
                              case rel => exact ⟨false, j + 1, by simpa using h37, by go_num, by omega, HP2.out, HX.out⟩
                              case measure => simp [RowKit.intOf]; omega
                          · have hk1b : (xk == 1) = false := by simpa using hk1
                            have HP2 := Lib.hid (HST.out HP.out hk1)
                            go_wp2
                            go_roundw
                            case rel => exact ⟨false, j + 1, rfl, by go_num, by omega, HP2.out, HX.out⟩
                            case measure => simp [RowKit.intOf]; omega
                        · go_wp2
                          go_roundw
                          case rel => exact ⟨true, j + 1, rfl, by go_num, by omega, PcIn.seen, HX.out⟩
                          case measure => simp [RowKit.intOf]; omega
                      · have HN2 := Lib.hid (HOU.out j b HP.out (by omega))
                        clear HNX HST HOU
                        generalize l.getD k nil = x at *
                        obtain ⟨xk, xs, xc⟩ := x
                        dsimp only at x0 x1 hjl hj
                        have hji : ¬ (j : Int) < (xs.size : Int) := by omega
                        go_wp2
                        go_roundw
                        case rel => exact ⟨b, k + 1, rfl, by go_num, by omega, HN2.out, HX.out⟩
                        case measure => simp [RowKit.intOf]; omega
                  · have hki : ¬ (k : Int) < (l.length : Int) := by omega
                    have HNN := Lib.hid (show b = false → noPct l by have := HN.out; rwa [List.take_of_length_le (by omega)] at this)
                    clear HN
                    have HBr := Lib.hid (below_next HB8.out HX8.out)
                    have HU5r := Lib.hid (ints_len (HU58.out.step HX8.out))
                    have HU7r := Lib.hid (ints_len (HU78.out.step HX8.out))
                    cases b
                    · obtain rfl : A1 = A2 := (HPC.out (HNN.out rfl)).symm
                      clear HNN HPC
                      go_wp2_with (first
                        | (go_at_call 23; (with_reducible refine (ints_any _ _ _ _ HU5r.out HU7r.out hA1).mono ?_); rintro e wx ⟨rfl, hbx⟩; have HBX := Lib.hid (below_next HBr.out hbx); have HU5x := Lib.hid (HU5r.out.step hbx); clear hbx)
                        | (at_builtin; refine app_anyZ _ rfl _ _ 38 rfl wx.heap.size 47 i0 _ 3 40 Tryz.underlying38 hi0 hz0 hz1 hz2 rfl (by decide) (.slice (some ⟨wx.heap.size, 0, none⟩) 1 1) 1 (cellsR [(rAll true)]) rfl (own_lit1 (Nat.le_refl _) (rAll true)) pR R.length capR (cellsR R) rfl (cellsR_len R) HSR.out (fun ad h => (rules_src ((HRu.out.step HBX.out).step (below_box (w := wx) (.cells #[.string ⟨#[]⟩, .string ⟨#[]⟩, .bool true] 47)))).2 ad h) (cellsR_one R) (by unfold maxLen; omega) (by omega) (by simp) ?_; intro v10 w10 hown10 hgrow10
                           have HR10 := Lib.hid (rules_own (R := (rAll true) :: R) (by rw [List.length_cons, Nat.add_comm]; exact hown10))
                           have HBB10 := Lib.hid (show Below wx.heap.size wx w10 from (below_box (w := wx) (.cells #[.string ⟨#[]⟩, .string ⟨#[]⟩, .bool true] 47)).grown hgrow10 (by simp) (fun k hk => (own_lit1 (Nat.le_refl _) (rAll true) |>.lt k (by simpa [Value.ownBlock] using hk)).1))
                           have HB10 := Lib.hid (below_next HBX.out HBB10.out)
                           obtain ⟨q10, c10, rfl⟩ := own_slice hown10
                           clear hown10 hgrow10)
                        | (go_at_call 21; (with_reducible refine (c3 _ _ HB10.out HR10.out).mono ?_); rintro e w11 ⟨⟨u11, rfl, hu11⟩, hb11⟩; have HU11 := Lib.hid hu11; obtain ⟨q11, c11, rfl, _, _⟩ := hu11.form; have HB11 := Lib.hid (below_next HB10.out hb11); have HBB11 := Lib.hid hb11; clear hb11 hu11)
                        | (at_builtin; refine app_anyZ _ rfl _ _ 38 rfl w11.heap.size 47 i0 _ 3 40 Tryz.underlying38 hi0 hz0 hz1 hz2 rfl (by decide) (.slice (some ⟨w11.heap.size, 0, none⟩) 1 1) 1 (cellsR [(rAll false)]) rfl (own_lit1 (Nat.le_refl _) (rAll false)) pR R.length capR (cellsR R) rfl (cellsR_len R) HSR.out (fun ad h => (rules_src ((HRu.out.step HB11.out).step (below_box (w := w11) (.cells #[.string ⟨#[]⟩, .string ⟨#[]⟩, .bool false] 47)))).2 ad h) (cellsR_one R) (by unfold maxLen; omega) (by omega) (by simp) ?_; intro v12 w12 hown12 hgrow12
                           have HR12 := Lib.hid (rules_own (R := (rAll false) :: R) (by rw [List.length_cons, Nat.add_comm]; exact hown12))
                           have HBB12 := Lib.hid (show Below w11.heap.size w11 w12 from (below_box (w := w11) (.cells #[.string ⟨#[]⟩, .string ⟨#[]⟩, .bool false] 47)).grown hgrow12 (by simp) (fun k hk => (own_lit1 (Nat.le_refl _) (rAll false) |>.lt k (by simpa [Value.ownBlock] using hk)).1))
                           have HB12 := Lib.hid (below_next HB11.out HBB12.out)
                           obtain ⟨q12, c12, rfl⟩ := own_slice hown12
                           clear hown12 hgrow12)
                        | (go_at_call 21; (with_reducible refine (c4 _ _ HB12.out HR12.out).mono ?_); rintro e w13 ⟨⟨u13, rfl, hu13⟩, hb13⟩; have HU13 := Lib.hid hu13; obtain ⟨q13, c13, rfl, _, _⟩ := hu13.form; have HB13 := Lib.hid (below_next HB12.out hb13); have HBB13 := Lib.hid hb13; clear hb13 hu13))
                      go_loopw [16] (fun i wr => ∃ k : Nat, i = .int .i64 k ∧ k ≤ C.length ∧ Hid (Below w13.heap.size w13 wr)) (fun i _ => C.length - (RowKit.intOf i).toNat)
                      case atStart => exact ⟨0, rfl, Nat.zero_le _, Below.refl _ _⟩
                      case round =>
                        obtain ⟨k, rfl, hk, HY⟩ := hrel
                        by_cases hlt : k < C.length
                        · have hki : (k : Int) < (C.length : Int) := by omega
                          have hk0 : (0 : Int) ≤ (k : Int) := by omega
                          obtain ⟨A, e, x0⟩ := (HU11.out.step (below_next HBB12.out HBB13.out)).cell HY.out hlt
                          subst e
                          rw [HCG.out k hlt] at x0
                          have hw2 : IntKind.i64.wrap ((k : Int) + 1) = ((k + 1 : Nat) : Int) := by rw [IntKind.wrap_i64]; omega
                          go_wp2
                          go_roundw
                          case rel => exact ⟨k + 1, by go_num, by omega, HY.out⟩
                          case measure => simp [RowKit.intOf]; omega
                        · have hki : ¬ (k : Int) < (C.length : Int) := by omega
                          obtain ⟨wy, hwy⟩ : ∃ wy, wy = wr := ⟨_, rfl⟩
                          subst hwy
                          have HU5y := Lib.hid ((HU5x.out.step (below_next (below_next HBB10.out HBB11.out) (below_next HBB12.out HBB13.out))).step HY.out)
                          have HBy := Lib.hid (below_next HB13.out HY.out)
                          go_wp2
                          go_loopw [17] (fun i wr => ∃ k : Nat, i = .int .i64 k ∧ k ≤ A1.length ∧ Hid (Below wy.heap.size wy wr)) (fun i _ => A1.length - (RowKit.intOf i).toNat)
                          case atStart => exact ⟨0, rfl, Nat.zero_le _, Below.refl _ _⟩
                          case round =>
                            obtain ⟨k, rfl, hk, HZ⟩ := hrel
                            by_cases hlt : k < A1.length
                            · have hki : (k : Int) < (A1.length : Int) := by omega
                              have hk0 : (0 : Int) ≤ (k : Int) := by omega
                              obtain ⟨A, e, x0⟩ := ints_cast HU5y.out HZ.out hlt
                              subst e
                              obtain ⟨hq1, hq2⟩ := HBI.out k hlt
                              have hNn := HNN2.out
                              have d1 : decide (((A1.getD k 0 : Nat) : Int) < 1) = false := decide_eq_false (by omega)
                              have d1b : decide (((A1.getD k 0 : Nat) : Int) ≤ 0) = false := decide_eq_false (by omega)
                              have d2 : decide (N < ((A1.getD k 0 : Nat) : Int)) = false := decide_eq_false (by omega)
                              have e1 : ¬ ((A1.getD k 0 : Nat) : Int) < 1 := by omega
                              have e2 : ¬ N < ((A1.getD k 0 : Nat) : Int) := by omega
                              clear hNn
                              by_cases hk00 : k = 0
                              · have d3 : decide (0 < k) = false := decide_eq_false (by omega)
                                clear hk00
                                generalize ((A1.getD k 0 : Nat) : Int) = q at x0 d1 d1b d2 e1 e2
                                clear hq1 hq2
                                go_wp2
                                go_quiet (fail)
                                go_wp2
                                go_roundw
                                case rel => exact ⟨k + 1, by go_num, by omega, below_next HZ.out (below_drawn _ _)⟩
                                case measure => simp [RowKit.intOf]; omega
                              · have d3 : (0 : Int) < (k : Int) := by omega
                                obtain ⟨k', hkk⟩ : ∃ k', k = k' + 1 := ⟨k - 1, by omega⟩
                                subst hkk
                                obtain ⟨A', e, x1⟩ := ints_cast HU5y.out HZ.out (show k' < A1.length by omega)
                                injection e with e
                                subst e
                                have hup := HBU.out k' hlt
                                have hw4 : IntKind.i64.wrap (((k' + 1 : Nat) : Int) - 1) = (k' : Int) := by rw [IntKind.wrap_i64]; omega
                                have hk1 : (k' : Int) < (A1.length : Int) := by omega
                                have hk2 : (0 : Int) ≤ (k' : Int) := by omega
                                have d4 : decide (((A1.getD (k' + 1) 0 : Nat) : Int) ≤ ((A1.getD k' 0 : Nat) : Int)) = false := decide_eq_false (by omega)
                                have e4 : ¬ ((A1.getD (k' + 1) 0 : Nat) : Int) ≤ ((A1.getD k' 0 : Nat) : Int) := by omega
                                generalize ((A1.getD (k' + 1) 0 : Nat) : Int) = q at x0 d1 d1b d2 d4 e1 e2 e4
                                generalize ((A1.getD k' 0 : Nat) : Int) = q' at x1 d4 e4
                                clear hq1 hq2 hup
                                have d5 : decide (0 < k' + 1) = true := decide_eq_true (by omega)
                                generalize hkk : k' + 1 = k at *
                                go_wp2
                                go_quiet (fail)
                                go_wp2
                                go_roundw
                                case rel => exact ⟨k + 1, by go_num, by omega, below_next HZ.out (below_drawn _ _)⟩
                                case measure => simp [RowKit.intOf]; omega
                            · have hki : ¬ (k : Int) < (A1.length : Int) := by omega
                              have HBz := Lib.hid (below_next HBy.out HZ.out)
                              go_wp2_with (go_at_call 8; (with_reducible refine (hR _ HBz.out).mono ?_); rintro e w99 ⟨rfl, hb99⟩; have HB99 := Lib.hid (below_next HBz.out hb99); clear hb99)
                              go_ret
                              exact ⟨rfl, HB99.out⟩
                    · obtain ⟨wx, hwx⟩ : ∃ wx, wx = wr := ⟨_, rfl⟩
                      subst hwx
                      have HBX := HBr
                      have HU5x := HU5r
                      go_wp2_with (first
                        | (at_builtin; refine app_anyZ _ rfl _ _ 38 rfl wx.heap.size 47 i0 _ 3 40 Tryz.underlying38 hi0 hz0 hz1 hz2 rfl (by decide) (.slice (some ⟨wx.heap.size, 0, none⟩) 1 1) 1 (cellsR [(rAll true)]) rfl (own_lit1 (Nat.le_refl _) (rAll true)) pR R.length capR (cellsR R) rfl (cellsR_len R) HSR.out (fun ad h => (rules_src ((HRu.out.step HBX.out).step (below_box (w := wx) (.cells #[.string ⟨#[]⟩, .string ⟨#[]⟩, .bool true] 47)))).2 ad h) (cellsR_one R) (by unfold maxLen; omega) (by omega) (by simp) ?_; intro v10 w10 hown10 hgrow10
                           have HR10 := Lib.hid (rules_own (R := (rAll true) :: R) (by rw [List.length_cons, Nat.add_comm]; exact hown10))
                           have HBB10 := Lib.hid (show Below wx.heap.size wx w10 from (below_box (w := wx) (.cells #[.string ⟨#[]⟩, .string ⟨#[]⟩, .bool true] 47)).grown hgrow10 (by simp) (fun k hk => (own_lit1 (Nat.le_refl _) (rAll true) |>.lt k (by simpa [Value.ownBlock] using hk)).1))
                           have HB10 := Lib.hid (below_next HBX.out HBB10.out)
                           obtain ⟨q10, c10, rfl⟩ := own_slice hown10
                           clear hown10 hgrow10)
                        | (go_at_call 21; (with_reducible refine (c3 _ _ HB10.out HR10.out).mono ?_); rintro e w11 ⟨⟨u11, rfl, hu11⟩, hb11⟩; have HU11 := Lib.hid hu11; obtain ⟨q11, c11, rfl, _, _⟩ := hu11.form; have HB11 := Lib.hid (below_next HB10.out hb11); have HBB11 := Lib.hid hb11; clear hb11 hu11)
                        | (at_builtin; refine app_anyZ _ rfl _ _ 38 rfl w11.heap.size 47 i0 _ 3 40 Tryz.underlying38 hi0 hz0 hz1 hz2 rfl (by decide) (.slice (some ⟨w11.heap.size, 0, none⟩) 1 1) 1 (cellsR [(rAll false)]) rfl (own_lit1 (Nat.le_refl _) (rAll false)) pR R.length capR (cellsR R) rfl (cellsR_len R) HSR.out (fun ad h => (rules_src ((HRu.out.step HB11.out).step (below_box (w := w11) (.cells #[.string ⟨#[]⟩, .string ⟨#[]⟩, .bool false] 47)))).2 ad h) (cellsR_one R) (by unfold maxLen; omega) (by omega) (by simp) ?_; intro v12 w12 hown12 hgrow12
                           have HR12 := Lib.hid (rules_own (R := (rAll false) :: R) (by rw [List.length_cons, Nat.add_comm]; exact hown12))
                           have HBB12 := Lib.hid (show Below w11.heap.size w11 w12 from (below_box (w := w11) (.cells #[.string ⟨#[]⟩, .string ⟨#[]⟩, .bool false] 47)).grown hgrow12 (by simp) (fun k hk => (own_lit1 (Nat.le_refl _) (rAll false) |>.lt k (by simpa [Value.ownBlock] using hk)).1))
                           have HB12 := Lib.hid (below_next HB11.out HBB12.out)
                           obtain ⟨q12, c12, rfl⟩ := own_slice hown12
                           clear hown12 hgrow12)
                        | (go_at_call 21; (with_reducible refine (c4 _ _ HB12.out HR12.out).mono ?_); rintro e w13 ⟨⟨u13, rfl, hu13⟩, hb13⟩; have HU13 := Lib.hid hu13; obtain ⟨q13, c13, rfl, _, _⟩ := hu13.form; have HB13 := Lib.hid (below_next HB12.out hb13); have HBB13 := Lib.hid hb13; clear hb13 hu13))
                      go_loopw [16] (fun i wr => ∃ k : Nat, i = .int .i64 k ∧ k ≤ C.length ∧ Hid (Below w13.heap.size w13 wr)) (fun i _ => C.length - (RowKit.intOf i).toNat)
                      case atStart => exact ⟨0, rfl, Nat.zero_le _, Below.refl _ _⟩
                      case round =>
                        obtain ⟨k, rfl, hk, HY⟩ := hrel
                        by_cases hlt : k < C.length
                        · have hki : (k : Int) < (C.length : Int) := by omega
                          have hk0 : (0 : Int) ≤ (k : Int) := by omega
                          obtain ⟨A, e, x0⟩ := (HU11.out.step (below_next HBB12.out HBB13.out)).cell HY.out hlt
                          subst e
                          rw [HCG.out k hlt] at x0
                          have hw2 : IntKind.i64.wrap ((k : Int) + 1) = ((k + 1 : Nat) : Int) := by rw [IntKind.wrap_i64]; omega
                          go_wp2
                          go_roundw
                          case rel => exact ⟨k + 1, by go_num, by omega, HY.out⟩
                          case measure => simp [RowKit.intOf]; omega
                        · have hki : ¬ (k : Int) < (C.length : Int) := by omega
                          obtain ⟨wy, hwy⟩ : ∃ wy, wy = wr := ⟨_, rfl⟩
                          subst hwy
                          have HU5y := Lib.hid ((HU5x.out.step (below_next (below_next HBB10.out HBB11.out) (below_next HBB12.out HBB13.out))).step HY.out)
                          have HBy := Lib.hid (below_next HB13.out HY.out)
                          go_wp2
                          go_loopw [17] (fun i wr => ∃ k : Nat, i = .int .i64 k ∧ k ≤ A1.length ∧ Hid (Below wy.heap.size wy wr)) (fun i _ => A1.length - (RowKit.intOf i).toNat)
                          case atStart => exact ⟨0, rfl, Nat.zero_le _, Below.refl _ _⟩
                          case round =>
                            obtain ⟨k, rfl, hk, HZ⟩ := hrel
                            by_cases hlt : k < A1.length
                            · have hki : (k : Int) < (A1.length : Int) := by omega
                              have hk0 : (0 : Int) ≤ (k : Int) := by omega
                              obtain ⟨A, e, x0⟩ := ints_cast HU5y.out HZ.out hlt
                              subst e
                              obtain ⟨hq1, hq2⟩ := HBI.out k hlt
                              have hNn := HNN2.out
                              have d1 : decide (((A1.getD k 0 : Nat) : Int) < 1) = false := decide_eq_false (by omega)
                              have d1b : decide (((A1.getD k 0 : Nat) : Int) ≤ 0) = false := decide_eq_false (by omega)
                              have d2 : decide (N < ((A1.getD k 0 : Nat) : Int)) = false := decide_eq_false (by omega)
                              have e1 : ¬ ((A1.getD k 0 : Nat) : Int) < 1 := by omega
                              have e2 : ¬ N < ((A1.getD k 0 : Nat) : Int) := by omega
                              clear hNn
                              by_cases hk00 : k = 0
                              · have d3 : decide (0 < k) = false := decide_eq_false (by omega)
                                clear hk00
                                generalize ((A1.getD k 0 : Nat) : Int) = q at x0 d1 d1b d2 e1 e2
                                clear hq1 hq2
                                go_wp2
                                go_quiet (fail)
                                go_wp2
                                go_roundw
                                case rel => exact ⟨k + 1, by go_num, by omega, below_next HZ.out (below_drawn _ _)⟩
                                case measure => simp [RowKit.intOf]; omega
                              · have d3 : (0 : Int) < (k : Int) := by omega
                                obtain ⟨k', hkk⟩ : ∃ k', k = k' + 1 := ⟨k - 1, by omega⟩
                                subst hkk
                                obtain ⟨A', e, x1⟩ := ints_cast HU5y.out HZ.out (show k' < A1.length by omega)
                                injection e with e
                                subst e
                                have hup := HBU.out k' hlt
                                have hw4 : IntKind.i64.wrap (((k' + 1 : Nat) : Int) - 1) = (k' : Int) := by rw [IntKind.wrap_i64]; omega
                                have hk1 : (k' : Int) < (A1.length : Int) := by omega
                                have hk2 : (0 : Int) ≤ (k' : Int) := by omega
                                have d4 : decide (((A1.getD (k' + 1) 0 : Nat) : Int) ≤ ((A1.getD k' 0 : Nat) : Int)) = false := decide_eq_false (by omega)
                                have e4 : ¬ ((A1.getD (k' + 1) 0 : Nat) : Int) ≤ ((A1.getD k' 0 : Nat) : Int) := by omega
                                generalize ((A1.getD (k' + 1) 0 : Nat) : Int) = q at x0 d1 d1b d2 d4 e1 e2 e4
                                generalize ((A1.getD k' 0 : Nat) : Int) = q' at x1 d4 e4
                                clear hq1 hq2 hup
                                have d5 : decide (0 < k' + 1) = true := decide_eq_true (by omega)
                                generalize hkk : k' + 1 = k at *
                                go_wp2
                                go_quiet (fail)
                                go_wp2
                                go_roundw
                                case rel => exact ⟨k + 1, by go_num, by omega, below_next HZ.out (below_drawn _ _)⟩
                                case measure => simp [RowKit.intOf]; omega
                            · have hki : ¬ (k : Int) < (A1.length : Int) := by omega
                              have HBz := Lib.hid (below_next HBy.out HZ.out)
                              go_wp2_with (go_at_call 8; (with_reducible refine (hR _ HBz.out).mono ?_); rintro e w99 ⟨rfl, hb99⟩; have HB99 := Lib.hid (below_next HBz.out hb99); clear hb99)
                              go_ret
                              exact ⟨rfl, HB99.out⟩
              all_goals
                go_ret
                exact ⟨rfl, HB99.out⟩
            · have h64I : (64 : Int) ≤ (R.length : Int) := by omega
              clear cB hr
              go_enter Tryz.func6, Tryz.ntmps6
              go_wp2_with (first
                | (go_at_call 16; (with_reducible refine cS.mono ?_); rintro e w1 ⟨he, hb1⟩; unfold StrEnd at he; rw [HS.out] at he; subst he; have HB1 := Lib.hid hb1; clear hb1)
                | (go_at_call 7; (with_reducible refine (cL _ HB1.out).mono ?_); rintro e w2 ⟨⟨b, rfl, hbb⟩, hw⟩; obtain rfl := hw.symm; have HB2 := Lib.hid (below_next HB1.out (below_box (w := w1) (.cells #[.slice p l.length cap] 22))); cases b)
                | (go_at_call 17; (with_reducible refine (cPl _ HB2.out).mono ?_); rintro e w3 ⟨rfl, hw⟩; obtain rfl := hw.symm)
                | (go_at_call 20; (with_reducible refine (cK2 _ HB2.out).mono ?_); rintro e w3 ⟨rfl, hb3⟩; have HB3 := Lib.hid (below_next HB2.out hb3); clear hb3)
                | (go_at_call 26; (with_reducible refine (cC2 _ HB3.out).mono ?_); rintro e w4 ⟨rfl, hb4⟩; have HB4 := Lib.hid (below_next HB3.out hb4); clear hb4)
                | (go_at_call 8; (with_reducible refine (hR _ HB4.out).mono ?_); rintro e w99 ⟨rfl, hb99⟩; have HB99 := Lib.hid (below_next HB4.out hb99); clear hb99)
                | (go_at_call 8; (with_reducible refine (hR _ HB2.out).mono ?_); rintro e w99 ⟨rfl, hb99⟩; have HB99 := Lib.hid (below_next HB2.out hb99); clear hb99))
              all_goals
                go_ret
                exact ⟨rfl, HB99.out⟩
          · clear cB hr
            generalize checkE l = Z at *
            have hz : (Z != 0) = true := by simpa using hCk
            go_enter Tryz.func6, Tryz.ntmps6
            go_wp2_with (first
              | (go_at_call 16; (with_reducible refine cS.mono ?_); rintro e w1 ⟨he, hb1⟩; unfold StrEnd at he; rw [HS.out] at he; subst he; have HB1 := Lib.hid hb1; clear hb1)
              | (go_at_call 7; (with_reducible refine (cL _ HB1.out).mono ?_); rintro e w2 ⟨⟨b, rfl, hbb⟩, hw⟩; obtain rfl := hw.symm; have HB2 := Lib.hid (below_next HB1.out (below_box (w := w1) (.cells #[.slice p l.length cap] 22))); cases b)
              | (go_at_call 17; (with_reducible refine (cPl _ HB2.out).mono ?_); rintro e w3 ⟨rfl, hw⟩; obtain rfl := hw.symm)
              | (go_at_call 20; (with_reducible refine (cK2 _ HB2.out).mono ?_); rintro e w3 ⟨rfl, hb3⟩; have HB3 := Lib.hid (below_next HB2.out hb3); clear hb3)
              | (go_at_call 26; (with_reducible refine (cC2 _ HB3.out).mono ?_); rintro e w4 ⟨rfl, hb4⟩; have HB4 := Lib.hid (below_next HB3.out hb4); clear hb4)
              | (go_at_call 8; (with_reducible refine (hR _ HB4.out).mono ?_); rintro e w99 ⟨rfl, hb99⟩; have HB99 := Lib.hid (below_next HB4.out hb99); clear hb99)
              | (go_at_call 8; (with_reducible refine (hR _ HB2.out).mono ?_); rintro e w99 ⟨rfl, hb99⟩; have HB99 := Lib.hid (below_next HB2.out hb99); clear hb99))
            all_goals
              go_ret
              exact ⟨rfl, HB99.out⟩
        · clear cB hr cC2
          generalize rlsE R = Z at *
          have hz : (Z != 0) = true := by simpa using hE
          go_enter Tryz.func6, Tryz.ntmps6
          go_wp2_with (first
            | (go_at_call 16; (with_reducible refine cS.mono ?_); rintro e w1 ⟨he, hb1⟩; unfold StrEnd at he; rw [HS.out] at he; subst he; have HB1 := Lib.hid hb1; clear hb1)
            | (go_at_call 7; (with_reducible refine (cL _ HB1.out).mono ?_); rintro e w2 ⟨⟨b, rfl, hbb⟩, hw⟩; obtain rfl := hw.symm; have HB2 := Lib.hid (below_next HB1.out (below_box (w := w1) (.cells #[.slice p l.length cap] 22))); cases b)
            | (go_at_call 17; (with_reducible refine (cPl _ HB2.out).mono ?_); rintro e w3 ⟨rfl, hw⟩; obtain rfl := hw.symm)
            | (go_at_call 20; (with_reducible refine (cK2 _ HB2.out).mono ?_); rintro e w3 ⟨rfl, hb3⟩; have HB3 := Lib.hid (below_next HB2.out hb3); clear hb3)
            | (go_at_call 8; (with_reducible refine (hR _ HB3.out).mono ?_); rintro e w99 ⟨rfl, hb99⟩; have HB99 := Lib.hid (below_next HB3.out hb99); clear hb99)
            | (go_at_call 8; (with_reducible refine (hR _ HB2.out).mono ?_); rintro e w99 ⟨rfl, hb99⟩; have HB99 := Lib.hid (below_next HB2.out hb99); clear hb99))
          all_goals
            go_ret
            exact ⟨rfl, HB99.out⟩
    · clear hv hr hT hC
      go_enter Tryz.func6, Tryz.ntmps6
      go_wp2_with (first
        | (go_at_call 16; (with_reducible refine cS.mono ?_); rintro e w1 ⟨he, hb1⟩; unfold StrEnd at he; rw [HS.out] at he; subst he; have HB1 := Lib.hid hb1; clear hb1)
        | (go_at_call 7; (with_reducible refine (cL _ HB1.out).mono ?_); rintro e w2 ⟨⟨b, rfl, hbb⟩, hw⟩; obtain rfl := hw.symm; have HB2 := Lib.hid (below_next HB1.out (below_box (w := w1) (.cells #[.slice p l.length cap] 22))); cases b; exact absurd (hbb rfl) h3)
        | (go_at_call 8; (with_reducible refine (hR _ HB2.out).mono ?_); rintro e w99 ⟨rfl, hb99⟩; have HB99 := Lib.hid (below_next HB2.out hb99); clear hb99))
      go_ret
      exact ⟨rfl, HB99.out⟩
end Go.Proofs.YtnkpjkomokkhcaaGreatDoor
