/- What the row's condition says of the table of words, and of the library's variable. -/
import Derived.Test.YtnbeomclmggbiaaGreatDoorDqB
import Derived.Test.YtnbeomclmggbiaaGreatDoorDoA
import Derived.Shelf.Vars
namespace Go.Proofs.YtnbeomclmggbiaaGreatDoor
open Go Go.RowKit Go.Lib
set_option maxRecDepth 100000
theorem wd_open {H : Type} {enc : TypeId × Value → H} {W : World} {base : Nat} {sp : Nat → Bool} {held : Bool} {fuel : Nat} {cs : List Value} {x : List UInt8} {p : List MemPlace} (h : DataW.trod enc Tryz.prog W base sp held fuel 9 cs = some (.lit (.string x), p)) :
    cs = [.string ⟨x.toArray⟩] := by
  obtain ⟨z, c, g, _⟩ := DataW.trod_string Tryz.underlying9 h
  have e : x = z.data.toList := by simpa using congrArg Prod.fst g
  rw [c, e]
/-- the table of the words of kinds -/
theorem wds_heap {w : World} (h : VarReads Tryz.prog w "truchman/docs.blockWords" (Rows.laid_truchman_docs_blockWords : DataW Unit)) : Wds w := by
  obtain ⟨g, t, cs, fuel, p, hg, hty, hvar, hd⟩ := h
  obtain rfl := Option.some.inj ((show Tryz.prog.globalNamed "truchman/docs.blockWords" = some 0 by kernel_rfl).symm.trans hg)
  obtain rfl := Option.some.inj ((show (Tryz.prog.globals[0]?).map (·.type) = some 72 by kernel_rfl).symm.trans hty)
  obtain ⟨t, fr, e⟩ := heap_of_var hg hvar
  have el := fun i hi => array_elem Tryz.underlying72 hd i hi
  have c1 : Tryz.prog.cellsOf 9 = 1 := by kernel_rfl
  rw [c1] at el
  have key : ∀ i, i < 7 → cs[i]? = some (.string (bytes (headL i))) := by
    intro i hi
    obtain ⟨_, d, _, q, e0⟩ := el i hi
    have fin : ∀ (n fu : Nat) (x : List UInt8) (q : List MemPlace), DataW.trod (fun _ => ()) Tryz.prog w 0 (fun _ => true) false fu 9 ((cs.toList.drop (n * 1)).take 1) = some (.lit (.string x), q) → cs[n]? = some (.string ⟨x.toArray⟩) := fun n fu x q h => by
      have := one_of (wd_open h)
      rw [Nat.mul_one, Array.getElem?_toList] at this
      exact this
    match i, hi with
    | 0, _ => cases q; exact fin 0 _ _ _ e0
    | 1, _ => cases q; exact fin 1 _ _ _ e0
    | 2, _ => cases q; exact fin 2 _ _ _ e0
    | 3, _ => cases q; exact fin 3 _ _ _ e0
    | 4, _ => cases q; exact fin 4 _ _ _ e0
    | 5, _ => cases q; exact fin 5 _ _ _ e0
    | 6, _ => cases q; exact fin 6 _ _ _ e0
  intro k hk
  rw [Lib.cell_of_heap e k]
  exact key k hk
/-- the library's variable holds some number: of the world's shape -/
theorem mxl_of {w : World} (h : w.ShapedOpen Tryz.prog) : Mxl w :=
  cell_of_shapedOpen_int (t := 3) (zero := #[.int .i64 0]) h (of_decide_eq_true (by kernel_rfl)) (by kernel_rfl) (by kernel_rfl) (by kernel_rfl) (by kernel_rfl) Tryz.underlying3
/-- what the row's condition gives: the tables and variables, and the closed run of the examples, in any world behind -/
theorem env_of {W : World} (h5 : 6 ≤ W.heap.size) (hsh : W.ShapedOpen Tryz.prog) (hw : VarReads Tryz.prog W "truchman/docs.blockWords" (Rows.laid_truchman_docs_blockWords : DataW Unit))
    (hn : VarReads Tryz.prog W "truchman/docs.notations" (Rows.laid_truchman_docs_notations : DataW Unit)) (hc : VarReads Tryz.prog W "truchman/docs.classes" (Rows.laid_truchman_docs_classes : DataW Unit))
    (h1 : VarReads Tryz.prog W "unicode/utf8.first" (Rows.laid_unicode_utf8_first : DataW Unit)) (h2 : VarReads Tryz.prog W "unicode/utf8.acceptRanges" (Rows.laid_unicode_utf8_acceptRanges : DataW Unit)) :
    Env W ∧ ∀ w', Below W.heap.size W w' → Calls Tryz.prog 8 #[] w' fun e w'' => e = .returned (.bool true) ∧ Below w'.heap.size w' w'' := by
  obtain ⟨hT, hN, hR⟩ := tables h5 hn hc h1 h2
  exact ⟨⟨hT, hN, wds_heap hw, mxl_of hsh⟩, hR⟩
end Go.Proofs.YtnbeomclmggbiaaGreatDoor
