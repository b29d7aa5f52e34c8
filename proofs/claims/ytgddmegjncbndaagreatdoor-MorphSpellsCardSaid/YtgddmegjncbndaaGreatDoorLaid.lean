/- A world that lays the listed package-level variables: the witness of this seat's rows. -/
import Derived.Test.YtgddmegjncbndaaGreatDoorCards
import Derived.Test.YtgddmegjncbndaaGreatDoorTie
import Derived.WalkKit
import Derived.ProofKit
import Derived.OpenShut
import Derived.Deep.DeepHandedRow
import Derived.Lib.LaidTab
namespace Go.Proofs.YtgddmegjncbndaaGreatDoor
open Go.ChangeShapes Go.WideShapes Go.ChangeAt Go.RowKit

theorem own : ownKnob Tryz.prog.godebug = none := by kernel_rfl
def litV : Lit → Value
  | .int k n => .int k n
  | .string b => .string ⟨b.toArray⟩
  | _ => .bool false
def flat1 : DataW Unit → List Value
  | .lit l => [litV l]
  | .agg ps => ps.map fun | .lit l => litV l | _ => .bool false
  | _ => []
def flat2 : DataW Unit → List Value
  | .agg ps => ps.flatMap flat1
  | d => flat1 d
def layAt (h : Array Obj) (g : Nat) (vs : List Value) : Array Obj := h.modify g fun
  | .cells _ t frozen => .cells vs.toArray t frozen
  | o => o
noncomputable def laidHeap (h : Array Obj) : Array Obj :=
  ((layAt (layAt (layAt (layAt (layAt (layAt (layAt h 1 (flat2 Rows.laid_unicode_utf8_first)) 2 (flat2 Rows.laid_unicode_utf8_acceptRanges)) 3 [.iface 216 (.pointer (some ⟨13, 0, none⟩))]) 4 [.iface 216 (.pointer (some ⟨14, 0, none⟩))])
    5 (flat2 Rows.laid_internal_strconv_uint64pow10)) 6 (flat2 Rows.laid_math_bits_deBruijn32tab)) 7 (flat2 Rows.laid_math_bits_deBruijn64tab)).push
    (.cells #[.string ⟨#[105, 110, 118, 97, 108, 105, 100, 32, 115, 121, 110, 116, 97, 120]⟩] 218)).push (.cells #[.string ⟨#[118, 97, 108, 117, 101, 32, 111, 117, 116, 32, 111, 102, 32, 114, 97, 110, 103, 101]⟩] 218)
/-- The settled world, the listed variables laid. -/
noncomputable def laidWorld (os : Os) : World :=
  { World.holding Tryz.prog os ⟨#[], #[], []⟩ with heap := laidHeap (World.holding Tryz.prog os ⟨#[], #[], []⟩).heap }
theorem globals8 : Tryz.prog.globals.size = 8 := by kernel_rfl
theorem begun13 : (begin Tryz.prog (fun _ _ => 0) default).world.heap.size = 13 := by kernel_rfl
/-- There are as many blocks as package-level variables, at least. -/
theorem blocks {W : World} (hs : W.ShapedOpen Tryz.prog) : 8 ≤ W.heap.size := by
  obtain ⟨o, _, ho, _⟩ := hs.2 8 (by rw [globals8]; exact Nat.le_refl _) (by rw [begun13]; decide)
  have := (Array.getElem?_eq_some_iff.1 ho).1
  omega
end Go.Proofs.YtgddmegjncbndaaGreatDoor
