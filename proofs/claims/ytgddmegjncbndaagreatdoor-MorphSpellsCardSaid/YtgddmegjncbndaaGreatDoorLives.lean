/- The closed run of layer 2's example: 'lives' returns true in any world, and leaves all memory that was there as it was. (Its package-level variables are not looked at.) -/
import Derived.Test.YtgddmegjncbndaaGreatDoorProg
import Derived.Test.YtgddmegjncbndaaGreatDoorEngX
import Derived.KernelRfl
namespace Go.Proofs.YtgddmegjncbndaaGreatDoor
open Go Go.Eng Go.RowKit
set_option maxRecDepth 1000000
theorem mixes : Tryz.prog.follows .mixedOrders = true := by kernel_rfl
theorem recovers : Tryz.prog.follows .rangeFuncRecover = true := by kernel_rfl
theorem plain : plainNames Tryz.prog = true := by kernel_rfl
theorem lives_run : okB (runF Tryz.prog 8 1000000 ⟨9, Slots.ofL [] (Tryz.f9.ntmps - 0), [.code (Tryz.f9.body.getD .skip)], [], false, none⟩ (bareE 8)) true = true := by kernel_rfl
theorem lives_body : Tryz.f9.body = some (Tryz.f9.body.getD .skip) := by kernel_rfl
theorem lives_calls (w : World) (hw : 8 ≤ w.heap.size) : Calls Tryz.prog 9 #[] w fun e w' => e = .returned (.bool true) ∧ Below w.heap.size w w' :=
  closed_call mixes recovers plain Tryz.func9 lives_body lives_run w hw
end Go.Proofs.YtgddmegjncbndaaGreatDoor
