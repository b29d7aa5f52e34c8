/- Slices of features: the specification's Subsumes whole. -/
import Derived.Test.YtdfhciijpcgicaaGreatDoorFeats3
namespace Go.Proofs.YtdfhciijpcgicaaGreatDoor
open Go Go.RowKit
set_option maxHeartbeats 400000 in
theorem refSubsumes_nil (v : Value) (m : List Ft) (w : World) :
    Calls Tryz.prog 19 #[.slice none 0 0, v] w fun e w' => e = .returned (.bool (subs [] m)) ∧ (∃ n, w' = w.drewN n) := by
  go_enter Tryz.func19, Tryz.ntmps19
  go_wp2
  go_loop [5] (fun i => i = .int .i64 0) (fun _ => 0)
  case atStart => rfl
  case round =>
    subst hrel
    go_wp2
    go_ret
    exact ⟨rfl, 0, rfl⟩
set_option maxHeartbeats 400000 in
theorem refSubsumes_none (p : Option Addr) (l : List Ft) (cap : Nat) (w : World) (_hl : l.length ≤ cap) (_hc : cap ≤ maxLen) :
    Calls Tryz.prog 19 #[.slice p l.length cap, .slice none 0 0] w fun e w' => e = .returned (.bool (subs l [])) ∧ (∃ n, w' = w.drewN n) := by
  unfold maxLen at _hc
  go_enter Tryz.func19, Tryz.ntmps19
  go_wp2
  go_loop [5] (fun i => i = .int .i64 0) (fun _ => 0)
  case atStart => rfl
  case round =>
    subst hrel
    by_cases h : 0 < l.length
    · have HF := Lib.hid (show subs l [] = false from subs_false h rfl)
      go_wp2
      go_loop [6, 7] (fun o i => o = .bool false ∧ i = .int .i64 0) (fun _ _ => 0)
      case atStart => exact ⟨rfl, rfl⟩
      case round =>
        obtain ⟨rfl, rfl⟩ := hrel
        go_wp2
        go_ret
        exact ⟨f_ret_bool HF.out.symm, 0, rfl⟩
    · have HF := Lib.hid (show subs l [] = true from subs_true (k := 0) (fun _ _ h => by omega) (by omega))
      have HZ : l.length = 0 := by omega
      go_wp2
      go_ret
      exact ⟨f_ret_bool HF.out.symm, 0, rfl⟩
theorem refSubsumes_any {u v : Value} {l m : List Ft} (w : World) (h : Reads w u l) (hm : Reads w v m) :
    Calls Tryz.prog 19 #[u, v] w fun e w' => e = .returned (.bool (subs l m)) ∧ (∃ n, w' = w.drewN n) := by
  rcases h with ⟨rfl, rfl⟩ | ⟨a, cap, rfl, hl, hc, H⟩
  · exact refSubsumes_nil v m w
  · rcases hm with ⟨rfl, rfl⟩ | ⟨b, cap', rfl, hl', hc', H'⟩
    · exact refSubsumes_none (some a) l cap w hl hc
    · exact refSubsumes_rows a b l m cap cap' w hl hc hl' hc' H H'
end Go.Proofs.YtdfhciijpcgicaaGreatDoor
