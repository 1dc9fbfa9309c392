/- Whether a number lies between two, by the specification. -/
import Derived.Test.YtadlflgflnlhjaaGreatDoorGoodOwn
namespace Go.Proofs.YtadlflgflnlhjaaGreatDoor
open Go.RowKit
set_option linter.unusedVariables false

set_option maxRecDepth 100000 in
set_option maxHeartbeats 1000000 in
theorem l1In_any (x lo hi : Int) (w : World) : Calls Tryz.prog 42 #[.int .i64 x, .int .i64 lo, .int .i64 hi] w fun e w' => e = .returned (.bool (decide (lo ≤ x) && decide (x ≤ hi))) ∧ Below w.heap.size w w' := by
  by_cases h0 : lo ≤ x
  · go_enter Tryz.func42, Tryz.ntmps42
    go_wp2
    go_ret
    exact ⟨by simp [h0], by go_grown⟩
  · go_enter Tryz.func42, Tryz.ntmps42
    go_wp2
    go_ret
    have h1 : decide (lo ≤ x) = false := decide_eq_false (by omega)
    exact ⟨by rw [h1]; rfl, by go_grown⟩

end Go.Proofs.YtadlflgflnlhjaaGreatDoor
