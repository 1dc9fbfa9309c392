/- Whether a value has no nodes. -/
import Derived.Test.YtjohocnfcnjciaaDoorFilG0
namespace Go.Proofs.YtjohocnfcnjciaaDoor
open Go.RowKit
set_option linter.unusedVariables false

set_option maxHeartbeats 400000 in
theorem l5Zero_any (a : Option Addr) (c n : Nat) (w : World) (hn : n ≤ 2 ^ 20) :
    Calls Tryd.prog 12 #[.agg #[.slice a n c]] w (BoolIs (n = 0) w) := by
  have hal : ∀ o, Below w.heap.size w (w.alloc o) := fun o => (Below.refl _ _).alloc (Nat.le_refl _) o
  go_enter Tryd.func12, Tryd.ntmps12
  go_wp2
  go_ret
  exact BoolIs.of (by simp) (hal _)

end Go.Proofs.YtjohocnfcnjciaaDoor
