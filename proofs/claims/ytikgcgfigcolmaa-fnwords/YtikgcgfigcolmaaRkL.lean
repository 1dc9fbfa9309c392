/- Who stands ahead: the specification's and the program's. No condition. -/
import Derived.Test.YtikgcgfigcolmaaRkM
import Derived.Test.YtikgcgfigcolmaaLib
import Derived.Sort.Grow
namespace Go.Proofs.Ytikgcgfigcolmaa
open Go.RowKit
set_option linter.unusedVariables false

theorem below_a1r (w : World) (o : Obj) : Below w.heap.size w (w.alloc o) := (Below.refl _ _).alloc (Nat.le_refl _) o
theorem below_a2r (w : World) (o o' : Obj) : Below w.heap.size w ((w.alloc o).alloc o') := ((Below.refl _ _).alloc (Nat.le_refl _) o).alloc (by simp) o'

set_option maxRecDepth 100000 in
set_option maxHeartbeats 1000000 in
theorem l11Less_k (i s j t : Int) (w : World) : Calls Try.prog 71 #[.agg #[.int .i64 i, .int .i64 s], .agg #[.int .i64 j, .int .i64 t]] w fun e w' => e = .returned (.bool (ahd (i, s) (j, t))) ∧ Below w.heap.size w w' := by
  by_cases c1 : t < s
  · have HF : Hid (ahd (i, s) (j, t) = true) := by show _ = _; unfold ahd; rw [decide_eq_true]; exact .inl c1
    go_enter Try.func71, Try.ntmps71
    go_wp2
    go_ret
    exact ⟨by rw [HF.out]; rfl, below_a2r _ _ _⟩
  · by_cases c2 : s = t
    · subst c2
      by_cases c3 : i < j
      · have HF : Hid (ahd (i, s) (j, s) = true) := by show _ = _; unfold ahd; rw [decide_eq_true]; exact .inr ⟨rfl, c3⟩
        go_enter Try.func71, Try.ntmps71
        go_wp2
        go_ret
        exact ⟨by rw [HF.out]; rfl, below_a2r _ _ _⟩
      · have HF : Hid (ahd (i, s) (j, s) = false) := by show _ = _; unfold ahd; rw [decide_eq_false]; rintro (h | ⟨_, h⟩); exact c1 h; exact c3 h
        go_enter Try.func71, Try.ntmps71
        go_wp2
        go_ret
        exact ⟨by rw [HF.out]; rfl, below_a2r _ _ _⟩
    · have c2' : (s == t) = false := by simpa using c2
      have HF : Hid (ahd (i, s) (j, t) = false) := by show _ = _; unfold ahd; rw [decide_eq_false]; rintro (h | ⟨h, _⟩); exact c1 h; exact c2 h
      go_enter Try.func71, Try.ntmps71
      go_wp2
      go_ret
      exact ⟨by rw [HF.out]; rfl, below_a2r _ _ _⟩
end Go.Proofs.Ytikgcgfigcolmaa
