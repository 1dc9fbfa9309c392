/- Lists of postings: the mathematics, and what the program and the specification ask of them. No condition. -/
import Derived.Test.YtikgcgfigcolmaaKPosting
import Derived.Test.YtikgcgfigcolmaaAp
import Derived.BigQuiet
import Derived.Deep.QuietTactic
import Derived.Deep.RegionWith
import Derived.Deep.DeepFit
namespace Go.Proofs.Ytikgcgfigcolmaa
open Go.RowKit
set_option linter.unusedVariables false

/-- They rise from behind last on, below texts, each 1..100 times. -/
def postOk (texts : Int) : Int → List DPosting → Bool
  | _, [] => true
  | last, (t, m) :: r => decide (last < t ∧ t < texts ∧ 1 ≤ m ∧ m ≤ 100) && postOk texts t r
/-- As the specification asks: by their neighbours. -/
def postSp (tv : Int) : Bool → Int → List DPosting → Bool
  | _, _, [] => true
  | f, last, (t, m) :: r => decide ((0 ≤ t ∧ t ≤ tv) ∧ (1 ≤ m ∧ m ≤ 100) ∧ (f = true ∨ last < t)) && postSp tv false t r
theorem postSp_in (texts : Int) : ∀ (l : List DPosting) (last : Int), 0 ≤ last → postSp (texts - 1) false last l = postOk texts last l
  | [], last, _ => rfl
  | (t, m) :: r, last, h => by
    rw [postSp, postOk]
    by_cases c : last < t
    · rw [postSp_in texts r t (by omega)]
      congr 1
      apply decide_eq_decide.2
      simp
      omega
    · rw [decide_eq_false (by simp; omega), decide_eq_false (by omega)]
      rfl
theorem postSp_ok (texts : Int) (l : List DPosting) (x : Int) : postSp (texts - 1) true x l = postOk texts (-1) l := by
  cases l with
  | nil => rfl
  | cons y r =>
    obtain ⟨t, m⟩ := y
    rw [postSp, postOk]
    by_cases c : 0 ≤ t
    · rw [postSp_in texts r t c]
      congr 1
      apply decide_eq_decide.2
      simp
      omega
    · rw [decide_eq_false (by omega), decide_eq_false (by omega)]
      rfl

set_option maxHeartbeats 400000 in
theorem l1In_k (x a b : Int) (w : World) : Calls Try.prog 59 #[.int .i64 x, .int .i64 a, .int .i64 b] w fun e w' => e = .returned (.bool (decide (a ≤ x ∧ x ≤ b))) ∧ w' = w := by
  by_cases h1 : a ≤ x
  · by_cases h2 : x ≤ b
    · go_enter Try.func59, Try.ntmps59
      go_wp2
      go_ret
      exact ⟨by rw [decide_eq_true (by omega)]; rfl, rfl⟩
    · go_enter Try.func59, Try.ntmps59
      go_wp2
      go_ret
      exact ⟨by rw [decide_eq_false (by omega)]; rfl, rfl⟩
  · go_enter Try.func59, Try.ntmps59
    go_wp2
    go_ret
    exact ⟨by rw [decide_eq_false (by omega)]; rfl, rfl⟩
theorem l1In_is {x a b : Int} {q : Bool} (w : World) (h : decide (a ≤ x ∧ x ≤ b) = q) : Calls Try.prog 59 #[.int .i64 x, .int .i64 a, .int .i64 b] w fun e w' => e = .returned (.bool q) ∧ w' = w := by
  rw [← h]
  exact l1In_k x a b w

end Go.Proofs.Ytikgcgfigcolmaa
