/- FnExactGoodTreap answers true at every treap: GoodTreap answers as the specification and writes into nothing. -/
import Derived.Test.YtnmbnebofbdmfaaTpL
namespace Go.Proofs.Ytnmbnebofbdmfaa
open Go.RowKit
set_option linter.unusedVariables false

/-- The limbs that came in, as a list. -/
def lbs (n : Nat) (N : Nat → Lb) : List Lb := (List.range n).map N
theorem lbs_len (n : Nat) (N : Nat → Lb) : (lbs n N).length = n := by simp [lbs]
theorem lbs_at (n : Nat) (N : Nat → Lb) (i : Nat) (h : i < n) : lbAt (lbs n N) i = N i := by
  rw [lbAt_get (by rw [lbs_len]; exact h)]
  simp [lbs]
theorem LimbsAt.list {w : World} {b off n : Nat} {N : Nat → Lb} (h : LimbsAt w b off n N) : LimbsAt w b off (lbs n N).length (lbAt (lbs n N)) := fun i hi => by
  rw [lbs_len] at hi
  rw [lbs_at n N i hi]
  exact h i hi
theorem RowIs.list {w : World} {B : Nat} {v : Value} {n : Nat} {N : Nat → Lb} (h : RowIs w B v n N) : RowIs w B v (lbs n N).length (lbAt (lbs n N)) := by
  obtain ⟨a, c, rfl, hn, h0⟩ := h
  refine ⟨a, c, by rw [lbs_len], by rw [lbs_len]; exact hn, ?_⟩
  rcases h0 with rfl | ⟨b, off, rfl, hb, hat⟩
  · exact .inl rfl
  · exact .inr ⟨b, off, rfl, hb, hat.list⟩
theorem SmallR.list {n : Nat} {N : Nat → Lb} (h : SmallR n N) : (lbs n N).length ≤ 2 ^ 20 ∧ ∀ x ∈ lbs n N, x.key.size ≤ 2 ^ 20 ∧ x.val.size ≤ 2 ^ 20 := by
  refine ⟨by rw [lbs_len]; exact h.1, fun x hx => ?_⟩
  simp [lbs] at hx
  obtain ⟨i, hi, rfl⟩ := hx
  exact h.2 i hi

end Go.Proofs.Ytnmbnebofbdmfaa
