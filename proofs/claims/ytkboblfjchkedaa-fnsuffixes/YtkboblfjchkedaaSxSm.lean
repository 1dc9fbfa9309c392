/- What neighbours have in common, and the most of it: the mathematics. No condition. -/
import Derived.Test.YtkboblfjchkedaaSxDm
import Derived.Test.YtkboblfjchkedaaSxY
namespace Go.Proofs.Ytkboblfjchkedaa
open Go.RowKit Go.Sort
set_option linter.unusedVariables false

theorem com_stop : ∀ {a b : List UInt8} {x y : UInt8}, a[com a b]? = some x → b[com a b]? = some y → x ≠ y
  | [], b, x, y, h, _ => by simp [com] at h
  | z :: a, [], x, y, _, h => by simp [com] at h
  | z :: a, z' :: b, x, y, h1, h2 => by
    unfold com at h1 h2
    by_cases h : z = z'
    · rw [if_pos h] at h1 h2
      rw [List.getElem?_cons_succ] at h1 h2
      exact com_stop h1 h2
    · rw [if_neg h] at h1 h2
      simp at h1 h2
      rw [← h1, ← h2]
      exact h
/-- The most that two neighbours have in common, of the first p. -/
def maxC (t : List UInt8) (l : List Nat) : Nat → Nat
  | 0 => 0
  | p + 1 => if comAt t l p > maxC t l p then comAt t l p else maxC t l p
theorem lon_max (t : List UInt8) : ∀ p, p ≤ t.length → (lonL t (sufL t) p).length = maxC t (sufL t) p
  | 0, _ => rfl
  | p + 1, hp => by
    have ih := lon_max t p (by omega)
    have hb := comAt_bd (t := t) (p := p) (by omega)
    unfold lonL maxC
    rw [ih]
    split
    · unfold stL
      rw [List.length_take, List.length_drop]
      omega
    · exact ih
theorem maxC_le (t : List UInt8) (l : List Nat) : ∀ p, maxC t l p ≤ t.length
  | 0 => Nat.zero_le _
  | p + 1 => by
    have h1 := maxC_le t l p
    have h2 := comAt_le t l p
    unfold maxC
    split <;> omega
end Go.Proofs.Ytkboblfjchkedaa
