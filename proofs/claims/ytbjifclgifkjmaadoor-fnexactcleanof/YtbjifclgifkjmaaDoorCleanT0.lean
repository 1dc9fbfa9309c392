/- A clean tree. No program in this text. -/
import Derived.Test.YtbjifclgifkjmaaDoorTreeD0
import Derived.Test.YtbjifclgifkjmaaDoorTrBld
namespace Go.Proofs.YtbjifclgifkjmaaDoor
open Go.RowKit
set_option linter.unusedVariables false

mutual
/-- No map outside of lists has a null. -/
def Tr.clean : Tr → Bool
  | .mk k _ _ _ ks => if k = 7 then Tr.cleans ks else true
def Tr.cleans : List Tr → Bool
  | [] => true
  | x :: l => ((x.kind != 1) && x.clean) && Tr.cleans l
end
theorem Tr.cleans_iff (l : List Tr) : Tr.cleans l = true ↔ ∀ x ∈ l, x.kind ≠ 1 ∧ x.clean = true := by
  induction l with
  | nil => simp [Tr.cleans]
  | cons a l ih =>
    rw [Tr.cleans, Bool.and_eq_true, Bool.and_eq_true, ih]
    simp
theorem Tr.cleans_take {ks : List Tr} {m : Nat} (h : ∀ i x, i < m → ks[i]? = some x → x.kind ≠ 1 ∧ x.clean = true) (hm : m = ks.length) : Tr.cleans ks = true := by
  rw [Tr.cleans_iff]
  intro x hx
  obtain ⟨i, hi, rfl⟩ := List.mem_iff_getElem.1 hx
  exact h i _ (by omega) (List.getElem?_eq_getElem hi)
theorem Tr.cleans_no {ks : List Tr} {m : Nat} {x : Tr} (hx : ks[m]? = some x) (h : x.kind = 1 ∨ x.clean = false) : Tr.cleans ks = false := by
  cases hc : Tr.cleans ks with
  | false => rfl
  | true =>
    have := (Tr.cleans_iff ks).1 hc x (List.mem_of_getElem? hx)
    rcases h with h | h
    · exact absurd h this.1
    · rw [h] at this; exact absurd this.2 (by simp)

end Go.Proofs.YtbjifclgifkjmaaDoor
