/- Words that are good: the mathematics. No condition. -/
import Derived.Test.YtikgcgfigcolmaaWdM
import Derived.Test.YtikgcgfigcolmaaPoM
import Derived.Test.YtikgcgfigcolmaaKWords
namespace Go.Proofs.Ytikgcgfigcolmaa
open Go.RowKit
set_option linter.unusedVariables false

theorem by_total : ∀ a b : List UInt8, Op.bytesLess a b = !(Op.bytesLess b a || b == a)
  | [], [] => by simp [Op.bytesLess]
  | [], y :: ys => by simp [Op.bytesLess]
  | x :: xs, [] => by simp [Op.bytesLess]
  | x :: xs, y :: ys => by
    have ih := by_total xs ys
    unfold Op.bytesLess
    by_cases h1 : x < y
    · have h2 : ¬ y < x := fun h => by simp only [UInt8.lt_iff_toNat_lt] at h h1; omega
      have h3 : y ≠ x := fun h => by simp only [UInt8.lt_iff_toNat_lt, h] at h1; omega
      simp [h1, h2, h3]
    · by_cases h2 : y < x
      · have h4 : ¬ x = y := fun e => h1 (by rw [e] at h2 ⊢; exact h2)
        simp [h1, h2, h4]
      · have h3 : y = x := by
          apply UInt8.toNat_inj.1
          simp only [UInt8.lt_iff_toNat_lt] at h1 h2
          omega
        subst h3
        simp [ih]

def lessB (a b : ByteArray) : Bool := Op.bytesLess a.toList b.toList

/-- Entries rise from behind last on, each good. -/
def entOk (texts : Int) : ByteArray → List DEntry → Bool
  | _, [] => true
  | last, (x, l) :: r => isWordB x && lessB last x && !l.isEmpty && postOk texts (-1) l && entOk texts x r
/-- As the specification asks. -/
def entSp (tv : Int) : Bool → ByteArray → List DEntry → Bool
  | _, _, [] => true
  | f, last, (x, l) :: r => isWordB x && !l.isEmpty && postSp tv true 0 l && (f || lessB last x) && entSp tv false x r
/-- GoodWords. -/
def fGoodWords : DWords → Bool := fun ⟨t, es⟩ => decide (0 ≤ t ∧ t ≤ 40) && decide (es.length ≤ 200) && entOk t ⟨#[]⟩ es

theorem less_nil (x : ByteArray) (h : isWordB x = true) : lessB ⟨#[]⟩ x = true := by
  unfold isWordB isWL at h
  simp only [decide_eq_true_eq] at h
  unfold lessB
  rw [ByteArray.toList_eq, ByteArray.toList_eq]
  cases e : x.data.toList with
  | nil => exact absurd e h.1
  | cons c t => simp [Op.bytesLess]
theorem entSp_in (texts : Int) : ∀ (l : List DEntry) (last : ByteArray), entSp (texts - 1) false last l = entOk texts last l
  | [], last => rfl
  | (x, l) :: r, last => by
    rw [entSp, entOk, entSp_in texts r x, postSp_ok]
    cases isWordB x <;> cases lessB last x <;> cases l.isEmpty <;> cases postOk texts (-1) l <;> rfl
theorem entSp_ok (texts : Int) (l : List DEntry) (z : ByteArray) : entSp (texts - 1) true z l = entOk texts ⟨#[]⟩ l := by
  cases l with
  | nil => rfl
  | cons y r =>
    obtain ⟨x, l⟩ := y
    rw [entSp, entOk, entSp_in texts r x, postSp_ok]
    cases h : isWordB x with
    | false => rfl
    | true =>
      rw [less_nil x h]
      cases l.isEmpty <;> cases postOk texts (-1) l <;> rfl

theorem isEmpty_len {α : Type} (l : List α) : l.isEmpty = decide (l.length = 0) := by cases l <;> simp
end Go.Proofs.Ytikgcgfigcolmaa
