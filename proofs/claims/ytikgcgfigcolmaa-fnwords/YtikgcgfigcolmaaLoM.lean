/- An entry looked for by halving: the mathematics. No condition. -/
import Derived.Test.YtikgcgfigcolmaaWgM
import Derived.Test.YtikgcgfigcolmaaLib
namespace Go.Proofs.Ytikgcgfigcolmaa
open Go.RowKit
set_option linter.unusedVariables false

theorem by_trans : ∀ a b c : List UInt8, Op.bytesLess a b = true → Op.bytesLess b c = true → Op.bytesLess a c = true
  | [], [], _, h, _ => by simp [Op.bytesLess] at h
  | [], _ :: _, [], _, h => by simp [Op.bytesLess] at h
  | [], _ :: _, _ :: _, _, _ => by simp [Op.bytesLess]
  | _ :: _, [], _, h, _ => by simp [Op.bytesLess] at h
  | _ :: _, _ :: _, [], _, h => by simp [Op.bytesLess] at h
  | x :: xs, y :: ys, z :: zs, h, k => by
    have ih := by_trans xs ys zs
    unfold Op.bytesLess at h k ⊢
    by_cases h1 : x < y
    · by_cases k1 : y < z
      · have : x < z := by simp only [UInt8.lt_iff_toNat_lt] at *; omega
        simp [this]
      · simp only [k1] at k
        by_cases e : y = z
        · subst e
          simp [h1]
        · simp [e] at k
    · simp only [h1] at h
      by_cases e : x = y
      · subst e
        by_cases k1 : x < z
        · simp [k1]
        · simp only [k1] at k
          by_cases e2 : x = z
          · subst e2
            simp at h k
            simp [ih h k]
          · simp [e2] at k
      · simp [e] at h
theorem lessB_trans {a b c : ByteArray} (h : lessB a b = true) (k : lessB b c = true) : lessB a c = true := by_trans _ _ _ h k
theorem lessB_irr (a : ByteArray) : lessB a a = false := by
  unfold lessB
  rw [by_total]
  simp
/-- Their words rise. -/
def Rises (es : List DEntry) : Prop := ∀ (i j : Nat) (x : ByteArray) (l : List DPosting) (y : ByteArray) (m : List DPosting), i < j → es[i]? = some (x, l) → es[j]? = some (y, m) → lessB x y = true
theorem ent_above (t : Int) : ∀ (es : List DEntry) (last : ByteArray), entOk t last es = true → ∀ (i : Nat) (x : ByteArray) (l : List DPosting), es[i]? = some (x, l) → lessB last x = true
  | [], last, _, i, x, l, h => by simp at h
  | (y, m) :: r, last, hk, 0, x, l, h => by
    rw [entOk] at hk
    simp only [Bool.and_eq_true] at hk
    simp only [List.getElem?_cons_zero, Option.some.injEq, Prod.mk.injEq] at h
    rw [← h.1]
    exact hk.1.1.1.2
  | (y, m) :: r, last, hk, i + 1, x, l, h => by
    rw [entOk] at hk
    simp only [Bool.and_eq_true] at hk
    have := ent_above t r y hk.2 i x l (by simpa using h)
    exact lessB_trans hk.1.1.1.2 this
theorem ent_rises (t : Int) : ∀ (es : List DEntry) (last : ByteArray), entOk t last es = true → Rises es
  | [], last, _ => fun i j x l y m _ h => by simp at h
  | (y, m) :: r, last, hk => by
    rw [entOk] at hk
    simp only [Bool.and_eq_true] at hk
    intro i j x l y' m' hij hi hj
    obtain ⟨j, rfl⟩ : ∃ q, j = q + 1 := ⟨j - 1, by omega⟩
    have hj' : r[j]? = some (y', m') := by simpa using hj
    cases i with
    | zero =>
      simp only [List.getElem?_cons_zero, Option.some.injEq, Prod.mk.injEq] at hi
      rw [← hi.1]
      exact ent_above t r y hk.2 j y' m' hj'
    | succ i => exact ent_rises t r y hk.2 i j x l y' m' (by omega) (by simpa using hi) hj'
theorem good_rises {t : Int} {es : List DEntry} (h : fGoodWords (t, es) = true) : Rises es := by
  unfold fGoodWords at h
  simp only [Bool.and_eq_true] at h
  exact ent_rises t es _ h.2

theorem cmp_less (a b : List UInt8) : Lib.compareBytes a b = if Op.bytesLess a b = true then -1 else if Op.bytesLess b a = true then 1 else 0 := by
  induction a generalizing b with
  | nil => cases b <;> simp [Lib.compareBytes, Op.bytesLess]
  | cons x a ih =>
    cases b with
    | nil => simp [Lib.compareBytes, Op.bytesLess]
    | cons y b =>
      unfold Lib.compareBytes Op.bytesLess
      by_cases h1 : x < y
      · simp [h1]
      · by_cases h2 : y < x
        · simp [h1, h2]
          intro e
          subst e
          exact absurd h2 (UInt8.lt_irrefl _)
        · have e : x = y := UInt8.le_antisymm (UInt8.not_lt.1 h2) (UInt8.not_lt.1 h1)
          subst e
          simp [h1, ih]
/-- How texts compare. -/
def cmpB (a b : ByteArray) : Int := Lib.compareBytes a.data.toList b.data.toList
theorem cmpB_less (a b : ByteArray) : (cmpB a b < 0) ↔ lessB a b = true := by
  unfold cmpB lessB
  rw [cmp_less, ByteArray.toList_eq, ByteArray.toList_eq]
  by_cases h : Op.bytesLess a.data.toList b.data.toList = true
  · simp [h]
  · rw [if_neg h]
    simp only [h, Bool.false_eq_true, iff_false]
    split <;> omega
theorem cmpB_zero (a b : ByteArray) : (cmpB a b = 0) ↔ a = b := by
  unfold cmpB
  rw [cmp_less]
  constructor
  · intro h
    by_cases h1 : Op.bytesLess a.data.toList b.data.toList = true
    · simp [h1] at h
    · by_cases h2 : Op.bytesLess b.data.toList a.data.toList = true
      · simp [h1, h2] at h
      · have := by_total a.data.toList b.data.toList
        simp only [Bool.not_eq_true] at h1 h2
        rw [h1, h2] at this
        simp at this
        apply ByteArray.ext
        exact this.symm
  · rintro rfl
    have := by_total a.data.toList a.data.toList
    by_cases h : Op.bytesLess a.data.toList a.data.toList = true
    · rw [h] at this
      simp at this
    · simp [h]
end Go.Proofs.Ytikgcgfigcolmaa
