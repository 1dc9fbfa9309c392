/- Lists that are ranked: the mathematics of what is asked of them. No condition. -/
import Derived.Test.YtikgcgfigcolmaaKRanking
import Derived.Test.YtikgcgfigcolmaaPoM
namespace Go.Proofs.Ytikgcgfigcolmaa
open Go.RowKit
set_option linter.unusedVariables false

/-- One that may stand in a list. -/
def scOk (x : DScored) : Bool := decide ((1 ≤ x.2 ∧ x.2 ≤ 1000000) ∧ (0 ≤ x.1 ∧ x.1 ≤ 1000))
/-- One stands ahead of another. -/
def ahd (a b : DScored) : Bool := decide (b.2 < a.2 ∨ (a.2 = b.2 ∧ a.1 < b.1))
/-- None of a list has the id. -/
def noId : List DScored → Int → Bool
  | [], _ => true
  | y :: r, i => !decide (y.1 = i) && noId r i
/-- The last of a list stands ahead. -/
def lastA (l : List DScored) (x : DScored) : Bool := match l.getLast? with | none => true | some y => ahd y x
/-- Each is as said, behind those ahead of it. -/
def rkOk : List DScored → List DScored → Bool
  | _, [] => true
  | pre, x :: r => (scOk x && lastA pre x && noId pre x.1) && rkOk (pre ++ [x]) r
def rkGood (l : List DScored) : Bool := rkOk [] l && decide (l.length ≤ 60)
/-- GoodRankings. -/
def fGoodRankings (l : List DRanking) : Bool := l.all rkGood && decide (l.length ≤ 5)
/-- What GoodRankings answers. -/
def RGoodRankings (x0 : List DRanking) (w : World) (e : Ending) (w' : World) : Prop := e = .returned (.bool (fGoodRankings x0)) ∧ Below w.heap.size w w'

/-- An id's score in a list, 0 where it is not there. -/
def scoreL : List DScored → Int → Int
  | [], _ => 0
  | x :: r, i => if x.1 = i then x.2 else scoreL r i
def sumL : List DRanking → Int → Int
  | [], _ => 0
  | r :: t, i => scoreL r i + sumL t i

theorem noId_append : ∀ (a b : List DScored) (i : Int), noId (a ++ b) i = (noId a i && noId b i)
  | [], b, i => by simp [noId]
  | y :: r, b, i => by simp only [List.cons_append, noId, noId_append r b i, Bool.and_assoc]
theorem noId_iff : ∀ (l : List DScored) (i : Int), noId l i = true ↔ ∀ y ∈ l, y.1 ≠ i
  | [], i => by simp [noId]
  | y :: r, i => by
    simp only [noId, Bool.and_eq_true, noId_iff r i, List.mem_cons, forall_eq_or_imp]
    simp
theorem noId_false {l : List DScored} {i : Int} {y : DScored} (h : y ∈ l) (hi : y.1 = i) : noId l i = false := by
  cases e : noId l i with
  | false => rfl
  | true => exact absurd hi ((noId_iff l i).1 e y h)
theorem scoreL_no : ∀ (l : List DScored) (i : Int), noId l i = true → scoreL l i = 0
  | [], i, _ => rfl
  | y :: r, i, h => by
    simp only [noId, Bool.and_eq_true] at h
    have h1 : ¬ y.1 = i := by simpa using h.1
    rw [scoreL, if_neg h1, scoreL_no r i h.2]
theorem scoreL_yes : ∀ (l : List DScored) (i : Int), (∀ y ∈ l, 1 ≤ y.2) → noId l i = false → 1 ≤ scoreL l i
  | [], i, _, h => by simp [noId] at h
  | y :: r, i, hy, h => by
    rw [scoreL]
    by_cases c : y.1 = i
    · rw [if_pos c]; exact hy y (by simp)
    · rw [if_neg c]
      refine scoreL_yes r i (fun z hz => hy z (by simp [hz])) ?_
      simpa [noId, c] using h
theorem scoreL_mem : ∀ (l : List DScored) (i : Int), noId l i = false → ∃ y ∈ l, y.1 = i ∧ scoreL l i = y.2
  | [], i, h => by simp [noId] at h
  | y :: r, i, h => by
    rw [scoreL]
    by_cases c : y.1 = i
    · exact ⟨y, by simp, c, by rw [if_pos c]⟩
    · obtain ⟨z, hz, h1, h2⟩ := scoreL_mem r i (by simpa [noId, c] using h)
      exact ⟨z, by simp [hz], h1, by rw [if_neg c, h2]⟩
theorem take_last {l : List DScored} {k : Nat} {y : DScored} (h : l[k]? = some y) : (l.take (k + 1)).getLast? = some y := by
  rw [List.take_add_one, h]
  simp
theorem lastA_at {l : List DScored} {k : Nat} {y : DScored} (h : l[k]? = some y) (x : DScored) : lastA (l.take (k + 1)) x = ahd y x := by
  unfold lastA
  rw [take_last h]
theorem rk_drop {l : List DScored} {k : Nat} {x : DScored} (h : l[k]? = some x) : rkOk (l.take k) (l.drop k) = ((scOk x && lastA (l.take k) x && noId (l.take k) x.1) && rkOk (l.take (k + 1)) (l.drop (k + 1))) := by
  have hk := (List.getElem?_eq_some_iff.1 h)
  rw [List.drop_eq_getElem_cons hk.1, hk.2, rkOk, List.take_add_one, h]
  rfl
theorem all_drop {l : List DRanking} {k : Nat} {x : DRanking} (h : l[k]? = some x) : (l.drop k).all rkGood = (rkGood x && (l.drop (k + 1)).all rkGood) := by
  have hk := (List.getElem?_eq_some_iff.1 h)
  rw [List.drop_eq_getElem_cons hk.1, hk.2, List.all_cons]
end Go.Proofs.Ytikgcgfigcolmaa
