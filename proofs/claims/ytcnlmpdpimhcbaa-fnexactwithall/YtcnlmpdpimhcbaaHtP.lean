/- Texts that are meant, by how many of the words they have: the mathematics. No condition. -/
import Derived.Test.YtcnlmpdpimhcbaaHtS
import Derived.Test.YtcnlmpdpimhcbaaAp2
namespace Go.Proofs.Ytcnlmpdpimhcbaa
open Go.RowKit
set_option linter.unusedVariables false

/-- The places at which f holds. -/
def pickL (f : Int → Bool) : Nat → List Int → List Int
  | _, [] => []
  | k, n :: r => if f n = true then (k : Int) :: pickL f (k + 1) r else pickL f (k + 1) r
theorem pick_drop (f : Int → Bool) {M : List Int} {k : Nat} {n : Int} (h : M[k]? = some n) : pickL f k (M.drop k) = if f n = true then (k : Int) :: pickL f (k + 1) (M.drop (k + 1)) else pickL f (k + 1) (M.drop (k + 1)) := by
  have hk := (List.getElem?_eq_some_iff.1 h)
  rw [List.drop_eq_getElem_cons hk.1, hk.2, pickL]
theorem pick_len (f : Int → Bool) : ∀ (M : List Int) (k : Nat), (pickL f k M).length ≤ M.length
  | [], k => Nat.le_refl _
  | n :: r, k => by
    have := pick_len f r (k + 1)
    rw [pickL]
    split <;> simp <;> omega
theorem pick_bnd (f : Int → Bool) : ∀ (M : List Int) (k : Nat), ∀ x ∈ pickL f k M, 0 ≤ x ∧ x < k + M.length
  | [], k => fun x hx => by simp [pickL] at hx
  | n :: r, k => by
    have ih := pick_bnd f r (k + 1)
    rw [pickL]
    intro x hx
    split at hx
    · rcases List.mem_cons.1 hx with rfl | hx
      · simp; omega
      · have := ih x hx; simp; omega
    · have := ih x hx; simp; omega
/-- The texts that are meant. -/
def fWith (f : Int → Bool) (x : DWords) (ws : List ByteArray) : List Int × Bool := match fMarks x ws with | none => ([], false) | some M => (pickL f 0 M, true)
def RWith (f : Int → Bool) (x0 : DWords) (x1 : List ByteArray) (w : World) (e : Ending) (w' : World) : Prop := ∃ (a0 : Option Addr) (n0 c0 : Nat) (T0 : Nat → Prop), e = .returned (.tuple #[.slice a0 n0 c0, .bool (fWith f x0 x1).2]) ∧ (kRow kInt).is true w' T0 [.slice a0 n0 c0] (fWith f x0 x1).1 ∧ (∀ k, T0 k → w.heap.size ≤ k) ∧ sums kInt.cnt (fWith f x0 x1).1 ≤ 2 ^ 26 ∧ Below w.heap.size w w'
theorem RWith.no {f : Int → Bool} {x : DWords} {ws : List ByteArray} {w w' : World} (h : fMarks x ws = none) (hb : Below w.heap.size w w') : RWith f x ws w (.returned (.tuple #[.slice none 0 0, .bool false])) w' := by
  unfold RWith fWith
  rw [h]
  exact ⟨none, 0, 0, fun _ => False, rfl, row_nil _ _ _ _ _ _, fun k hk => hk.elim, by simp [sums], hb⟩
theorem cnt_ints (l : List Int) : sums kInt.cnt l = l.length := by
  have := sums_const 1 l
  simpa [kInt] using this
theorem RWith.yes {f : Int → Bool} {x : DWords} {ws : List ByteArray} {w w' : World} {M L : List Int} {B : Nat} {a : Option Addr} {n c : Nat} (h : fMarks x ws = some M) (hm : M.length ≤ 40) (hL : L = pickL f 0 M) (hB : w.heap.size ≤ B) (ho : OwnL (fun y => [.int .i64 y]) 3 1 w' B (.slice a n c) L) (hb : Below w.heap.size w w') : RWith f x ws w (.returned (.tuple #[.slice a n c, .bool true])) w' := by
  unfold RWith fWith
  rw [h]
  subst hL
  have h1 := pick_len f M 0
  have h2 := pick_bnd f M 0
  refine ⟨a, n, c, fun k => B ≤ k, rfl, own_kRow (K := kInt) (fun _ => rfl) ho (by show (pickL f 0 M).length ≤ maxLen; unfold maxLen; omega) (fun x hx _ _ => ⟨rfl, by have := h2 x hx; unfold IntOk; omega⟩), fun k hk => Nat.le_trans hB hk, ?_, hb⟩
  rw [cnt_ints]
  show (pickL f 0 M).length ≤ _
  omega
theorem MkAt.belowB {w w' : World} {g B : Nat} {M : List Int} (h : MkAt w g M) (hg : g < B) (hb : Below B w w') : MkAt w' g M :=
  ⟨Nat.lt_of_lt_of_le h.1 hb.size, fun i x hx => by
    rw [World.cell?_of_block (w := w) (hb.block g hg), World.frozen?_of_block (w := w) (hb.block g hg)]
    exact h.2 i x hx⟩
end Go.Proofs.Ytcnlmpdpimhcbaa
