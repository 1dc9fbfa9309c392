/- Bytes read as postings: the program's. No condition. -/
import Derived.Test.YtikgcgfigcolmaaUpM
import Derived.Test.YtikgcgfigcolmaaPoI
namespace Go.Proofs.Ytikgcgfigcolmaa
open Go.RowKit
set_option linter.unusedVariables false

theorem strL_ext (l : List UInt8) (a : Nat) : (strL l).extract a (strL l).size = strL (l.drop a) := by
  apply ByteArray.ext
  simp [strL, ByteArray.size]
  rw [List.take_of_length_le (by simp)]
theorem get0 (b : UInt8) (t : List UInt8) (h : 0 < (strL (b :: t)).size) : (strL (b :: t))[0] = b := rfl
theorem get1 (b c : UInt8) (t : List UInt8) (h : 1 < (strL (b :: c :: t)).size) : (strL (b :: c :: t))[1] = c := rfl

theorem below_dn (w : World) (n : Nat) : Below w.heap.size w (w.drewN n) := ⟨rfl, rfl, rfl, Nat.le_refl _, fun _ _ => rfl⟩

/-- What is read at the front: a number as it must be written, and what stands behind; or none. -/
def RdIs (l : List UInt8) (e : Ending) : Prop := (∃ a r, rd2 l = some (a, r) ∧ e = .returned (.tuple #[.int .i64 a, .string (strL r), .bool true])) ∨ (rd2 l = none ∧ ∃ (a : Int) (r : List UInt8), r.length ≤ l.length ∧ e = .returned (.tuple #[.int .i64 a, .string (strL r), .bool false]))

end Go.Proofs.Ytikgcgfigcolmaa
