/- Postings as bytes: the specification's. No condition. -/
import Derived.Test.YtikgcgfigcolmaaSeM
import Derived.Test.YtikgcgfigcolmaaPoS
namespace Go.Proofs.Ytikgcgfigcolmaa
open Go.RowKit
set_option linter.unusedVariables false

/-- The bytes of postings, last being the text ahead. -/
def packN : Int → List DPosting → List Int
  | _, [] => []
  | last, (t, m) :: r => sev (t - last - 1) ++ sev m ++ packN t r
theorem packN_len : ∀ (l : List DPosting) (last : Int), (packN last l).length ≤ 4 * l.length
  | [], _ => by simp [packN]
  | (t, m) :: r, last => by
    have h1 := packN_len r t
    have h2 := sev_len (t - last - 1)
    have h3 := sev_len m
    simp only [packN, List.length_append, List.length_cons]
    omega
/-- PackPostings. -/
def fPackPostings (l : List DPosting) : ByteArray × Bool := if postOk 10001 (-1) l = true ∧ l.length ≤ 200 then (strOfNums (packN (-1) l), true) else (⟨#[]⟩, false)
/-- What PackPostings answers. -/
def RPackPostings (x0 : List DPosting) (w : World) (e : Ending) (w' : World) : Prop := e = .returned (.tuple #[.string (fPackPostings x0).1, .bool (fPackPostings x0).2]) ∧ (fPackPostings x0).1.size ≤ 2 ^ 24 ∧ Below w.heap.size w w'

end Go.Proofs.Ytikgcgfigcolmaa
