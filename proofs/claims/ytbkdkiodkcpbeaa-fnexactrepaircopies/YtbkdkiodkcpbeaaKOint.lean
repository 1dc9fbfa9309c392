/- int, opened. No condition. -/
import Derived.Test.YtbkdkiodkcpbeaaKdO
import Derived.Test.YtbkdkiodkcpbeaaKSint
namespace Go.Proofs.Ytbkdkiodkcpbeaa
open Go.ChangeShapes Go.WideShapes Go.ChangeAt Go.RowKit Go.Deep Go.Joins
set_option linter.unusedVariables false

theorem opens_intS : Opens (kRow kInt) 26 := opens_row _ _ 3 Try.underlying26 (by kernel_rfl) (by decide) opens_int

end Go.Proofs.Ytbkdkiodkcpbeaa
