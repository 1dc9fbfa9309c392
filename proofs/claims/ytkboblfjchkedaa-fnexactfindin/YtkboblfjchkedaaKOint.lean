/- int, opened. No condition. -/
import Derived.Test.YtkboblfjchkedaaKdO
import Derived.Test.YtkboblfjchkedaaKSint
namespace Go.Proofs.Ytkboblfjchkedaa
open Go.ChangeShapes Go.WideShapes Go.ChangeAt Go.RowKit Go.Deep Go.Joins
set_option linter.unusedVariables false

theorem opens_intS : Opens (kRow kInt) 24 := opens_row _ _ 3 Try.underlying24 (by kernel_rfl) (by decide) opens_int

end Go.Proofs.Ytkboblfjchkedaa
