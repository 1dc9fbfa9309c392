/- int, opened. No condition. -/
import Derived.Test.YtpcncdddikmdbaaKdO
import Derived.Test.YtpcncdddikmdbaaKSint
namespace Go.Proofs.Ytpcncdddikmdbaa
open Go.ChangeShapes Go.WideShapes Go.ChangeAt Go.RowKit Go.Deep Go.Joins
set_option linter.unusedVariables false

theorem opens_intS : Opens (kRow kInt) 22 := opens_row _ _ 3 Try.underlying22 (by kernel_rfl) (by decide) opens_int

end Go.Proofs.Ytpcncdddikmdbaa
