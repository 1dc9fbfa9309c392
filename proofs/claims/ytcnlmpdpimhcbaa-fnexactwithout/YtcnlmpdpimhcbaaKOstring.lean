/- string, opened. No condition. -/
import Derived.Test.YtcnlmpdpimhcbaaKdO
import Derived.Test.YtcnlmpdpimhcbaaKSstring
namespace Go.Proofs.Ytcnlmpdpimhcbaa
open Go.ChangeShapes Go.WideShapes Go.ChangeAt Go.RowKit Go.Deep Go.Joins
set_option linter.unusedVariables false

theorem opens_stringS : Opens (kRow kStr) 32 := opens_row _ _ 9 Try.underlying32 (by kernel_rfl) (by decide) opens_str

end Go.Proofs.Ytcnlmpdpimhcbaa
