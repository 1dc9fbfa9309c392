/- string, opened. No condition. -/
import Derived.Test.YtdaomklgcdfllaaKdO
import Derived.Test.YtdaomklgcdfllaaKSstring
namespace Go.Proofs.Ytdaomklgcdfllaa
open Go.ChangeShapes Go.WideShapes Go.ChangeAt Go.RowKit Go.Deep Go.Joins
set_option linter.unusedVariables false

theorem opens_stringS : Opens (kRow kStr) 22 := opens_row _ _ 9 Try.underlying22 (by kernel_rfl) (by decide) opens_str

end Go.Proofs.Ytdaomklgcdfllaa
