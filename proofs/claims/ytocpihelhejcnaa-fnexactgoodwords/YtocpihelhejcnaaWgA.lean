/- GoodWords: what both answer. No condition but that they fit in memory. -/
import Derived.Test.YtocpihelhejcnaaWgS
import Derived.Test.YtocpihelhejcnaaWgI
namespace Go.Proofs.Ytocpihelhejcnaa
open Go.RowKit
end Go.Proofs.Ytocpihelhejcnaa
