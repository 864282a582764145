/-
  What a view of nothing looks like in memory. (This text alone names the code's own form.)
-/
import Derived.Test.YthjhfnbcfgkehaaWayKit
namespace Go.Proofs.Ythjhfnbcfgkehaa
open Go.RowKit

abbrev VZ : Array Value := #[.slice none 0 0]
end Go.Proofs.Ythjhfnbcfgkehaa
