/-
  The document's Mix, Seats.
-/
import Derived.Test.YtfpoapmbpbkibaaSeatPure
import Derived.Test.YtfpoapmbpbkibaaPbBook
namespace Go.Proofs.Ytfpoapmbpbkibaa
open Go.RowKit Pb

end Go.Proofs.Ytfpoapmbpbkibaa
