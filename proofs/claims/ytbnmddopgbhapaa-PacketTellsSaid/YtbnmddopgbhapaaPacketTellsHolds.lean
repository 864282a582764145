/-
  Of every packet the bytes, or that it may not be, are the document's; of all bytes the packet, or that they are none, is; what was written is read as it was.
  No condition: every input. It speaks of the commit of the project that COMMIT names.
-/
import Derived.Test.YtbnmddopgbhapaaLetLawPT
import Derived.Test.YtbnmddopgbhapaaHold
import Derived.Test.YtbnmddopgbhapaaLetHold
namespace Go.Proofs.Ytbnmddopgbhapaa
open Go.ChangeShapes Go.WideShapes Go.ChangeAt Go.RowKit Go.WideMaps Go.WideElems
open Go.ChangeMaps (open_string shut_string)

end Go.Proofs.Ytbnmddopgbhapaa
