/-
  rs, the document's: Decode.
-/
import Derived.Test.YtaldpfamgfchoabDoorRsX
namespace Go.Proofs.YtaldpfamgfchoabDoor.Rs
open Go.RowKit Gf
set_option maxRecDepth 100000

end Go.Proofs.YtaldpfamgfchoabDoor.Rs
