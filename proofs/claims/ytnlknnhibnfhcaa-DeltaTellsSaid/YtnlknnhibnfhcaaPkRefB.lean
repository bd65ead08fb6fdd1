/-
  The document's answer (chapter 2): a reader's Bool and Count.
-/
import Derived.Test.YtnlknnhibnfhcaaPkRefI
namespace Go.Proofs.Ytnlknnhibnfhcaa.Pk
open Go.RowKit
set_option maxRecDepth 100000

end Go.Proofs.Ytnlknnhibnfhcaa.Pk
