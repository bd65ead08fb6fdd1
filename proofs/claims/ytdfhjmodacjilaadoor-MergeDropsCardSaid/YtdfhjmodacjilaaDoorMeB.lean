/-
  mem: New, the entries themselves, how keys are compared, where a key stands.
-/
import Derived.Test.YtdfhjmodacjilaaDoorMeA
namespace Go.Proofs.YtdfhjmodacjilaaDoor.Me
open Go.RowKit Go.Maps
set_option maxRecDepth 100000
set_option linter.unusedVariables false

end Go.Proofs.YtdfhjmodacjilaaDoor.Me
