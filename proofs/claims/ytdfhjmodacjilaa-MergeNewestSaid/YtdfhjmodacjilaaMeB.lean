/-
  mem: New, the entries themselves, how keys are compared, where a key stands.
-/
import Derived.Test.YtdfhjmodacjilaaMeA
namespace Go.Proofs.Ytdfhjmodacjilaa.Me
open Go.RowKit Go.Maps
set_option maxRecDepth 100000
set_option linter.unusedVariables false

end Go.Proofs.Ytdfhjmodacjilaa.Me
