/-
  mem: slices.Insert of one entry in the middle, where there is no room.
-/
import Derived.Test.YtdfhjmodacjilaaMeF
import Derived.Laws.NewBlocks
namespace Go.Proofs.Ytdfhjmodacjilaa.Me
open Go.RowKit Go.Maps
set_option maxRecDepth 100000
set_option linter.unusedVariables false

theorem length_zeros (k : Nat) : (Builtin.zeroCells zeroV.cells k).size = k * 3 := by
  unfold Builtin.zeroCells
  rw [Array.size_map, Array.size_range]
  rfl

end Go.Proofs.Ytdfhjmodacjilaa.Me
