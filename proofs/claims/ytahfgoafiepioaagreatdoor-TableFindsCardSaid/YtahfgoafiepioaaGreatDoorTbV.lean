/-
  table's laws: TableBuilds, walked.
-/
import Derived.Test.YtahfgoafiepioaaGreatDoorTbU
import Derived.Test.YtahfgoafiepioaaGreatDoorTbO
import Derived.Test.YtahfgoafiepioaaGreatDoorErrPk
namespace Go.Proofs.YtahfgoafiepioaaGreatDoor.Tb
open Go.RowKit
open Pk (stay_seal)
open Me (En EnS EnO Box enC enV norm ltB Sorted getL posN hasB sizeL)
open Pk (spellB bytesB Slc Owns)
set_option maxRecDepth 100000
set_option linter.unusedVariables false

end Go.Proofs.YtahfgoafiepioaaGreatDoor.Tb
