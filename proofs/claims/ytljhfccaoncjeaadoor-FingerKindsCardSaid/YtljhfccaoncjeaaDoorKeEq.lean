/-
  Two prints held against each other; how long a sum is.
-/
import Derived.Test.YtljhfccaoncjeaaDoorKeV
import Derived.Stop.BytesEq
namespace Go.Proofs.YtljhfccaoncjeaaDoor.Ke
open Go.RowKit
set_option maxRecDepth 100000

theorem size_u8 (w : World) : (sizeOf 5).run Tryd.prog w = .ok 1 w := by
  obtain ⟨i0, hi, hz0, hz1, hz2⟩ := info_parts info5
  simp [sizeOf, typeInfo, hi, hz1]
theorem eq_prt (w : World) (p q : List UInt8) (hp : p.length = 32) (hq : q.length = 32) : (Op.equalIn 10000 25 (arrV p) (arrV q)).run Tryd.prog w = .ok (p == q) w :=
  run_equalIn_bytes (P := Tryd.prog) w 9998 25 5 32 Tryd.underlying25 Tryd.underlying5 size_u8 p q hp hq
theorem length_sumK (b : List UInt8) : (sumK b).length = 32 := by simp [sumK, fromK, outK]

end Go.Proofs.YtljhfccaoncjeaaDoor.Ke
