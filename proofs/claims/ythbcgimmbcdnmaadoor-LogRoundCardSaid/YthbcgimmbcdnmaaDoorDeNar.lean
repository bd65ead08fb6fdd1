/-
  A region that draws, held against a state: the state narrowed behind a call.
-/
import Derived.Test.YthbcgimmbcdnmaaDoorHeldS
namespace Go.Proofs.YthbcgimmbcdnmaaDoor
open Go.RowKit
set_option maxRecDepth 100000

/-- What S asks may be narrowed where one stands. -/
theorem wpAnyH_narrow {P : Program} {ops : Array Oper} {Q : Exit → Act → World → Prop} {md : Region.Mode} {S S' : World → Prop} (hSS : ∀ w, S' w → S w) : ∀ (fuel : Nat) (listed : Array Bool) (a : Act) (w : World), wpAnyH P md ops Q S' fuel listed a w → wpAnyH P md ops Q S fuel listed a w
  | 0, _, _, _, h => h
  | fuel + 1, _, _, _, h => ⟨h.1, fun i hi => wpOp_mono (fun a' w' h' => ⟨hSS _ h'.1, wpAnyH_narrow hSS fuel _ a' w' h'.2⟩) (h.2 i hi)⟩

end Go.Proofs.YthbcgimmbcdnmaaDoor
