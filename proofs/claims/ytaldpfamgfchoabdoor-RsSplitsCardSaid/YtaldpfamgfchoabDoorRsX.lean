/-
  rs, the document's: Invert.
-/
import Derived.Test.YtaldpfamgfchoabDoorRsW
namespace Go.Proofs.YtaldpfamgfchoabDoor.Rs
open Go.RowKit Gf
set_option maxRecDepth 100000

theorem firstP_next {p : Nat → Bool} : ∀ {m i : Nat}, firstP p i m = none → firstP p i (m + 1) = if p (i + m) then some (i + m) else none
  | 0, i, _ => rfl
  | m + 1, i, h => by
    unfold firstP at h
    by_cases e : p i = true
    · rw [if_pos e] at h; cases h
    · rw [if_neg e] at h
      show (if p i then some i else firstP p (i + 1) (m + 1)) = _
      rw [if_neg e, firstP_next h, show i + 1 + m = i + (m + 1) by omega]
theorem firstP_keep {p : Nat → Bool} : ∀ {m i k : Nat}, firstP p i m = some k → firstP p i (m + 1) = some k
  | m + 1, i, k, h => by
    unfold firstP at h
    show (if p i then some i else firstP p (i + 1) (m + 1)) = _
    by_cases e : p i = true
    · rw [if_pos e] at h ⊢; exact h
    · rw [if_neg e] at h ⊢; exact firstP_keep h
/-- A place, or -1. -/
def atI : Option Nat → Int
  | none => -1
  | some p => (p : Int)

end Go.Proofs.YtaldpfamgfchoabDoor.Rs
