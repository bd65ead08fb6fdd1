/-
  DERIVED. GIVEN WITH THE SEED: THE CARDS: each row of YtmbckgebakfceaaDoorRows.lean that lists a variable, with what it lists TIED to the program's text (the seventh form; the later family's looks); each row that meets fmt, with fmt's text TOLD by the authors' own Lean function (tested against real Go, not proved from fmt's source: count such statements apart). THE CARD IS WHAT COUNTS. Prove the row's statement (the work); the ties are given (YtmbckgebakfceaaDoorTie.lean); close each card by the builder's one call (the guide's Derived/Test/ToyasCard.lean, 'card_holds'). Laid BY PROGRAM, IN A SANDBOX (cutbox-door.mjs). By AI agents, Wed Nov 11 2026. No macro, syntax, notation, axiom, sorry.
-/
import Derived.Test.YtmbckgebakfceaaDoorRows
import GoSem.ClaimSeven
namespace Go.Proofs.YtmbckgebakfceaaDoor
namespace Rows

/-- THE TIED CARD OF 'drydocklaw01.DevArmed'. -/
def devArmedCard : Claim7 := { stood := { row := devArmedRow, standIns := [], harness := (true, "bf321d90cd0eb64954d223d189a4c09ddc426d67b82ef575549b6f7f7700726e"), looks := true }, kinds := [], alts := [], laidByText := true, laidKinds := [.handle], laidTests := true, laidLooks := .later }
def DevArmedCardSaid : Prop := Claim7.holds Tryd.pinned (.plain (OpenSpec.ofChange devArmedSpec)) devArmedCard

/-- THE TIED CARD OF 'drydocklaw01.DevWrites'. -/
def devWritesCard : Claim7 := { stood := { row := devWritesRow, standIns := [], harness := (true, "bf321d90cd0eb64954d223d189a4c09ddc426d67b82ef575549b6f7f7700726e"), looks := true }, kinds := [], alts := [], laidByText := true, laidKinds := [.handle], laidTests := true, laidLooks := .later }
def DevWritesCardSaid : Prop := Claim7.holds Tryd.pinned (.plain (OpenSpec.ofChange devWritesSpec)) devWritesCard

/-- THE SECOND FORM's CARD OF 'drydocklaw01.DevArmed'. -/
def devArmedUptoCard : Claim7 := { stood := { row := devArmedUptoRow, standIns := [], harness := (true, "bf321d90cd0eb64954d223d189a4c09ddc426d67b82ef575549b6f7f7700726e"), looks := true }, kinds := [], alts := [], laidByText := true, laidKinds := [.handle], laidTests := true, laidLooks := .later }
def DevArmedUptoCardSaid : Prop := Claim7.holds Tryd.pinned (.plain (OpenSpec.upto devArmedSpec)) devArmedUptoCard

/-- THE SECOND FORM's CARD OF 'drydocklaw01.DevWrites'. -/
def devWritesUptoCard : Claim7 := { stood := { row := devWritesUptoRow, standIns := [], harness := (true, "bf321d90cd0eb64954d223d189a4c09ddc426d67b82ef575549b6f7f7700726e"), looks := true }, kinds := [], alts := [], laidByText := true, laidKinds := [.handle], laidTests := true, laidLooks := .later }
def DevWritesUptoCardSaid : Prop := Claim7.holds Tryd.pinned (.plain (OpenSpec.upto devWritesSpec)) devWritesUptoCard
end Rows
end Go.Proofs.YtmbckgebakfceaaDoor
