/-
  DERIVED. GIVEN WITH THE SEED: THE CARDS: each row of YtobofagalblhiaaDoorRows.lean that lists a variable, with what it lists TIED to the program's text (the seventh form; the later family's looks); each row that meets fmt, with fmt's text TOLD by the authors' own Lean function (tested against real Go, not proved from fmt's source: count such statements apart). THE CARD IS WHAT COUNTS. Prove the row's statement (the work); the ties are given (YtobofagalblhiaaDoorTie.lean); close each card by the builder's one call (the guide's Derived/Test/ToyasCard.lean, 'card_holds'). Laid BY PROGRAM, IN A SANDBOX (cutbox-door.mjs). By AI agents, Wed Nov 11 2026. No macro, syntax, notation, axiom, sorry.
-/
import Derived.Test.YtobofagalblhiaaDoorRows
import GoSem.ClaimSeven
namespace Go.Proofs.YtobofagalblhiaaDoor
namespace Rows

/-- THE TIED CARD OF 'drydocklaw01.DevArmed'. -/
def devArmedCard : Claim7 := { stood := { row := devArmedRow, standIns := [], harness := (true, "d9bcf17408293a442d53fa556dcd5f6c9fb265fafa2a8d6868148200a0ed41ee"), looks := true }, kinds := [], alts := [], laidByText := true, laidKinds := [.handle], laidTests := true, laidLooks := .later }
def DevArmedCardSaid : Prop := Claim7.holds Tryd.pinned (.plain (OpenSpec.ofChange devArmedSpec)) devArmedCard

/-- THE SECOND FORM's CARD OF 'drydocklaw01.DevArmed'. -/
def devArmedUptoCard : Claim7 := { stood := { row := devArmedUptoRow, standIns := [], harness := (true, "d9bcf17408293a442d53fa556dcd5f6c9fb265fafa2a8d6868148200a0ed41ee"), looks := true }, kinds := [], alts := [], laidByText := true, laidKinds := [.handle], laidTests := true, laidLooks := .later }
def DevArmedUptoCardSaid : Prop := Claim7.holds Tryd.pinned (.plain (OpenSpec.upto devArmedSpec)) devArmedUptoCard
end Rows
end Go.Proofs.YtobofagalblhiaaDoor
