/-
  DERIVED. GIVEN WITH THE SEED: THE CARDS: each row of YtaldpfamgfchoabDoorRows.lean that lists a variable, with what it lists TIED to the program's text (the seventh form; the later family's looks); each row that meets fmt, with fmt's text TOLD by the authors' own Lean function (tested against real Go, not proved from fmt's source: count such statements apart). THE CARD IS WHAT COUNTS. Prove the row's statement (the work); the ties are given (YtaldpfamgfchoabDoorTie.lean); close each card by the builder's one call (the guide's Derived/Test/ToyasCard.lean, 'card_holds'). Laid BY PROGRAM, IN A SANDBOX (cutbox-door.mjs). By AI agents, Wed Nov 11 2026. No macro, syntax, notation, axiom, sorry.
-/
import Derived.Test.YtaldpfamgfchoabDoorRows
import GoSem.ClaimSeven
namespace Go.Proofs.YtaldpfamgfchoabDoor
namespace Rows

/-- THE TIED CARD OF 'drydocklaw08.RsSplits'. -/
def rsSplitsCard : Claim7 := { stood := { row := rsSplitsRow, standIns := [], harness := (true, "0ba7b65eb591455c34ada0e8b5e4ee0a272595218b2cc8b46c0e27703215b930"), looks := true }, kinds := [], alts := [], laidByText := true, laidKinds := [.handle], laidTests := true, laidLooks := .later }
def RsSplitsCardSaid : Prop := Claim7.holds Tryd.pinned (.plain (OpenSpec.ofChange rsSplitsSpec)) rsSplitsCard

/-- THE SECOND FORM's CARD OF 'drydocklaw08.RsSplits'. -/
def rsSplitsUptoCard : Claim7 := { stood := { row := rsSplitsUptoRow, standIns := [], harness := (true, "0ba7b65eb591455c34ada0e8b5e4ee0a272595218b2cc8b46c0e27703215b930"), looks := true }, kinds := [], alts := [], laidByText := true, laidKinds := [.handle], laidTests := true, laidLooks := .later }
def RsSplitsUptoCardSaid : Prop := Claim7.holds Tryd.pinned (.plain (OpenSpec.upto rsSplitsSpec)) rsSplitsUptoCard
end Rows
end Go.Proofs.YtaldpfamgfchoabDoor
