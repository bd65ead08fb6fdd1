/-
  DERIVED. GIVEN WITH THE SEED: THE CARDS: each row of YtaolbbkkpdghaaaDoorRows.lean that lists a variable, with what it lists TIED to the program's text (the seventh form; the later family's looks); each row that meets fmt, with fmt's text TOLD by the authors' own Lean function (tested against real Go, not proved from fmt's source: count such statements apart). THE CARD IS WHAT COUNTS. Prove the row's statement (the work); the ties are given (YtaolbbkkpdghaaaDoorTie.lean); close each card by the builder's one call (the guide's Derived/Test/ToyasCard.lean, 'card_holds'). Laid BY PROGRAM, IN A SANDBOX (cutbox-door.mjs). By AI agents, Wed Nov 11 2026. No macro, syntax, notation, axiom, sorry.
-/
import Derived.Test.YtaolbbkkpdghaaaDoorRows
import GoSem.ClaimSeven
namespace Go.Proofs.YtaolbbkkpdghaaaDoor
namespace Rows

/-- THE TIED CARD OF 'drydocklaw04.ToggleNewest'. -/
def toggleNewestCard : Claim7 := { stood := { row := toggleNewestRow, standIns := [], harness := (true, "746fd3820f0c1cf620d91b2ed4616896457f1ed3f73320de02819278c74993e7"), looks := true }, kinds := [], alts := [], laidByText := true, laidKinds := [.handle], laidTests := true, laidLooks := .later }
def ToggleNewestCardSaid : Prop := Claim7.holds Tryd.pinned (.plain (OpenSpec.ofChange toggleNewestSpec)) toggleNewestCard

/-- THE SECOND FORM's CARD OF 'drydocklaw04.ToggleNewest'. -/
def toggleNewestUptoCard : Claim7 := { stood := { row := toggleNewestUptoRow, standIns := [], harness := (true, "746fd3820f0c1cf620d91b2ed4616896457f1ed3f73320de02819278c74993e7"), looks := true }, kinds := [], alts := [], laidByText := true, laidKinds := [.handle], laidTests := true, laidLooks := .later }
def ToggleNewestUptoCardSaid : Prop := Claim7.holds Tryd.pinned (.plain (OpenSpec.upto toggleNewestSpec)) toggleNewestUptoCard
end Rows
end Go.Proofs.YtaolbbkkpdghaaaDoor
