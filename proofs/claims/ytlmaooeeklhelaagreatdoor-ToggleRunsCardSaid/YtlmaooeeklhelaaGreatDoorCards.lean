/-
  DERIVED. GIVEN WITH THE SEED: THE CARDS: each row of YtlmaooeeklhelaaGreatDoorRows.lean that lists a variable, with what it lists TIED to the program's text (the seventh form; the later family's looks); each row that meets fmt, with fmt's text TOLD by the authors' own Lean function (tested against real Go, not proved from fmt's source: count such statements apart). THE CARD IS WHAT COUNTS. Prove the row's statement (the work); the ties are given (YtlmaooeeklhelaaGreatDoorTie.lean); close each card by the builder's one call (the guide's Derived/Test/ToyasCard.lean, 'card_holds'). Laid BY PROGRAM, IN A SANDBOX (cutbox-door.mjs). By AI agents, Wed Nov 11 2026. No macro, syntax, notation, axiom, sorry.
-/
import Derived.Test.YtlmaooeeklhelaaGreatDoorRows
import GoSem.ClaimSeven
namespace Go.Proofs.YtlmaooeeklhelaaGreatDoor
namespace Rows

/-- THE TIED CARD OF 'drydocklaw04.ToggleRuns'. -/
def toggleRunsCard : Claim7 := { stood := { row := toggleRunsRow, standIns := [], harness := (true, "4efaa6406e3e0dd3ceb5f11f4a35ae9bfab57492e8afc863f6141a95e9f4a328"), looks := true }, kinds := [], alts := [], laidByText := true, laidKinds := [.handle], laidTests := true, laidLooks := .later }
def ToggleRunsCardSaid : Prop := Claim7.holds Tryz.pinned (.plain (OpenSpec.ofChange toggleRunsSpec)) toggleRunsCard

/-- THE TIED CARD OF 'drydocklaw04.ToggleWhole'. -/
def toggleWholeCard : Claim7 := { stood := { row := toggleWholeRow, standIns := [], harness := (true, "4efaa6406e3e0dd3ceb5f11f4a35ae9bfab57492e8afc863f6141a95e9f4a328"), looks := true }, kinds := [], alts := [], laidByText := true, laidKinds := [.handle], laidTests := true, laidLooks := .later }
def ToggleWholeCardSaid : Prop := Claim7.holds Tryz.pinned (.plain (OpenSpec.ofChange toggleWholeSpec)) toggleWholeCard

/-- THE SECOND FORM's CARD OF 'drydocklaw04.ToggleRuns'. -/
def toggleRunsUptoCard : Claim7 := { stood := { row := toggleRunsUptoRow, standIns := [], harness := (true, "4efaa6406e3e0dd3ceb5f11f4a35ae9bfab57492e8afc863f6141a95e9f4a328"), looks := true }, kinds := [], alts := [], laidByText := true, laidKinds := [.handle], laidTests := true, laidLooks := .later }
def ToggleRunsUptoCardSaid : Prop := Claim7.holds Tryz.pinned (.plain (OpenSpec.upto toggleRunsSpec)) toggleRunsUptoCard

/-- THE SECOND FORM's CARD OF 'drydocklaw04.ToggleWhole'. -/
def toggleWholeUptoCard : Claim7 := { stood := { row := toggleWholeUptoRow, standIns := [], harness := (true, "4efaa6406e3e0dd3ceb5f11f4a35ae9bfab57492e8afc863f6141a95e9f4a328"), looks := true }, kinds := [], alts := [], laidByText := true, laidKinds := [.handle], laidTests := true, laidLooks := .later }
def ToggleWholeUptoCardSaid : Prop := Claim7.holds Tryz.pinned (.plain (OpenSpec.upto toggleWholeSpec)) toggleWholeUptoCard
end Rows
end Go.Proofs.YtlmaooeeklhelaaGreatDoor
