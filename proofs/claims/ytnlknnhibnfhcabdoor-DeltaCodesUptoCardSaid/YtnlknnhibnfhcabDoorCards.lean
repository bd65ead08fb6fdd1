/-
  DERIVED. GIVEN WITH THE SEED: THE CARDS: each row of YtnlknnhibnfhcabDoorRows.lean that lists a variable, with what it lists TIED to the program's text (the seventh form; the later family's looks); each row that meets fmt, with fmt's text TOLD by the authors' own Lean function (tested against real Go, not proved from fmt's source: count such statements apart). THE CARD IS WHAT COUNTS. Prove the row's statement (the work); the ties are given (YtnlknnhibnfhcabDoorTie.lean); close each card by the builder's one call (the guide's Derived/Test/ToyasCard.lean, 'card_holds'). Laid BY PROGRAM, IN A SANDBOX (cutbox-door.mjs). By AI agents, Wed Nov 11 2026. No macro, syntax, notation, axiom, sorry.
-/
import Derived.Test.YtnlknnhibnfhcabDoorRows
import GoSem.ClaimSeven
namespace Go.Proofs.YtnlknnhibnfhcabDoor
namespace Rows

/-- THE TIED CARD OF 'drydocklaw10.DeltaCodes'. -/
def deltaCodesCard : Claim7 := { stood := { row := deltaCodesRow, standIns := [], harness := (true, "57744b33fd8751bc62b39dc36df1fe8982acf2ca5308e4bb240abd0a5a9c511b"), looks := true }, kinds := [], alts := [], laidByText := true, laidKinds := [.handle], laidTests := true, laidLooks := .later }
def DeltaCodesCardSaid : Prop := Claim7.holds Tryd.pinned (.plain (OpenSpec.ofChange deltaCodesSpec)) deltaCodesCard

/-- THE SECOND FORM's CARD OF 'drydocklaw10.DeltaCodes'. -/
def deltaCodesUptoCard : Claim7 := { stood := { row := deltaCodesUptoRow, standIns := [], harness := (true, "57744b33fd8751bc62b39dc36df1fe8982acf2ca5308e4bb240abd0a5a9c511b"), looks := true }, kinds := [], alts := [], laidByText := true, laidKinds := [.handle], laidTests := true, laidLooks := .later }
def DeltaCodesUptoCardSaid : Prop := Claim7.holds Tryd.pinned (.plain (OpenSpec.upto deltaCodesSpec)) deltaCodesUptoCard
end Rows
end Go.Proofs.YtnlknnhibnfhcabDoor
