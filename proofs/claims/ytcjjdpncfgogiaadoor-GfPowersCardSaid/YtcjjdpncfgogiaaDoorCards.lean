/-
  DERIVED. GIVEN WITH THE SEED: THE CARDS: each row of YtcjjdpncfgogiaaDoorRows.lean that lists a variable, with what it lists TIED to the program's text (the seventh form; the later family's looks); each row that meets fmt, with fmt's text TOLD by the authors' own Lean function (tested against real Go, not proved from fmt's source: count such statements apart). THE CARD IS WHAT COUNTS. Prove the row's statement (the work); the ties are given (YtcjjdpncfgogiaaDoorTie.lean); close each card by the builder's one call (the guide's Derived/Test/ToyasCard.lean, 'card_holds'). Laid BY PROGRAM, IN A SANDBOX (cutbox-door.mjs). By AI agents, Wed Nov 11 2026. No macro, syntax, notation, axiom, sorry.
-/
import Derived.Test.YtcjjdpncfgogiaaDoorRows
import GoSem.ClaimSeven
namespace Go.Proofs.YtcjjdpncfgogiaaDoor
namespace Rows

/-- THE TIED CARD OF 'drydocklaw07.GfReckons'. -/
def gfReckonsCard : Claim7 := { stood := { row := gfReckonsRow, standIns := [], harness := (true, "99f9103eb6858a14d6afa7747baf1a1a1082d868500cd6f43854706f0d93f514"), looks := true }, kinds := [], alts := [], laidByText := true, laidKinds := [.handle], laidTests := true, laidLooks := .later }
def GfReckonsCardSaid : Prop := Claim7.holds Tryd.pinned (.plain (OpenSpec.ofChange gfReckonsSpec)) gfReckonsCard

/-- THE TIED CARD OF 'drydocklaw07.GfPowers'. -/
def gfPowersCard : Claim7 := { stood := { row := gfPowersRow, standIns := [], harness := (true, "99f9103eb6858a14d6afa7747baf1a1a1082d868500cd6f43854706f0d93f514"), looks := true }, kinds := [], alts := [], laidByText := true, laidKinds := [.handle], laidTests := true, laidLooks := .later }
def GfPowersCardSaid : Prop := Claim7.holds Tryd.pinned (.plain (OpenSpec.ofChange gfPowersSpec)) gfPowersCard

/-- THE TIED CARD OF 'drydocklaw07.GfInverses'. -/
def gfInversesCard : Claim7 := { stood := { row := gfInversesRow, standIns := [], harness := (true, "99f9103eb6858a14d6afa7747baf1a1a1082d868500cd6f43854706f0d93f514"), looks := true }, kinds := [], alts := [], laidByText := true, laidKinds := [.handle], laidTests := true, laidLooks := .later }
def GfInversesCardSaid : Prop := Claim7.holds Tryd.pinned (.plain (OpenSpec.ofChange gfInversesSpec)) gfInversesCard

/-- THE TIED CARD OF 'drydocklaw07.GfExponents'. -/
def gfExponentsCard : Claim7 := { stood := { row := gfExponentsRow, standIns := [], harness := (true, "99f9103eb6858a14d6afa7747baf1a1a1082d868500cd6f43854706f0d93f514"), looks := true }, kinds := [], alts := [], laidByText := true, laidKinds := [.handle], laidTests := true, laidLooks := .later }
def GfExponentsCardSaid : Prop := Claim7.holds Tryd.pinned (.plain (OpenSpec.ofChange gfExponentsSpec)) gfExponentsCard

/-- THE SECOND FORM's CARD OF 'drydocklaw07.GfReckons'. -/
def gfReckonsUptoCard : Claim7 := { stood := { row := gfReckonsUptoRow, standIns := [], harness := (true, "99f9103eb6858a14d6afa7747baf1a1a1082d868500cd6f43854706f0d93f514"), looks := true }, kinds := [], alts := [], laidByText := true, laidKinds := [.handle], laidTests := true, laidLooks := .later }
def GfReckonsUptoCardSaid : Prop := Claim7.holds Tryd.pinned (.plain (OpenSpec.upto gfReckonsSpec)) gfReckonsUptoCard

/-- THE SECOND FORM's CARD OF 'drydocklaw07.GfPowers'. -/
def gfPowersUptoCard : Claim7 := { stood := { row := gfPowersUptoRow, standIns := [], harness := (true, "99f9103eb6858a14d6afa7747baf1a1a1082d868500cd6f43854706f0d93f514"), looks := true }, kinds := [], alts := [], laidByText := true, laidKinds := [.handle], laidTests := true, laidLooks := .later }
def GfPowersUptoCardSaid : Prop := Claim7.holds Tryd.pinned (.plain (OpenSpec.upto gfPowersSpec)) gfPowersUptoCard

/-- THE SECOND FORM's CARD OF 'drydocklaw07.GfInverses'. -/
def gfInversesUptoCard : Claim7 := { stood := { row := gfInversesUptoRow, standIns := [], harness := (true, "99f9103eb6858a14d6afa7747baf1a1a1082d868500cd6f43854706f0d93f514"), looks := true }, kinds := [], alts := [], laidByText := true, laidKinds := [.handle], laidTests := true, laidLooks := .later }
def GfInversesUptoCardSaid : Prop := Claim7.holds Tryd.pinned (.plain (OpenSpec.upto gfInversesSpec)) gfInversesUptoCard

/-- THE SECOND FORM's CARD OF 'drydocklaw07.GfExponents'. -/
def gfExponentsUptoCard : Claim7 := { stood := { row := gfExponentsUptoRow, standIns := [], harness := (true, "99f9103eb6858a14d6afa7747baf1a1a1082d868500cd6f43854706f0d93f514"), looks := true }, kinds := [], alts := [], laidByText := true, laidKinds := [.handle], laidTests := true, laidLooks := .later }
def GfExponentsUptoCardSaid : Prop := Claim7.holds Tryd.pinned (.plain (OpenSpec.upto gfExponentsSpec)) gfExponentsUptoCard
end Rows
end Go.Proofs.YtcjjdpncfgogiaaDoor
