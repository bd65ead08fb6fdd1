/-
  DERIVED. GIVEN WITH THE SEED: THE CARDS: each row of YtaldpfamgfchoaaDoorRows.lean that lists a variable, with what it lists TIED to the program's text (the seventh form; the later family's looks); each row that meets fmt, with fmt's text TOLD by the authors' own Lean function (tested against real Go, not proved from fmt's source: count such statements apart). THE CARD IS WHAT COUNTS. Prove the row's statement (the work); the ties are given (YtaldpfamgfchoaaDoorTie.lean); close each card by the builder's one call (the guide's Derived/Test/ToyasCard.lean, 'card_holds'). Laid BY PROGRAM, IN A SANDBOX (cutbox-door.mjs). By AI agents, Wed Nov 11 2026. No macro, syntax, notation, axiom, sorry.
-/
import Derived.Test.YtaldpfamgfchoaaDoorRows
import GoSem.ClaimSeven
namespace Go.Proofs.YtaldpfamgfchoaaDoor
namespace Rows

/-- THE TIED CARD OF 'drydocklaw08.RsParts'. -/
def rsPartsCard : Claim7 := { stood := { row := rsPartsRow, standIns := [], harness := (true, "167968345668105ed0a3d32a243cb994bfb17f265d94fde0a997e2a2d29b3de1"), looks := true }, kinds := [], alts := [], laidByText := true, laidKinds := [.handle], laidTests := true, laidLooks := .later }
def RsPartsCardSaid : Prop := Claim7.holds Tryd.pinned (.plain (OpenSpec.ofChange rsPartsSpec)) rsPartsCard

/-- THE TIED CARD OF 'drydocklaw08.RsLost'. -/
def rsLostCard : Claim7 := { stood := { row := rsLostRow, standIns := [], harness := (true, "167968345668105ed0a3d32a243cb994bfb17f265d94fde0a997e2a2d29b3de1"), looks := true }, kinds := [], alts := [], laidByText := true, laidKinds := [.handle], laidTests := true, laidLooks := .later }
def RsLostCardSaid : Prop := Claim7.holds Tryd.pinned (.plain (OpenSpec.ofChange rsLostSpec)) rsLostCard

/-- THE TIED CARD OF 'drydocklaw08.RsMatrix'. -/
def rsMatrixCard : Claim7 := { stood := { row := rsMatrixRow, standIns := [], harness := (true, "167968345668105ed0a3d32a243cb994bfb17f265d94fde0a997e2a2d29b3de1"), looks := true }, kinds := [], alts := [], laidByText := true, laidKinds := [.handle], laidTests := true, laidLooks := .later }
def RsMatrixCardSaid : Prop := Claim7.holds Tryd.pinned (.plain (OpenSpec.ofChange rsMatrixSpec)) rsMatrixCard

/-- THE TIED CARD OF 'drydocklaw08.RsTexts'. -/
def rsTextsCard : Claim7 := { stood := { row := rsTextsRow, standIns := [], harness := (true, "167968345668105ed0a3d32a243cb994bfb17f265d94fde0a997e2a2d29b3de1"), looks := true }, kinds := [], alts := [], laidByText := true, laidKinds := [.handle], laidTests := true, laidLooks := .later }
def RsTextsCardSaid : Prop := Claim7.holds Tryd.pinned (.plain (OpenSpec.ofChange rsTextsSpec)) rsTextsCard

/-- THE TIED CARD OF 'drydocklaw08.RsRows'. -/
def rsRowsCard : Claim7 := { stood := { row := rsRowsRow, standIns := [], harness := (true, "167968345668105ed0a3d32a243cb994bfb17f265d94fde0a997e2a2d29b3de1"), looks := true }, kinds := [], alts := [], laidByText := true, laidKinds := [.handle], laidTests := true, laidLooks := .later }
def RsRowsCardSaid : Prop := Claim7.holds Tryd.pinned (.plain (OpenSpec.ofChange rsRowsSpec)) rsRowsCard

/-- THE TIED CARD OF 'drydocklaw08.RsEncodes'. -/
def rsEncodesCard : Claim7 := { stood := { row := rsEncodesRow, standIns := [], harness := (true, "167968345668105ed0a3d32a243cb994bfb17f265d94fde0a997e2a2d29b3de1"), looks := true }, kinds := [], alts := [], laidByText := true, laidKinds := [.handle], laidTests := true, laidLooks := .later }
def RsEncodesCardSaid : Prop := Claim7.holds Tryd.pinned (.plain (OpenSpec.ofChange rsEncodesSpec)) rsEncodesCard

/-- THE SECOND FORM's CARD OF 'drydocklaw08.RsParts'. -/
def rsPartsUptoCard : Claim7 := { stood := { row := rsPartsUptoRow, standIns := [], harness := (true, "167968345668105ed0a3d32a243cb994bfb17f265d94fde0a997e2a2d29b3de1"), looks := true }, kinds := [], alts := [], laidByText := true, laidKinds := [.handle], laidTests := true, laidLooks := .later }
def RsPartsUptoCardSaid : Prop := Claim7.holds Tryd.pinned (.plain (OpenSpec.upto rsPartsSpec)) rsPartsUptoCard

/-- THE SECOND FORM's CARD OF 'drydocklaw08.RsLost'. -/
def rsLostUptoCard : Claim7 := { stood := { row := rsLostUptoRow, standIns := [], harness := (true, "167968345668105ed0a3d32a243cb994bfb17f265d94fde0a997e2a2d29b3de1"), looks := true }, kinds := [], alts := [], laidByText := true, laidKinds := [.handle], laidTests := true, laidLooks := .later }
def RsLostUptoCardSaid : Prop := Claim7.holds Tryd.pinned (.plain (OpenSpec.upto rsLostSpec)) rsLostUptoCard

/-- THE SECOND FORM's CARD OF 'drydocklaw08.RsMatrix'. -/
def rsMatrixUptoCard : Claim7 := { stood := { row := rsMatrixUptoRow, standIns := [], harness := (true, "167968345668105ed0a3d32a243cb994bfb17f265d94fde0a997e2a2d29b3de1"), looks := true }, kinds := [], alts := [], laidByText := true, laidKinds := [.handle], laidTests := true, laidLooks := .later }
def RsMatrixUptoCardSaid : Prop := Claim7.holds Tryd.pinned (.plain (OpenSpec.upto rsMatrixSpec)) rsMatrixUptoCard

/-- THE SECOND FORM's CARD OF 'drydocklaw08.RsTexts'. -/
def rsTextsUptoCard : Claim7 := { stood := { row := rsTextsUptoRow, standIns := [], harness := (true, "167968345668105ed0a3d32a243cb994bfb17f265d94fde0a997e2a2d29b3de1"), looks := true }, kinds := [], alts := [], laidByText := true, laidKinds := [.handle], laidTests := true, laidLooks := .later }
def RsTextsUptoCardSaid : Prop := Claim7.holds Tryd.pinned (.plain (OpenSpec.upto rsTextsSpec)) rsTextsUptoCard

/-- THE SECOND FORM's CARD OF 'drydocklaw08.RsRows'. -/
def rsRowsUptoCard : Claim7 := { stood := { row := rsRowsUptoRow, standIns := [], harness := (true, "167968345668105ed0a3d32a243cb994bfb17f265d94fde0a997e2a2d29b3de1"), looks := true }, kinds := [], alts := [], laidByText := true, laidKinds := [.handle], laidTests := true, laidLooks := .later }
def RsRowsUptoCardSaid : Prop := Claim7.holds Tryd.pinned (.plain (OpenSpec.upto rsRowsSpec)) rsRowsUptoCard

/-- THE SECOND FORM's CARD OF 'drydocklaw08.RsEncodes'. -/
def rsEncodesUptoCard : Claim7 := { stood := { row := rsEncodesUptoRow, standIns := [], harness := (true, "167968345668105ed0a3d32a243cb994bfb17f265d94fde0a997e2a2d29b3de1"), looks := true }, kinds := [], alts := [], laidByText := true, laidKinds := [.handle], laidTests := true, laidLooks := .later }
def RsEncodesUptoCardSaid : Prop := Claim7.holds Tryd.pinned (.plain (OpenSpec.upto rsEncodesSpec)) rsEncodesUptoCard
end Rows
end Go.Proofs.YtaldpfamgfchoaaDoor
