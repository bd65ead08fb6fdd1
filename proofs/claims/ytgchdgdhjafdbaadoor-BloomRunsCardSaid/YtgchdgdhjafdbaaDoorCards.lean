/-
  DERIVED. GIVEN WITH THE SEED: THE CARDS: each row of YtgchdgdhjafdbaaDoorRows.lean that lists a variable, with what it lists TIED to the program's text (the seventh form; the later family's looks); each row that meets fmt, with fmt's text TOLD by the authors' own Lean function (tested against real Go, not proved from fmt's source: count such statements apart). THE CARD IS WHAT COUNTS. Prove the row's statement (the work); the ties are given (YtgchdgdhjafdbaaDoorTie.lean); close each card by the builder's one call (the guide's Derived/Test/ToyasCard.lean, 'card_holds'). Laid BY PROGRAM, IN A SANDBOX (cutbox-door.mjs). By AI agents, Wed Nov 11 2026. No macro, syntax, notation, axiom, sorry.
-/
import Derived.Test.YtgchdgdhjafdbaaDoorRows
import GoSem.ClaimSeven
namespace Go.Proofs.YtgchdgdhjafdbaaDoor
namespace Rows

/-- THE TIED CARD OF 'drydocklaw11.BloomRuns'. -/
def bloomRunsCard : Claim7 := { stood := { row := bloomRunsRow, standIns := [], harness := (true, "775edd6eaf1e6453c19f1151fb130168984c2188f731e06bfd3ef3ca0f7e6a80"), looks := true }, kinds := [], alts := [], laidByText := true, laidKinds := [.handle], laidTests := true, laidLooks := .later }
def BloomRunsCardSaid : Prop := Claim7.holds Tryd.pinned (.plain (OpenSpec.ofChange bloomRunsSpec)) bloomRunsCard

/-- THE TIED CARD OF 'drydocklaw11.BloomBits'. -/
def bloomBitsCard : Claim7 := { stood := { row := bloomBitsRow, standIns := [], harness := (true, "775edd6eaf1e6453c19f1151fb130168984c2188f731e06bfd3ef3ca0f7e6a80"), looks := true }, kinds := [], alts := [], laidByText := true, laidKinds := [.handle], laidTests := true, laidLooks := .later }
def BloomBitsCardSaid : Prop := Claim7.holds Tryd.pinned (.plain (OpenSpec.ofChange bloomBitsSpec)) bloomBitsCard

/-- THE TIED CARD OF 'drydocklaw11.BloomReads'. -/
def bloomReadsCard : Claim7 := { stood := { row := bloomReadsRow, standIns := [], harness := (true, "775edd6eaf1e6453c19f1151fb130168984c2188f731e06bfd3ef3ca0f7e6a80"), looks := true }, kinds := [], alts := [], laidByText := true, laidKinds := [.handle], laidTests := true, laidLooks := .later }
def BloomReadsCardSaid : Prop := Claim7.holds Tryd.pinned (.plain (OpenSpec.ofChange bloomReadsSpec)) bloomReadsCard

/-- THE SECOND FORM's CARD OF 'drydocklaw11.BloomRuns'. -/
def bloomRunsUptoCard : Claim7 := { stood := { row := bloomRunsUptoRow, standIns := [], harness := (true, "775edd6eaf1e6453c19f1151fb130168984c2188f731e06bfd3ef3ca0f7e6a80"), looks := true }, kinds := [], alts := [], laidByText := true, laidKinds := [.handle], laidTests := true, laidLooks := .later }
def BloomRunsUptoCardSaid : Prop := Claim7.holds Tryd.pinned (.plain (OpenSpec.upto bloomRunsSpec)) bloomRunsUptoCard

/-- THE SECOND FORM's CARD OF 'drydocklaw11.BloomBits'. -/
def bloomBitsUptoCard : Claim7 := { stood := { row := bloomBitsUptoRow, standIns := [], harness := (true, "775edd6eaf1e6453c19f1151fb130168984c2188f731e06bfd3ef3ca0f7e6a80"), looks := true }, kinds := [], alts := [], laidByText := true, laidKinds := [.handle], laidTests := true, laidLooks := .later }
def BloomBitsUptoCardSaid : Prop := Claim7.holds Tryd.pinned (.plain (OpenSpec.upto bloomBitsSpec)) bloomBitsUptoCard

/-- THE SECOND FORM's CARD OF 'drydocklaw11.BloomReads'. -/
def bloomReadsUptoCard : Claim7 := { stood := { row := bloomReadsUptoRow, standIns := [], harness := (true, "775edd6eaf1e6453c19f1151fb130168984c2188f731e06bfd3ef3ca0f7e6a80"), looks := true }, kinds := [], alts := [], laidByText := true, laidKinds := [.handle], laidTests := true, laidLooks := .later }
def BloomReadsUptoCardSaid : Prop := Claim7.holds Tryd.pinned (.plain (OpenSpec.upto bloomReadsSpec)) bloomReadsUptoCard
end Rows
end Go.Proofs.YtgchdgdhjafdbaaDoor
