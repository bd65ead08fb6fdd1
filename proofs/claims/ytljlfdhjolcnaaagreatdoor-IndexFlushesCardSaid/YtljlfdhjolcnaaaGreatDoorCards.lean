/-
  DERIVED. GIVEN WITH THE SEED: THE CARDS: each row of YtljlfdhjolcnaaaGreatDoorRows.lean that lists a variable, with what it lists TIED to the program's text (the seventh form; the later family's looks); each row that meets fmt, with fmt's text TOLD by the authors' own Lean function (tested against real Go, not proved from fmt's source: count such statements apart). THE CARD IS WHAT COUNTS. Prove the row's statement (the work); the ties are given (YtljlfdhjolcnaaaGreatDoorTie.lean); close each card by the builder's one call (the guide's Derived/Test/ToyasCard.lean, 'card_holds'). Laid BY PROGRAM, IN A SANDBOX (cutbox-door.mjs). By AI agents, Wed Nov 11 2026. No macro, syntax, notation, axiom, sorry.
-/
import Derived.Test.YtljlfdhjolcnaaaGreatDoorRows
import GoSem.ClaimSeven
namespace Go.Proofs.YtljlfdhjolcnaaaGreatDoor
namespace Rows

/-- THE TIED CARD OF 'drydocklaw15.IndexReads'. -/
def indexReadsCard : Claim7 := { stood := { row := indexReadsRow, standIns := [], harness := (true, "0ee4278f1a35cb7709bdb999f9b29bc4e79ca8d5cebfbd4ae394de85ac63f8f7"), looks := true }, kinds := [], alts := [], laidByText := true, laidKinds := [.handle], laidTests := true, laidLooks := .later }
def IndexReadsCardSaid : Prop := Claim7.holds Tryz.pinned (.plain (OpenSpec.ofChange indexReadsSpec)) indexReadsCard

/-- THE TIED CARD OF 'drydocklaw15.IndexFlushes'. -/
def indexFlushesCard : Claim7 := { stood := { row := indexFlushesRow, standIns := [], harness := (true, "0ee4278f1a35cb7709bdb999f9b29bc4e79ca8d5cebfbd4ae394de85ac63f8f7"), looks := true }, kinds := [], alts := [], laidByText := true, laidKinds := [.handle], laidTests := true, laidLooks := .later }
def IndexFlushesCardSaid : Prop := Claim7.holds Tryz.pinned (.plain (OpenSpec.ofChange indexFlushesSpec)) indexFlushesCard

/-- THE SECOND FORM's CARD OF 'drydocklaw15.IndexReads'. -/
def indexReadsUptoCard : Claim7 := { stood := { row := indexReadsUptoRow, standIns := [], harness := (true, "0ee4278f1a35cb7709bdb999f9b29bc4e79ca8d5cebfbd4ae394de85ac63f8f7"), looks := true }, kinds := [], alts := [], laidByText := true, laidKinds := [.handle], laidTests := true, laidLooks := .later }
def IndexReadsUptoCardSaid : Prop := Claim7.holds Tryz.pinned (.plain (OpenSpec.upto indexReadsSpec)) indexReadsUptoCard

/-- THE SECOND FORM's CARD OF 'drydocklaw15.IndexFlushes'. -/
def indexFlushesUptoCard : Claim7 := { stood := { row := indexFlushesUptoRow, standIns := [], harness := (true, "0ee4278f1a35cb7709bdb999f9b29bc4e79ca8d5cebfbd4ae394de85ac63f8f7"), looks := true }, kinds := [], alts := [], laidByText := true, laidKinds := [.handle], laidTests := true, laidLooks := .later }
def IndexFlushesUptoCardSaid : Prop := Claim7.holds Tryz.pinned (.plain (OpenSpec.upto indexFlushesSpec)) indexFlushesUptoCard
end Rows
end Go.Proofs.YtljlfdhjolcnaaaGreatDoor
