/-
  The document's answer (chapter 2): a reader's Count.
-/
import Derived.Test.YtgchdgdhjafdbaaDoorPkRefI
import Derived.Test.YtgchdgdhjafdbaaDoorPkCnt
namespace Go.Proofs.YtgchdgdhjafdbaaDoor.Pk
open Go.RowKit
set_option maxRecDepth 100000

theorem takeB_zero_err {α : Type} {rule : List UInt8 → Except Nat (α × List UInt8)} {zero : α} {b : List UInt8} {c : Nat} (hr : rule b = .error c) : takeB rule zero ⟨b, 0⟩ = (zero, ⟨b, c⟩) := takeB_error (s := ⟨b, 0⟩) rfl hr

theorem numB_pos {most n : Nat} {b r : List UInt8} (h : numB most b = .ok (n, r)) : 0 < b.length := by
  cases b with
  | nil => cases h
  | cons c l => exact Nat.zero_lt_succ _

end Go.Proofs.YtgchdgdhjafdbaaDoor.Pk
