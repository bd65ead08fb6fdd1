/-
  pack: a reader's prints.
-/
import Derived.Test.YthbcgimmbcdnmaaDoorPkH
import Derived.Laws.CopyOwn
import Derived.Test.YthbcgimmbcdnmaaDoorRow2
namespace Go.Proofs.YthbcgimmbcdnmaaDoor.Pk
open Go.RowKit
set_option maxRecDepth 100000

def z32 : List UInt8 := List.replicate 32 0
/-- A print. -/
def prtV (h : List UInt8) : Value := .agg (cellsB h).toArray
/-- The print that bytes begin with. -/
def sumB (b : List UInt8) : Except Nat (List UInt8 × List UInt8) := if b.length < 32 then .error 12 else .ok (b.take 32, b.drop 32)

theorem splice_all (h : List UInt8) (hl : h.length = 32) : splice (cellsB z32) 0 (cellsB h) = cellsB h := by
  unfold splice
  rw [List.take_zero, List.nil_append, Nat.zero_add, length_cellsB, hl, List.drop_eq_nil_of_le (by simp [cellsB, z32]), List.append_nil]

end Go.Proofs.YthbcgimmbcdnmaaDoor.Pk
