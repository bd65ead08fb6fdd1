/-
  Sectors of 64 bytes that lie one behind the other in a row: plain lists.
-/
import Derived.Test.YtljlfdhjolcnaaaGreatRowz
namespace Go.Proofs.YtljlfdhjolcnaaaGreat
open Go.RowKit Go.Maps

def byteV (b : UInt8) : Value := .int .u8 (b.toNat : Int)
def cellsB (l : List UInt8) : List Value := l.map byteV
theorem length_cellsB (l : List UInt8) : (cellsB l).length = l.length := by simp [cellsB]
theorem oneCell_cellsB (l : List UInt8) : ∀ v ∈ cellsB l, v.oneCell' = true := by
  intro v hv
  simp only [cellsB, List.mem_map] at hv
  obtain ⟨b, _, rfl⟩ := hv
  rfl

/-- The sectors s 0, s 1, .. s (n - 1). -/
def flat (s : Nat → List UInt8) (n : Nat) : List UInt8 := (List.range n).flatMap s
def Wide (s : Nat → List UInt8) : Prop := ∀ j, (s j).length = 64
theorem flat_succ (s : Nat → List UInt8) (n : Nat) : flat s (n + 1) = flat s n ++ s n := by simp [flat, List.range_succ]

theorem length_flat {s : Nat → List UInt8} (h : Wide s) : ∀ n, (flat s n).length = n * 64
  | 0 => by simp [flat]
  | n + 1 => by rw [flat_succ, List.length_append, length_flat h n, h n]; omega

theorem flat_at {s : Nat → List UInt8} (h : Wide s) (j k : Nat) (hk : k < 64) : ∀ n, j < n → (flat s n)[j * 64 + k]? = (s j)[k]?
  | 0, hj => by omega
  | n + 1, hj => by
    have hl := length_flat h n
    rw [flat_succ]
    by_cases hjn : j < n
    · rw [List.getElem?_append_left (by omega)]
      exact flat_at h j k hk n hjn
    · obtain rfl : j = n := by omega
      rw [List.getElem?_append_right (by omega), hl]
      congr 1; omega

end Go.Proofs.YtljlfdhjolcnaaaGreat
