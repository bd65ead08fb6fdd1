/-
  keccak: Shake.
-/
import Derived.Test.YtljhfccaoncjeaaDoorKeL
namespace Go.Proofs.YtljhfccaoncjeaaDoor.Ke
open Go.RowKit
set_option maxRecDepth 100000

def lenV : Value → Nat
  | .slice _ l _ => l
  | _ => 0
def errK (c : Nat) : Value := if c = 0 then .nilIface else .iface 44 (.int .i64 (c : Int))

/-- What comes out at a place. -/
def atK (f : St) (i : Nat) : UInt8 := byteK (permN f (i / 136)) (i % 136)
theorem outK_fill (f : St) (n : Nat) : fill (atK f) n n = outK f n := fill_all _ _

theorem fill_more (f : St) (j n k : Nat) (ho : 136 * j ≤ n) (hk : k ≤ 136) (hkn : 136 * j + k ≤ n) :
    (fill (atK f) (136 * j) n).take (136 * j) ++ (blockK (permN f j)).take k ++ (fill (atK f) (136 * j) n).drop (136 * j + k) = fill (atK f) (136 * j + k) n := by
  apply List.ext_getElem?
  intro i
  have l1 : ((fill (atK f) (136 * j) n).take (136 * j)).length = 136 * j := by rw [List.length_take, length_fill]; omega
  have l2 : ((blockK (permN f j)).take k).length = k := by rw [List.length_take, length_blockK]; omega
  by_cases hin : i < n
  · have hr : (fill (atK f) (136 * j + k) n)[i]? = some (if i < 136 * j + k then atK f i else 0) := by simp [fill, hin]
    rw [hr]
    by_cases h1 : i < 136 * j
    · rw [List.append_assoc, List.getElem?_append_left (by omega), List.getElem?_take, if_pos h1, if_pos (by omega)]
      simp [fill, hin, h1]
    · by_cases h2 : i < 136 * j + k
      · rw [List.getElem?_append_left (by rw [List.length_append, l1, l2]; exact h2), List.getElem?_append_right (by omega), l1, List.getElem?_take, if_pos (by omega), if_pos h2]
        unfold blockK atK
        rw [List.getElem?_map, List.getElem?_range (by omega)]
        simp only [Option.map_some]
        rw [show i / 136 = j by omega, show i % 136 = i - 136 * j by omega]
      · rw [List.getElem?_append_right (by rw [List.length_append, l1, l2]; omega), List.length_append, l1, l2, if_neg h2, List.getElem?_drop, show 136 * j + k + (i - (136 * j + k)) = i by omega]
        simp [fill, hin, h1]
  · rw [List.getElem?_eq_none (by simp [length_fill, l1, l2]; omega), List.getElem?_eq_none (by rw [length_fill]; omega)]

theorem made_u8 (k : Nat) : madeCells (Value.int .u8 0).cells k = (cellsB (List.replicate k 0)).toArray := by
  unfold madeCells
  apply Array.ext
  · simp [cellsB]
  · intro i h1 h2
    simp [cellsB, byteV, Value.cells, Nat.mod_one]

end Go.Proofs.YtljhfccaoncjeaaDoor.Ke
