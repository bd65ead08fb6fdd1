/-
  horner: the contracts of More, Sum, power, Join, and the document's More and Sum.
-/
import Derived.Test.YthbcgimmbcdnmaaDoorPkW
import Derived.Test.YthbcgimmbcdnmaaDoorHnPlain
import Derived.BigQuiet
import Derived.Deep.QuietTactic
import Derived.LoopTactic
import Derived.Lib.SlBytesConst
namespace Go.Proofs.YthbcgimmbcdnmaaDoor.Hn
open Go.RowKit Pk
set_option maxRecDepth 100000

def u32V (n : Nat) : Value := .int .u32 (n : Int)
theorem ret_u32 {a b : Nat} (h : a = b) : Ending.returned (u32V a) = .returned (u32V b) := by rw [h]

set_option maxHeartbeats 1000000 in
theorem more_any (s : Nat) (b : List UInt8) (x : Value) (w : World) (hs : (s : Int) ≤ 4294967295) (hx : Slc w x b) :
    Calls Tryd.prog 59 #[.int .u32 s, x] w fun e w' => e = .returned (u32V (moreN s b)) ∧ w = w' := by
  obtain ⟨a0, cap, rfl, hr, hn, hcap, hm⟩ := hx
  have hbl : (b.length : Int) ≤ 9223372036854775806 ∨ (b.length : Int) = 9223372036854775807 := by omega
  have HR := Lib.hid hr
  clear hr hn
  unfold u32V
  go_enter Tryd.func59, Tryd.ntmps59
  go_wp2
  go_loop [5, 13] (fun n i => ∃ j : Nat, j ≤ b.length ∧ i = .int .i64 j ∧ n = .int .u64 ((moreN s (b.take j) : Nat) : Int)) (fun _ i => b.length - (intOf i).toNat)
  case atStart => exact ⟨0, Nat.zero_le _, rfl, rfl⟩
  case round =>
    obtain ⟨j, hj, rfl, rfl⟩ := hrel
    have hlt0 := moreN_lt s (b.take j)
    have HL := Lib.hid (show b.take b.length = b from List.take_length)
    by_cases hlt : j < b.length
    · obtain ⟨c, hc⟩ : ∃ c, b[j]? = some c := ⟨_, List.getElem?_eq_getElem hlt⟩
      obtain ⟨ad, rfl, hcell⟩ := HR.out (by omega)
      have hcj := hcell j (byteV c) (by simp [cellsB, hc])
      unfold byteV at hcj
      have HS := Lib.hid (show moreN s (b.take (j + 1)) = (moreN s (b.take j) * 257 + c.toNat) % 2147483647 by rw [List.take_add_one, hc]; exact moreN_snoc _ _ _)
      have hcb := c.toNat_lt
      clear hc hcell
      generalize moreN s (b.take j) = F at *
      go_wp2
      go_round
      case rel => exact ⟨j + 1, by omega, by go_num, by rw [HS.out]; congr 1⟩
      case measure => simp [intOf]; omega
    · obtain rfl : b.length = j := by omega
      rw [HL.out] at *
      go_wp2
      go_ret
      exact ⟨rfl, rfl⟩

theorem sum_any (b : List UInt8) (x : Value) (w : World) (hx : Slc w x b) :
    Calls Tryd.prog 39 #[x] w fun e w' => e = .returned (u32V (moreN 1 b)) ∧ w = w' := by
  unfold u32V
  go_enter Tryd.func39, Tryd.ntmps39
  go_wp2_with fail
  refine (more_any 1 b x w (by decide) hx).mono ?_
  rintro e w' ⟨rfl, rfl⟩
  go_wp2
  go_ret
  exact ⟨rfl, rfl⟩
def u64V (n : Nat) : Value := .int .u64 (n : Int)
/-- An error by its number. -/
def errI (c : Nat) : Value := .iface 50 (.int .i64 (c : Int))

def lessN (a : Nat) : Nat := (a + 2147483646) % 2147483647
theorem less_eq (a : Nat) : ((a : Int) + 2147483647 - 1) % 2147483647 = (lessN a : Int) := by unfold lessN; omega
end Go.Proofs.YthbcgimmbcdnmaaDoor.Hn
