/-
  horner: the contracts of More, Sum, power, Join, and the document's More and Sum.
-/
import Derived.Test.YtkbkjpeghbiadaaDoorOwn
import Derived.Test.YtkbkjpeghbiadaaDoorHnPlain
import Derived.BigQuiet
import Derived.Deep.QuietTactic
import Derived.LoopTactic
import Derived.Lib.SlBytesConst
namespace Go.Proofs.YtkbkjpeghbiadaaDoor.Hn
open Go.RowKit
set_option maxRecDepth 100000

def u32V (n : Nat) : Value := .int .u32 (n : Int)
theorem ret_u32 {a b : Nat} (h : a = b) : Ending.returned (u32V a) = .returned (u32V b) := by rw [h]

set_option maxHeartbeats 1000000 in
theorem more_any (s : Nat) (b : List UInt8) (x : Value) (w : World) (hs : (s : Int) ≤ 4294967295) (hx : Slc w x b) :
    Calls Tryd.prog 15 #[.int .u32 s, x] w fun e w' => e = .returned (u32V (moreN s b)) ∧ w = w' := by
  obtain ⟨a0, cap, rfl, hr, hn, hcap, hm⟩ := hx
  have hbl : (b.length : Int) ≤ 9223372036854775806 ∨ (b.length : Int) = 9223372036854775807 := by omega
  have HR := Lib.hid hr
  clear hr hn
  unfold u32V
  go_enter Tryd.func15, Tryd.ntmps15
  go_wp2
  go_loop [5, 13] (fun n i => ∃ j : Nat, j ≤ b.length ∧ i = .int .i64 j ∧ n = .int .u64 ((moreN s (b.take j) : Nat) : Int)) (fun _ i => b.length - (intOf i).toNat)
  case atStart => exact ⟨0, Nat.zero_le _, rfl, rfl⟩
  case round =>
    obtain ⟨j, hj, rfl, rfl⟩ := hrel
    have hlt0 := moreN_lt s (b.take j)
    have HL := Lib.hid (show b.take b.length = b from List.take_length)
    by_cases hlt : j < b.length
    · obtain ⟨c, hc⟩ : ∃ c, b[j]? = some c := ⟨_, List.getElem?_eq_getElem hlt⟩
      obtain ⟨ad, rfl, hcell⟩ := HR.out (by omega)
      have hcj := hcell j (byteV c) (by simp [cellsB, hc])
      unfold byteV at hcj
      have HS := Lib.hid (show moreN s (b.take (j + 1)) = (moreN s (b.take j) * 257 + c.toNat) % 2147483647 by rw [List.take_add_one, hc]; exact moreN_snoc _ _ _)
      have hcb := c.toNat_lt
      clear hc hcell
      generalize moreN s (b.take j) = F at *
      go_wp2
      go_round
      case rel => exact ⟨j + 1, by omega, by go_num, by rw [HS.out]; congr 1⟩
      case measure => simp [intOf]; omega
    · obtain rfl : b.length = j := by omega
      rw [HL.out] at *
      go_wp2
      go_ret
      exact ⟨rfl, rfl⟩

set_option maxHeartbeats 1000000 in
theorem rmore_any (s : Nat) (b : List UInt8) (x : Value) (w : World) (hs : (s : Int) ≤ 4294967295) (hx : Slc w x b) :
    Calls Tryd.prog 24 #[.int .u32 s, x] w fun e w' => e = .returned (u32V (moreN s b)) ∧ w = w' := by
  obtain ⟨a0, cap, rfl, hr, hn, hcap, hm⟩ := hx
  have HR := Lib.hid hr
  clear hr hn
  unfold u32V
  go_enter Tryd.func24, Tryd.ntmps24
  go_wp2
  go_loop [5, 6] (fun n i => ∃ j : Nat, j ≤ b.length ∧ i = .int .i64 j ∧ n = .int .u64 ((moreN s (b.take j) : Nat) : Int)) (fun _ i => b.length - (intOf i).toNat)
  case atStart => exact ⟨0, Nat.zero_le _, rfl, rfl⟩
  case round =>
    obtain ⟨j, hj, rfl, rfl⟩ := hrel
    have hlt0 := moreN_lt s (b.take j)
    have HL := Lib.hid (show b.take b.length = b from List.take_length)
    by_cases hlt : j < b.length
    · obtain ⟨c, hc⟩ : ∃ c, b[j]? = some c := ⟨_, List.getElem?_eq_getElem hlt⟩
      obtain ⟨ad, rfl, hcell⟩ := HR.out (by omega)
      have hcj := hcell j (byteV c) (by simp [cellsB, hc])
      unfold byteV at hcj
      have HS := Lib.hid (show moreN s (b.take (j + 1)) = (moreN s (b.take j) * 257 + c.toNat) % 2147483647 by rw [List.take_add_one, hc]; exact moreN_snoc _ _ _)
      have hcb := c.toNat_lt
      clear hc hcell
      generalize moreN s (b.take j) = F at *
      go_wp2
      go_round
      case rel => exact ⟨j + 1, by omega, by go_num, by rw [HS.out]; congr 1; omega⟩
      case measure => simp [intOf]; omega
    · obtain rfl : b.length = j := by omega
      rw [HL.out] at *
      go_wp2
      go_ret
      exact ⟨rfl, rfl⟩

theorem sum_any (b : List UInt8) (x : Value) (w : World) (hx : Slc w x b) :
    Calls Tryd.prog 14 #[x] w fun e w' => e = .returned (u32V (moreN 1 b)) ∧ w = w' := by
  unfold u32V
  go_enter Tryd.func14, Tryd.ntmps14
  go_wp2_with fail
  refine (more_any 1 b x w (by decide) hx).mono ?_
  rintro e w' ⟨rfl, rfl⟩
  go_wp2
  go_ret
  exact ⟨rfl, rfl⟩
theorem rsum_any (b : List UInt8) (x : Value) (w : World) (hx : Slc w x b) :
    Calls Tryd.prog 20 #[x] w fun e w' => e = .returned (u32V (moreN 1 b)) ∧ w = w' := by
  unfold u32V
  go_enter Tryd.func20, Tryd.ntmps20
  go_wp2_with fail
  refine (rmore_any 1 b x w (by decide) hx).mono ?_
  rintro e w' ⟨rfl, rfl⟩
  go_wp2
  go_ret
  exact ⟨rfl, rfl⟩

def u64V (n : Nat) : Value := .int .u64 (n : Int)
set_option maxHeartbeats 1000000 in
theorem power_any (n : Nat) (w : World) (hn : (n : Int) ≤ 9223372036854775807) :
    Calls Tryd.prog 22 #[.int .i64 n] w fun e w' => e = .returned (u64V (pwN n)) ∧ w = w' := by
  unfold u64V
  go_enter Tryd.func22, Tryd.ntmps22
  go_wp2
  go_loop [0, 3, 4] (fun a b c => ∃ m p q : Nat, (m : Int) ≤ 9223372036854775807 ∧ p < 2147483647 ∧ q < 2147483647 ∧ Hid ((p * q ^ m) % 2147483647 = pwN n) ∧ a = .int .i64 m ∧ b = .int .u64 p ∧ c = .int .u64 q) (fun a _ _ => (intOf a).toNat)
  case atStart => exact ⟨n, 1, 257, hn, by decide, by decide, Lib.hid (pow_start n), rfl, rfl, rfl⟩
  case round =>
    obtain ⟨m, p, q, hm, hp, hq, hinv, rfl, rfl, rfl⟩ := hrel
    have hpq : p * q ≤ 4611686009837453316 := by
      have := Nat.mul_le_mul (show p ≤ 2147483646 by omega) (show q ≤ 2147483646 by omega)
      omega
    have hqq : q * q ≤ 4611686009837453316 := by
      have := Nat.mul_le_mul (show q ≤ 2147483646 by omega) (show q ≤ 2147483646 by omega)
      omega
    have hpq' : (p : Int) * (q : Int) ≤ 4611686009837453316 := by rw [← Int.natCast_mul]; omega
    have hqq' : (q : Int) * (q : Int) ≤ 4611686009837453316 := by rw [← Int.natCast_mul]; omega
    have hpq0 : (0 : Int) ≤ (p : Int) * (q : Int) := by rw [← Int.natCast_mul]; omega
    have hqq0 : (0 : Int) ≤ (q : Int) * (q : Int) := by rw [← Int.natCast_mul]; omega
    clear hpq hqq
    by_cases h0 : 0 < m
    · by_cases h2 : m % 2 = 1
      · have HO := Lib.hid (pow_odd p q m h2)
        have h2b : (((m : Int) % 2) == 1) = true := beq_iff_eq.2 (by omega)
        clear h2
        go_wp2
        go_round
        case rel => exact ⟨m / 2, p * q % 2147483647, q * q % 2147483647, by omega, Nat.mod_lt _ (by decide), Nat.mod_lt _ (by decide), Lib.hid (HO.out.trans hinv.out), by go_num, by go_num, by go_num⟩
        case measure => simp [intOf]; omega
      · have h3 : m % 2 = 0 := by omega
        have HO := Lib.hid (pow_even p q m h3)
        have h2b : (((m : Int) % 2) == 1) = false := beq_eq_false_iff_ne.2 (by omega)
        clear h2 h3
        go_wp2
        go_round
        case rel => exact ⟨m / 2, p, q * q % 2147483647, by omega, hp, Nat.mod_lt _ (by decide), Lib.hid (HO.out.trans hinv.out), by go_num, by go_num, by go_num⟩
        case measure => simp [intOf]; omega
    · have HE := Lib.hid ((pow_end (q := q) hp).symm.trans ((show m = 0 by omega) ▸ hinv.out))
      have h0d : decide ((0 : Int) < (m : Int)) = false := decide_eq_false (by omega)
      have h0e : m ≤ 0 := by omega
      clear hinv
      go_wp2
      go_ret
      exact ⟨by rw [HE.out]; rfl, rfl⟩

/-- An error by its number. -/
def errI (c : Nat) : Value := .iface 45 (.int .i64 (c : Int))

def lessN (a : Nat) : Nat := (a + 2147483646) % 2147483647
theorem less_eq (a : Nat) : ((a : Int) + 2147483647 - 1) % 2147483647 = (lessN a : Int) := by unfold lessN; omega
set_option maxHeartbeats 1000000 in
theorem join_any (a b n : Nat) (w : World) (ha : (a : Int) ≤ 4294967295) (hb : (b : Int) ≤ 4294967295) (hn : (n : Int) ≤ 9223372036854775807) :
    Calls Tryd.prog 13 #[.int .u32 a, .int .u32 b, .int .i64 n] w fun e w' => e = .returned (.tuple #[u32V (joinN a b n), .nilIface]) ∧ w = w' := by
  unfold u32V
  obtain ⟨A, hA⟩ : ∃ A, A = lessN a := ⟨_, rfl⟩
  have hp := pwN_lt n
  have hpq : A * pwN n ≤ 4611686009837453316 := by
    have := Nat.mul_le_mul (show A ≤ 2147483646 by rw [hA]; unfold lessN; omega) (show pwN n ≤ 2147483646 by omega)
    omega
  obtain ⟨X, hX⟩ : ∃ X, X = A * pwN n := ⟨_, rfl⟩
  have HJ := Lib.hid (show joinN a b n = (X + b) % 2147483647 by rw [hX, hA]; rfl)
  have hXi : (A : Int) * (pwN n : Int) = (X : Int) := by rw [hX]; exact (Int.natCast_mul _ _).symm
  have HX2 := Lib.hid (show (X : Int) ≤ 4611686009837453316 by omega)
  have HXi := Lib.hid hXi
  have HA := Lib.hid hA
  clear hpq hA hX hp hXi
  go_enter Tryd.func13, Tryd.ntmps13
  go_wp2_with fail
  refine (power_any n w hn).mono ?_
  rintro e w' ⟨rfl, rfl⟩
  rw [less_eq, ← HA.out]
  unfold u64V
  have hX2 := HX2.out
  have hXi := HXi.out
  go_wp2
  go_ret2
  exact ⟨by rw [HJ.out]; simp, rfl⟩

theorem join_neg (a b : Nat) (n : Int) (w : World) (hn : n < 0) :
    Calls Tryd.prog 13 #[.int .u32 a, .int .u32 b, .int .i64 n] w fun e w' => e = .returned (.tuple #[u32V 0, errI 1]) ∧ w = w' := by
  go_enter Tryd.func13, Tryd.ntmps13
  go_wp2
  go_ret2
  exact ⟨rfl, rfl⟩

theorem sure_sum : moreN 1 [97, 98] = 91076 := by decide
theorem sure_any (w : World) : Calls Tryd.prog 6 #[] w fun e w' => e = .returned (.bool true) ∧ Stay (fun _ => False) w w' := by
  have hS : Slc (w.alloc (.cells #[.int .u8 97, .int .u8 98] 5 (2, 3))) (.slice (some ⟨w.heap.size, 0, none⟩) 2 2) [97, 98] := slc_block w [97, 98] 5 (2, 3) (by decide)
  have hN : ∀ w', Slc w' (.slice none 0 0) [] := fun w' => (Owns.nil 0 w').slc
  have HS := Lib.hid hS
  have HN := Lib.hid hN
  clear hS hN
  have kc := fun (w : World) (C : Array Value) (n c : Nat) => Lib.run_convert_bytes_const (P := Tryd.prog) w 22 5 C n c Tryd.underlying22 Tryd.underlying5
  go_enter Tryd.func6, Tryd.ntmps6
  go_wp2_with fail
  refine (sum_any _ _ _ HS.out).mono ?_
  rintro e w' ⟨rfl, rfl⟩
  rw [sure_sum]
  unfold u32V
  go_wp2_with fail
  refine (sum_any _ _ _ (HN.out _)).mono ?_
  rintro e w' ⟨rfl, rfl⟩
  unfold u32V
  go_wp2
  go_ret
  exact ⟨rfl, Stay.alloc _ _⟩

end Go.Proofs.YtkbkjpeghbiadaaDoor.Hn
