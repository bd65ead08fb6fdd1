/-
  The document's answer (chapter 2): power, More, ones.
-/
import Derived.Test.YthbcgimmbcdnmaaPkF
namespace Go.Proofs.Ythbcgimmbcdnmaa.Pk
open Go.RowKit
set_option maxRecDepth 100000

def pow2 (n : Nat) : Nat := 2 ^ n

theorem power_any (n : Nat) (m : Int) (w : World) (hm : m = (n : Int)) (hn : n ≤ 63) : Calls Try.prog 86 #[.int .i64 m] w fun e w' => e = .returned (.int .u64 ((pow2 n : Nat) : Int)) ∧ w' = w := by
  subst hm
  go_enter Try.func86, Try.ntmps86
  go_wp2
  go_loop [3, 4] (fun p i => ∃ j : Nat, j ≤ n ∧ i = .int .i64 j ∧ p = .int .u64 ((pow2 j : Nat) : Int)) (fun _ i => n - (intOf i).toNat)
  case atStart => exact ⟨0, Nat.zero_le _, rfl, rfl⟩
  case round =>
    obtain ⟨j, hj, rfl, rfl⟩ := hrel
    have hp : pow2 (j + 1) = pow2 j * 2 := Nat.pow_succ 2 j
    have HP := Lib.hid hp
    clear hp
    by_cases hlt : j < n
    · have hq : pow2 j ≤ 4611686018427387904 := Nat.pow_le_pow_right (by decide) (by omega : j ≤ 62)
      generalize pow2 j = q at *
      go_wp2
      go_round
      case rel => exact ⟨j + 1, by omega, by go_num, by rw [HP.out]; congr 1; omega⟩
      case measure => simp [intOf]; omega
    · obtain rfl : j = n := by omega
      go_wp2
      go_ret
      exact ⟨rfl, rfl⟩

theorem more_any (n : Nat) (w : World) : Calls Try.prog 72 #[.int .u64 n] w fun e w' => e = .returned (.int .i64 (kOf n : Nat)) ∧ w' = w := by
  have h8 := kOf_le n
  go_enter Try.func72, Try.ntmps72
  go_wp2
  go_loop [3] (fun i => ∃ j : Nat, j ≤ kOf n ∧ i = .int .i64 j) (fun i => 8 - (intOf i).toNat)
  case atStart => exact ⟨0, Nat.zero_le _, rfl⟩
  case round =>
    obtain ⟨j, hj, rfl⟩ := hrel
    by_cases h8j : j < 8
    · by_cases hlt : j < kOf n
      · have hge : pow2 (7 * j + 7) ≤ n := kOf_lt hlt
        go_wp2_with fail
        refine (power_any (7 * j + 7) _ _ (by omega) (by omega)).mono ?_
        rintro e w' ⟨rfl, rfl⟩
        generalize pow2 (7 * j + 7) = q at *
        go_wp2
        go_round
        case rel => exact ⟨j + 1, by omega, by go_num⟩
        case measure => simp [intOf]; omega
      · obtain rfl : kOf n = j := by omega
        have hge : n < pow2 (7 * kOf n + 7) := kOf_ge (n := n) h8j
        go_wp2_with fail
        refine (power_any (7 * kOf n + 7) _ _ (by omega) (by omega)).mono ?_
        rintro e w' ⟨rfl, rfl⟩
        generalize pow2 (7 * kOf n + 7) = q at *
        go_wp2
        go_ret
        exact ⟨rfl, rfl⟩
    · obtain rfl : j = 8 := by omega
      go_wp2
      go_ret
      exact ⟨by rw [show kOf n = 8 by omega]; rfl, rfl⟩

theorem rones_any (k : Nat) (m : Int) (w : World) (hm : m = (k : Int)) (hk : k ≤ 8) : Calls Try.prog 74 #[.int .i64 m] w fun e w' => e = .returned (.int .u8 (onesN k : Nat)) ∧ w' = w := by
  subst hm
  rcases eight hk with rfl | rfl | rfl | rfl | rfl | rfl | rfl | rfl | rfl
  · go_enter Try.func74, Try.ntmps74
    go_wp2_with fail
    refine (power_any 8 _ _ rfl (by decide)).mono ?_
    rintro e w' ⟨rfl, rfl⟩
    rw [show pow2 8 = 256 from rfl]
    go_wp2
    go_ret
    exact ⟨rfl, rfl⟩
  · go_enter Try.func74, Try.ntmps74
    go_wp2_with fail
    refine (power_any 7 _ _ rfl (by decide)).mono ?_
    rintro e w' ⟨rfl, rfl⟩
    rw [show pow2 7 = 128 from rfl]
    go_wp2
    go_ret
    exact ⟨rfl, rfl⟩
  · go_enter Try.func74, Try.ntmps74
    go_wp2_with fail
    refine (power_any 6 _ _ rfl (by decide)).mono ?_
    rintro e w' ⟨rfl, rfl⟩
    rw [show pow2 6 = 64 from rfl]
    go_wp2
    go_ret
    exact ⟨rfl, rfl⟩
  · go_enter Try.func74, Try.ntmps74
    go_wp2_with fail
    refine (power_any 5 _ _ rfl (by decide)).mono ?_
    rintro e w' ⟨rfl, rfl⟩
    rw [show pow2 5 = 32 from rfl]
    go_wp2
    go_ret
    exact ⟨rfl, rfl⟩
  · go_enter Try.func74, Try.ntmps74
    go_wp2_with fail
    refine (power_any 4 _ _ rfl (by decide)).mono ?_
    rintro e w' ⟨rfl, rfl⟩
    rw [show pow2 4 = 16 from rfl]
    go_wp2
    go_ret
    exact ⟨rfl, rfl⟩
  · go_enter Try.func74, Try.ntmps74
    go_wp2_with fail
    refine (power_any 3 _ _ rfl (by decide)).mono ?_
    rintro e w' ⟨rfl, rfl⟩
    rw [show pow2 3 = 8 from rfl]
    go_wp2
    go_ret
    exact ⟨rfl, rfl⟩
  · go_enter Try.func74, Try.ntmps74
    go_wp2_with fail
    refine (power_any 2 _ _ rfl (by decide)).mono ?_
    rintro e w' ⟨rfl, rfl⟩
    rw [show pow2 2 = 4 from rfl]
    go_wp2
    go_ret
    exact ⟨rfl, rfl⟩
  · go_enter Try.func74, Try.ntmps74
    go_wp2_with fail
    refine (power_any 1 _ _ rfl (by decide)).mono ?_
    rintro e w' ⟨rfl, rfl⟩
    rw [show pow2 1 = 2 from rfl]
    go_wp2
    go_ret
    exact ⟨rfl, rfl⟩
  · go_enter Try.func74, Try.ntmps74
    go_wp2_with fail
    refine (power_any 0 _ _ rfl (by decide)).mono ?_
    rintro e w' ⟨rfl, rfl⟩
    rw [show pow2 0 = 1 from rfl]
    go_wp2
    go_ret
    exact ⟨rfl, rfl⟩

end Go.Proofs.Ythbcgimmbcdnmaa.Pk
