/-
  keccak: the constants' rows.
-/
import Derived.Test.YtljhfccaoncjeaaDoorKeB
namespace Go.Proofs.YtljhfccaoncjeaaDoor.Ke
open Go.RowKit
set_option maxRecDepth 100000

theorem rows_lt : ∀ n, rows n < 256
  | 0 => by decide
  | n + 1 => by
    have h := rows_lt n
    unfold rows bitRow
    split
    · have : ∀ k : Fin 256, k.val ^^^ 113 < 256 := by decide +kernel
      exact this ⟨2 * rows n - 256, by omega⟩
    · omega
theorem xor_113 : ∀ k : Fin 256, bits BinOp.xor IntKind.u64 ((k.val : Nat) : Int) 113 = ((k.val ^^^ 113 : Nat) : Int) := by decide +kernel
theorem cst_or : ∀ r : Fin 24, ∀ j : Fin 7, bits BinOp.or IntKind.u64 (nv (cst r.val j.val) : Int) (IntKind.u64.wrap (((rows (7 * r.val + j.val) : Nat) : Int) % 2 * 2 ^ min (IntKind.u64.wrap (IntKind.u64.wrap (2 ^ j.val) - 1)).toNat 64)) = (nv (cst r.val (j.val + 1)) : Int) := by decide +kernel
theorem row_up (r j : Nat) : rows (7 * r + (j + 1)) = bitRow (rows (7 * r + j)) := rfl

set_option maxHeartbeats 400000 in
theorem next_any (w : World) (r : Nat) (hr : r < 24) :
    Calls Tryd.prog 47 #[.int .u64 (rows (7 * r))] w fun e w' => e = .returned (.tuple #[.int .u64 (nv (cst r 7)), .int .u64 (rows (7 * (r + 1)))]) ∧ w = w' := by
  have HR := Lib.hid hr
  clear hr
  go_enter Tryd.func47, Tryd.ntmps47
  go_wp2
  go_loop [0, 4, 6] (fun a c i => ∃ j : Nat, j ≤ 7 ∧ i = .int .i64 j ∧ a = .int .u64 (rows (7 * r + j)) ∧ c = .int .u64 (nv (cst r j))) (fun _ _ i => 7 - (intOf i).toNat)
  case atStart => exact ⟨0, by omega, rfl, rfl, rfl⟩
  case round =>
    obtain ⟨j, hj, rfl, rfl, rfl⟩ := hrel
    by_cases hlt : j < 7
    · obtain ⟨a, ha⟩ : ∃ a, a = rows (7 * r + j) := ⟨_, rfl⟩
      have h2 := rows_lt (7 * r + j)
      rw [← ha] at h2
      rw [← ha]
      have HA := Lib.hid ha
      clear ha
      have hC := cst_or ⟨r, HR.out⟩ ⟨j, hlt⟩
      simp only at hC
      rw [← HA.out] at hC
      have HC := Lib.hid hC
      clear hC
      by_cases hb : 255 < a * 2
      · go_wp2
        refine ⟨⟨j + 1, by omega, by go_num, ?_, by rw [HC.out]⟩, by simp [intOf]; omega⟩
        have e := xor_113 ⟨2 * a - 256, by omega⟩
        rw [row_up, ← HA.out, bitRow, if_pos (by omega), ← e, show (((⟨2 * a - 256, by omega⟩ : Fin 256).val : Nat) : Int) = (a : Int) * 2 - 256 by simp only; omega]
      · go_wp2
        refine ⟨⟨j + 1, by omega, by go_num, ?_, by rw [HC.out]⟩, by simp [intOf]; omega⟩
        rw [row_up, ← HA.out, bitRow, if_neg (by omega)]
        go_num
    · obtain rfl : j = 7 := by omega
      go_wp2
      refine bodyPost_ret (v := .tuple #[.int .u64 (nv (cst r 7)), .int .u64 (rows (7 * (r + 1)))]) (by simp [results, Tryd.results47, go_sem]; rfl) rfl ⟨rfl, rfl⟩
end Go.Proofs.YtljhfccaoncjeaaDoor.Ke
