/-
  keccak: lanes as values; the operations on bits; turning.
-/
import Derived.Test.YtljhfccaoncjeaaDoorRows
import Derived.Test.YtljhfccaoncjeaaDoorKeP
import Derived.WalkSpells
import Derived.WalkLawsBesides
import Derived.Lib.Hide
import Derived.Deep.RegionWith
import Derived.IntWalk
import Derived.Deep.QuietTactic
import Derived.BigQuiet
namespace Go.Proofs.YtljhfccaoncjeaaDoor.Ke
open Go.RowKit
set_option maxRecDepth 100000

def laneV (b : U) : Value := .int .u64 (nv b : Int)

theorem u64_bits : IntKind.u64.bits = 64 := rfl
theorem wrap_u64 (n : Int) : IntKind.u64.wrap n = n % 18446744073709551616 := by simp [IntKind.wrap, IntKind.bits, IntKind.signed]
theorem nv_lt (b : U) : nv b < 18446744073709551616 := b.isLt
theorem wrap_nv (b : U) : IntKind.u64.wrap (nv b : Int) = (nv b : Int) := by
  rw [wrap_u64]
  have := nv_lt b
  omega
theorem ofInt_nv (b : U) : BitVec.ofInt 64 (nv b : Int) = b := by unfold nv; rw [BitVec.ofInt_natCast, BitVec.ofNat_toNat, BitVec.setWidth_eq]
theorem xor_nv (a b : U) : bits BinOp.xor IntKind.u64 (nv a : Int) (nv b : Int) = (nv (a ^^^ b) : Int) := by
  show IntKind.u64.wrap (nv (BitVec.ofInt 64 (nv a : Int) ^^^ BitVec.ofInt 64 (nv b : Int)) : Int) = _
  rw [ofInt_nv, ofInt_nv, wrap_nv]
theorem or_nv (a b : U) : bits BinOp.or IntKind.u64 (nv a : Int) (nv b : Int) = (nv (a ||| b) : Int) := by
  show IntKind.u64.wrap (nv (BitVec.ofInt 64 (nv a : Int) ||| BitVec.ofInt 64 (nv b : Int)) : Int) = _
  rw [ofInt_nv, ofInt_nv, wrap_nv]
theorem andNot_nv (a b : U) : bits BinOp.andNot IntKind.u64 (nv a : Int) (nv b : Int) = (nv (a &&& ~~~ b) : Int) := by
  show IntKind.u64.wrap (nv (BitVec.ofInt 64 (nv a : Int) &&& ~~~ BitVec.ofInt 64 (nv b : Int)) : Int) = _
  rw [ofInt_nv, ofInt_nv, wrap_nv]
theorem shl_nv (a : U) (k : Nat) : IntKind.u64.wrap ((nv a : Int) * 2 ^ k) = (nv (a <<< k) : Int) := by
  rw [wrap_u64]
  unfold nv
  rw [BitVec.toNat_shiftLeft, Nat.shiftLeft_eq, Int.natCast_emod, Int.natCast_mul, Int.natCast_pow]
  rfl
theorem shr_nv (a : U) (k : Nat) : (nv a : Int) / 2 ^ k = (nv (a >>> k) : Int) := by
  unfold nv
  rw [BitVec.toNat_ushiftRight, Nat.shiftRight_eq_div_pow, Int.natCast_ediv, Int.natCast_pow]
  rfl

theorem rotl_zero (a : U) : rotl a 0 = a := by
  unfold rotl
  apply BitVec.eq_of_toNat_eq
  have h : a.toNat / 2 ^ 64 = 0 := Nat.div_eq_of_lt a.isLt
  simp [Nat.shiftRight_eq_div_pow, h]
theorem and_63 : ∀ k : Fin 64, bits BinOp.and IntKind.u64 ((k.val : Nat) : Int) 63 = ((k.val : Nat) : Int) := by decide +kernel

set_option maxHeartbeats 400000 in
theorem rot_any (a : U) (k : Nat) (w : World) (hk : k < 64) : Calls Tryd.prog 48 #[.int .u64 (nv a), .int .i64 k] w fun e w' => e = .returned (.int .u64 (nv (rotl a k))) ∧ w = w' := by
  have hm : bits BinOp.and IntKind.u64 (k : Int) 63 = (k : Int) := and_63 ⟨k, hk⟩
  go_enter Tryd.func48, Tryd.ntmps48
  go_wp2
  go_ret
  refine ⟨?_, rfl⟩
  rw [shl_nv, shr_nv, or_nv]
  rfl

set_option maxHeartbeats 400000 in
theorem turned_any (a : U) (k : Nat) (w : World) (hk : k < 9223372036854775807) : Calls Tryd.prog 43 #[.int .u64 (nv a), .int .i64 k] w fun e w' => e = .returned (.int .u64 (nv (rotl a (k % 64)))) ∧ ∃ n, w' = w.drewN n := by
  go_enter Tryd.func43, Tryd.ntmps43
  go_wp2
  · have e0 : k % 64 = 0 := by simp at *; omega
    go_ret
    refine ⟨?_, 0, rfl⟩
    rw [e0, rotl_zero]
    rfl
  · go_quiet (fail)
    go_wp2
    go_ret
    refine ⟨?_, nq, rfl⟩
    rw [shl_nv, shr_nv, or_nv]
    rfl
end Go.Proofs.YtljhfccaoncjeaaDoor.Ke
