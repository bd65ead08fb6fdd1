/-
  The document's answer (chapter 2): the number that bytes begin with.
-/
import Derived.Test.YtnlknnhibnfhcaaPkRef
import Derived.Test.YtnlknnhibnfhcaaPkG
import Derived.Test.YtnlknnhibnfhcaaPkLess
namespace Go.Proofs.Ytnlknnhibnfhcaa.Pk
open Go.RowKit
set_option maxRecDepth 100000

/-- What the document's 'number' hands back: it, how many bytes it has, no error; or the error. -/
def RNumRet (b : List UInt8) : Except Nat (Nat × List UInt8) → Ending → Prop
  | .error c, e => e = .returned (.tuple #[.int .u64 0, .int .i64 0, .int .i64 (c : Int)])
  | .ok (n, r), e => ∃ k : Nat, k ≤ b.length ∧ r = b.drop k ∧ e = .returned (.tuple #[.int .u64 (n : Int), .int .i64 (k : Int), .int .i64 0])

theorem lead_step_table : ∀ c : Fin 256, ∀ j : Fin 8, (j.val < leadN c.val → onesN (j.val + 1) ≤ c.val) ∧ (j.val = leadN c.val → c.val < onesN (j.val + 1)) := by decide +kernel
theorem lead_step (c : UInt8) {j : Nat} (hj : j < 8) : (j < leadN c.toNat → onesN (j + 1) ≤ c.toNat) ∧ (j = leadN c.toNat → c.toNat < onesN (j + 1)) := lead_step_table ⟨c.toNat, c.toNat_lt⟩ ⟨j, hj⟩
theorem lead_ge_table : ∀ c : Fin 256, onesN (leadN c.val) ≤ c.val := by decide +kernel
theorem lead_ge (c : UInt8) : onesN (leadN c.toNat) ≤ c.toNat := lead_ge_table ⟨c.toNat, c.toNat_lt⟩

theorem more_less {N k : Nat} (hk : k ≤ 8) (h0 : 0 < k) (h : N < 2 ^ (7 * k)) : kOf N < k := by
  rcases Nat.lt_or_ge (kOf N) k with hlt | hge
  · exact hlt
  · have := kOf_lt (n := N) (j := k - 1) (by omega)
    rw [show 7 * (k - 1) + 7 = 7 * k by omega] at this
    omega
theorem more_not {N k : Nat} (hk : k ≤ 8) (h : 0 < k → 2 ^ (7 * k) ≤ N) : ¬ kOf N < k := by
  intro hlt
  have h1 := kOf_ge (n := N) (by omega)
  have h2 : 2 ^ (7 * kOf N + 7) ≤ 2 ^ (7 * k) := Nat.pow_le_pow_right (by decide) (by omega)
  have := h (by omega)
  omega

end Go.Proofs.Ytnlknnhibnfhcaa.Pk
