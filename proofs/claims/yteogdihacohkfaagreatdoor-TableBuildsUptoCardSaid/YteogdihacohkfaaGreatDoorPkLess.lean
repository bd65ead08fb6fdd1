/-
  pack's numbers as bytes: the smaller one's bytes come first.
-/
import Derived.Test.YteogdihacohkfaaGreatDoorGaK
import GoSem.Op.String
namespace Go.Proofs.YteogdihacohkfaaGreatDoor.Pk

theorem ofNat_lt {a b : Nat} (ha : a < 256) (hb : b < 256) : (UInt8.ofNat a < UInt8.ofNat b) ↔ a < b := by
  rw [UInt8.lt_iff_toNat_lt, toNat_ofNat ha, toNat_ofNat hb]
theorem ofNat_eq {a b : Nat} (ha : a < 256) (hb : b < 256) : (UInt8.ofNat a == UInt8.ofNat b) = (a == b) := by
  by_cases h : a = b
  · subst h; simp
  · have h1 : UInt8.ofNat a ≠ UInt8.ofNat b := fun e => h (by have := congrArg UInt8.toNat e; rwa [toNat_ofNat ha, toNat_ofNat hb] at this)
    rw [beq_eq_false_iff_ne.2 h, beq_eq_false_iff_ne.2 h1]

theorem less_cons {a b : Nat} (ha : a < 256) (hb : b < 256) (x y : List UInt8) : Op.bytesLess (UInt8.ofNat a :: x) (UInt8.ofNat b :: y) = (decide (a < b) || (a == b && Op.bytesLess x y)) := by
  conv => lhs; unfold Op.bytesLess
  rw [ofNat_eq ha hb]
  congr 1
  rw [decide_eq_decide]
  exact ofNat_lt ha hb

theorem digits_lt {a b r s p : Nat} (hr : r < p) (hs : s < p) : (decide (a < b) || (a == b && decide (r < s))) = decide (p * a + r < p * b + s) := by
  rcases Nat.lt_trichotomy a b with h | h | h
  · have h2 : p * a + p ≤ p * b := by rw [← Nat.mul_succ]; exact Nat.mul_le_mul_left p h
    rw [decide_eq_true h, Bool.true_or, decide_eq_true (by omega)]
  · subst h
    rw [decide_eq_false (Nat.lt_irrefl a), beq_self_eq_true, Bool.false_or, Bool.true_and, decide_eq_decide]
    omega
  · have h2 : p * b + p ≤ p * a := by rw [← Nat.mul_succ]; exact Nat.mul_le_mul_left p h
    rw [decide_eq_false (by omega), beq_eq_false_iff_ne.2 (by omega), Bool.false_or, Bool.false_and, decide_eq_false (by omega)]

theorem low_less (n m : Nat) : ∀ k, Op.bytesLess (lowB n k) (lowB m k) = decide (n % 256 ^ k < m % 256 ^ k)
  | 0 => by simp [lowB, Op.bytesLess, Nat.mod_one]
  | k + 1 => by
    have hp : 0 < 256 ^ k := Nat.pow_pos (by decide)
    rw [lowB, lowB, less_cons (Nat.mod_lt _ (by decide)) (Nat.mod_lt _ (by decide)), low_less n m k, digits_lt (Nat.mod_lt _ hp) (Nat.mod_lt _ hp), Nat.pow_succ, Nat.mod_mul, Nat.mod_mul]
    rw [Nat.add_comm, Nat.add_comm (256 ^ k * (m / 256 ^ k % 256))]

theorem ones_step {K L q q' : Nat} (hL : L ≤ 8) (h : K < L) (hq : q < 2 ^ (7 - K)) : onesN K + q < onesN L + q' := by
  unfold onesN
  rcases eight hL with rfl | rfl | rfl | rfl | rfl | rfl | rfl | rfl | rfl <;> rcases eight (by omega : K ≤ 8) with rfl | rfl | rfl | rfl | rfl | rfl | rfl | rfl | rfl <;> simp only [Nat.reducePow, Nat.reduceSub] at * <;> omega

/-- The smaller number's bytes come first. -/
theorem spell_less {n m : Nat} (hn : n < 2 ^ 64) (hm : m < 2 ^ 64) : Op.bytesLess (spellB n) (spellB m) = decide (n < m) := by
  unfold spellB
  rw [less_cons (first_byte hn).1 (first_byte hm).1]
  rcases Nat.lt_trichotomy (kOf n) (kOf m) with h | h | h
  · have hlt : n < m := by
      rcases Nat.lt_or_ge n m with hlt | hge
      · exact hlt
      · have := kOf_mono hge; omega
    rw [decide_eq_true (ones_step (kOf_le m) h (first_lt hn).1), Bool.true_or, decide_eq_true hlt]
  · have hp : 0 < 256 ^ kOf m := Nat.pow_pos (by decide)
    rw [h, low_less]
    have e1 : decide (onesN (kOf m) + n / 256 ^ kOf m < onesN (kOf m) + m / 256 ^ kOf m) = decide (n / 256 ^ kOf m < m / 256 ^ kOf m) := by
      rw [decide_eq_decide]; omega
    have e2 : (onesN (kOf m) + n / 256 ^ kOf m == onesN (kOf m) + m / 256 ^ kOf m) = (n / 256 ^ kOf m == m / 256 ^ kOf m) := by
      by_cases h : n / 256 ^ kOf m = m / 256 ^ kOf m
      · rw [h]; simp
      · rw [beq_eq_false_iff_ne.2 h, beq_eq_false_iff_ne.2 (by omega)]
    rw [e1, e2, digits_lt (Nat.mod_lt _ hp) (Nat.mod_lt _ hp), Nat.div_add_mod, Nat.div_add_mod]
  · have hlt : m < n := by
      rcases Nat.lt_or_ge m n with hlt | hge
      · exact hlt
      · have := kOf_mono hge; omega
    have h2 := ones_step (q' := n / 256 ^ kOf n) (kOf_le n) h (first_lt hm).1
    rw [decide_eq_false (by omega), beq_eq_false_iff_ne.2 (by omega), Bool.false_or, Bool.false_and, decide_eq_false (by omega)]

theorem spell_len_mono {n m : Nat} (h : n ≤ m) : (spellB n).length ≤ (spellB m).length := by
  rw [length_spellB, length_spellB]
  have := kOf_mono h
  omega
theorem spell_len9 (n : Nat) : (spellB n).length ≤ 9 := by
  rw [length_spellB]
  have := kOf_le n
  omega

end Go.Proofs.YteogdihacohkfaaGreatDoor.Pk
