/-
  pack, in plain lists: bytes that are read as a number are the number's.
-/
import Derived.Test.YtgchdgdhjafdbaaDoorPkH
namespace Go.Proofs.YtgchdgdhjafdbaaDoor.Pk
open Go.RowKit

/-- The low bytes of what bytes are read as are those bytes. -/
theorem low_fold : ∀ (l : List UInt8) (a k : Nat), l.length = k → ∀ N, N = foldB a l → lowB N k = l
  | [], a, k, hk, N, _ => by
    subst hk
    rfl
  | c :: l, a, 0, hk, N, _ => by simp at hk
  | c :: l, a, k + 1, hk, N, hN => by
    have hl : l.length = k := by simpa using hk
    have hc := c.toNat_lt
    rw [foldB_cons] at hN
    have ih := low_fold l (a * 256 + c.toNat) k hl N hN
    have hlo := foldB_ge l (a * 256 + c.toNat)
    have hhi := foldB_lt l (a * 256 + c.toNat) (a * 256 + c.toNat + 1) (by omega)
    rw [← hN, hl] at hlo hhi
    have hdiv : N / 256 ^ k = a * 256 + c.toNat := Nat.div_eq_of_lt_le hlo hhi
    unfold lowB
    rw [ih, hdiv, show (a * 256 + c.toNat) % 256 = c.toNat by omega, UInt8.ofNat_toNat]
/-- Bytes that are read as a number are the number's. -/
theorem spell_num {most n : Nat} {b r : List UInt8} (h : numB most b = .ok (n, r)) : b = spellB n ++ r ∧ n ≤ most := by
  cases b with
  | nil => cases h
  | cons c l =>
    unfold numB at h
    simp only [] at h
    obtain ⟨hf1, hf2, hf3⟩ := lead_first c
    have h8 := leadN_le c.toNat
    have hcb := c.toNat_lt
    have hon : onesN (leadN c.toNat) ≤ c.toNat := by
      have : ∀ c : Fin 256, onesN (leadN c.val) ≤ c.val := by decide +kernel
      exact this ⟨c.toNat, c.toNat_lt⟩
    generalize hk : leadN c.toNat = k at *
    split at h
    · cases h
    · rename_i h1
      split at h
      · cases h
      · rename_i h2
        split at h
        · cases h
        · rename_i h3
          have hlk : (l.take k).length = k := by rw [List.length_take]; omega
          generalize hN : foldB (c.toNat - onesN k) (l.take k) = N at *
          cases h
          have hlo := foldB_ge (l.take k) (c.toNat - onesN k)
          have hhi := foldB_lt (l.take k) (c.toNat - onesN k) (c.toNat - onesN k + 1) (by omega)
          rw [hN, hlk] at hlo hhi
          have hko : kOf n = k := by
            refine kOf_eq h8 (fun j hj => ?_) (fun hk8 => ?_)
            · have h4 : 2 ^ (7 * k) ≤ n := by
                rcases Nat.lt_or_ge n (2 ^ (7 * k)) with h5 | h5
                · exact absurd ⟨by omega, h5⟩ h2
                · exact h5
              exact Nat.le_trans (Nat.pow_le_pow_right (by decide) (by omega)) h4
            · refine Nat.lt_of_lt_of_le hhi ?_
              have e : 2 ^ (7 * k + 7) = 2 ^ (7 - k) * 256 ^ k := by
                rw [show (256 : Nat) = 2 ^ 8 by decide, ← Nat.pow_mul, ← Nat.pow_add]
                congr 1
                omega
              rw [e]
              exact Nat.mul_le_mul_right _ (by omega)
          have hdiv : n / 256 ^ k = c.toNat - onesN k := by
            refine Nat.div_eq_of_lt_le hlo hhi
          have hlow : lowB n k = l.take k := low_fold (l.take k) (c.toNat - onesN k) k hlk n hN.symm
          refine ⟨?_, by omega⟩
          unfold spellB
          rw [hko, hdiv, hlow, show onesN k + (c.toNat - onesN k) = c.toNat by omega, UInt8.ofNat_toNat, List.cons_append, List.take_append_drop]
end Go.Proofs.YtgchdgdhjafdbaaDoor.Pk
