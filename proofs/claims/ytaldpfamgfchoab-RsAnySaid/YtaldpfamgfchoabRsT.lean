/-
  rs: Join.
-/
import Derived.Test.YtaldpfamgfchoabRsS
namespace Go.Proofs.Ytaldpfamgfchoab.Rs
open Go.RowKit Gf
set_option maxRecDepth 100000

def sumN (L : Nat → Nat) : Nat → Nat
  | 0 => 0
  | n + 1 => sumN L n + L n
/-- Rows one behind the other. -/
def catF (L : Nat → Nat) (D : Nat → Nat → UInt8) (k : Nat) : List UInt8 := (List.range k).flatMap (fun i => lf (L i) (D i))
theorem cat_succ (L : Nat → Nat) (D : Nat → Nat → UInt8) (k : Nat) : catF L D (k + 1) = catF L D k ++ lf (L k) (D k) := by simp [catF, List.range_succ]
theorem length_cat (L : Nat → Nat) (D : Nat → Nat → UInt8) : ∀ k, (catF L D k).length = sumN L k
  | 0 => rfl
  | k + 1 => by
    rw [cat_succ, List.length_append, length_cat L D k, length_lf]
    rfl
theorem sumN_le (L : Nat → Nat) : ∀ {n t : Nat}, t ≤ n → sumN L t ≤ sumN L n
  | 0, t, h => by
    have e : t = 0 := by omega
    subst e
    exact Nat.le_refl _
  | n + 1, t, h => by
    by_cases e : t = n + 1
    · subst e; exact Nat.le_refl _
    · have := sumN_le L (n := n) (t := t) (by omega)
      show _ ≤ sumN L n + L n
      omega
theorem cat_pre (L : Nat → Nat) (D : Nat → Nat → UInt8) : ∀ {n t : Nat}, t ≤ n → ∃ r, catF L D n = catF L D t ++ r
  | 0, t, h => by
    have e : t = 0 := by omega
    subst e
    exact ⟨[], (List.append_nil _).symm⟩
  | n + 1, t, h => by
    by_cases e : t = n + 1
    · subst e; exact ⟨[], (List.append_nil _).symm⟩
    · obtain ⟨r, hr⟩ := cat_pre L D (n := n) (t := t) (by omega)
      exact ⟨r ++ lf (L n) (D n), by rw [cat_succ, hr, List.append_assoc]⟩
theorem cat_at {L : Nat → Nat} {D : Nat → Nat → UInt8} {t k j : Nat} (ht : t < k) (hj : j < L t) : (catF L D k).getD (sumN L t + j) 0 = D t j := by
  obtain ⟨r, hr⟩ := cat_pre L D (n := k) (t := t + 1) (by omega)
  rw [hr, cat_succ, List.getD_eq_getElem?_getD, List.append_assoc, List.getElem?_append_right (by rw [length_cat]; omega), length_cat, Nat.add_sub_cancel_left, List.getElem?_append_left (by rw [length_lf]; exact hj), lf_get _ hj]
  rfl

section
variable {w : World} {c g k m N : Nat} {x : Value} {L : Nat → Nat} {D : Nat → Nat → UInt8}
end
end Go.Proofs.Ytaldpfamgfchoab.Rs
