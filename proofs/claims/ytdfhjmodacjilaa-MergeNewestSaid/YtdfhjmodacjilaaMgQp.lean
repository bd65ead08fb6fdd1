/-
  merge's laws, plain: entries that came are as they are laid.
-/
import Derived.Test.YtdfhjmodacjilaaMgM
namespace Go.Proofs.Ytdfhjmodacjilaa.Mg
open Me
set_option maxRecDepth 100000
set_option linter.unusedVariables false

theorem norm_norm (e : En) : norm (norm e) = norm e := by
  unfold norm
  by_cases h : e.g = true
  · rw [if_pos h]; rfl
  · rw [if_neg h, if_neg h]
theorem allN_norm {Ls : List (List En)} (h : ∀ l ∈ Ls, Sorted l) : ∀ e ∈ allN Ls, norm e = e := by
  intro e he
  obtain ⟨n, x, _, h1, _⟩ := (allN_tells Ls 0 h).frm e he
  rw [← h1, norm_norm]
theorem gone_v {e : En} (h : norm e = e) (hg : e.g = true) : e.v = [] := by
  unfold norm at h
  rw [if_pos hg] at h
  rw [← h]
theorem sumL_all {Ls : List (List En)} (h : sumL Ls ≤ 400) : ∀ L ∈ Ls, L.length ≤ 1000 := fun L hL => Nat.le_trans (sumL_at hL) (by omega)

end Go.Proofs.Ytdfhjmodacjilaa.Mg
