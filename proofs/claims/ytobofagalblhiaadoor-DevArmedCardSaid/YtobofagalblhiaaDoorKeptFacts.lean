/-
  Plain facts for DevKept: which sectors are loose, and what a start leaves of them.
-/
import Derived.Test.YtobofagalblhiaaDoorDevJ
import Derived.BigQuiet
import Derived.Deep.QuietTactic
namespace Go.Proofs.YtobofagalblhiaaDoor
open Go.RowKit Go.Maps

theorem Stay.drewN {X : Nat → Prop} (w : World) (n : Nat) : Stay X w (w.drewN n) := ⟨rfl, rfl, rfl, Nat.le_refl _, fun _ _ _ => rfl⟩

theorem stepS_miss (s : Nat → List UInt8) (L : Nat → Option (List UInt8)) (keys : List Nat) (ks : List Bool) (j : Nat) : ∀ i, (∀ r, r < i → keys.getD r 0 ≠ j) → stepS s L keys ks i j = s j
  | 0, _ => rfl
  | i + 1, h => by
    have ih := stepS_miss s L keys ks j i (fun r hr => h r (by omega))
    unfold stepS
    split
    · unfold upd
      rw [if_neg (fun e => h i (by omega) e.symm)]; exact ih
    · exact ih

theorem stepS_hit (s : Nat → List UInt8) (L : Nat → Option (List UInt8)) (keys : List Nat) (ks : List Bool) (j r : Nat) (hr : keys.getD r 0 = j) : ∀ i, r < i → (∀ q, q < i → q ≠ r → keys.getD q 0 ≠ j) →
    stepS s L keys ks i j = if ks.getD r false = true then (L j).getD zsec else s j
  | 0, h, _ => by omega
  | i + 1, h, hu => by
    by_cases hri : r = i
    · subst hri
      have hm := stepS_miss s L keys ks j r (fun q hq => hu q (by omega) (by omega))
      unfold stepS
      split
      · unfold upd; rw [hr, if_pos rfl]
      · exact hm
    · have ih := stepS_hit s L keys ks j r hr i (by omega) (fun q hq hne => hu q (by omega) hne)
      have hne := hu i (by omega) (fun e => hri e.symm)
      rw [← ih]
      conv => lhs; unfold stepS
      split
      · unfold upd
        rw [if_neg (fun e => hne e.symm)]
      · rfl

/-- A safe sector behind a start: the loose one, where its mark says so. -/
theorem started_hit (d : DS) (ks : List Bool) (j r : Nat) (hr : r < (keysL d.L d.n).length) (hj : (keysL d.L d.n).getD r 0 = j) (l : List UInt8) (hl : d.L j = some l) :
    (d.started ks).cur j = if ks.getD r false = true then l else d.s j := by
  rw [cur_started]
  show stepS d.s d.L (keysL d.L d.n) ks (keysL d.L d.n).length j = _
  rw [stepS_hit _ _ _ _ j r hj _ hr, hl]
  · rfl
  · intro q hq hne he
    have hs := List.pairwise_iff_getElem.1 (keysL_sorted d.L d.n)
    rw [List.getD_eq_getElem?_getD, List.getElem?_eq_getElem hq] at he
    rw [List.getD_eq_getElem?_getD, List.getElem?_eq_getElem hr] at hj
    simp only [Option.getD_some] at he hj
    rcases Nat.lt_or_gt_of_ne hne with h | h
    · have := hs q r hq hr h; omega
    · have := hs r q hr hq h; omega

theorem started_miss (d : DS) (ks : List Bool) (j : Nat) (hl : d.L j = none) : (d.started ks).cur j = d.s j := by
  rw [cur_started]
  show stepS d.s d.L (keysL d.L d.n) ks (keysL d.L d.n).length j = _
  refine stepS_miss _ _ _ _ j _ (fun r hr he => ?_)
  have hm : (keysL d.L d.n).getD r 0 ∈ keysL d.L d.n := by
    rw [List.getD_eq_getElem?_getD, List.getElem?_eq_getElem hr]; exact List.getElem_mem hr
  have := (mem_keysL.1 hm).2
  rw [he, hl] at this
  cases this

end Go.Proofs.YtobofagalblhiaaDoor
