/-
  keccak, the document's: states that lie by x, then y: plain.
-/
import Derived.Test.YtljhfccaoncjeaaDoorKeG
import Derived.Test.YtljhfccaoncjeaaDoorKeT
namespace Go.Proofs.YtljhfccaoncjeaaDoor.Ke
open Go.RowKit
set_option maxRecDepth 100000

/-- The lane of x + 5 y at 5 x + y. -/
def tr (f : St) : St := fun i => f (i / 5 + 5 * (i % 5))
theorem tr_at (f : St) {x y : Nat} (hy : y < 5) : tr f (x * 5 + y) = f (x + 5 * y) := by
  unfold tr
  rw [show (x * 5 + y) / 5 = x by omega, show (x * 5 + y) % 5 = y by omega]
theorem tr_put (f : St) {x y : Nat} (hx : x < 5) (hy : y < 5) (v : U) : ∀ i, i < 25 → put (tr f) (x * 5 + y) v i = tr (put f (x + 5 * y) v) i := by
  intro i hi
  unfold put tr
  by_cases h : i = x * 5 + y
  · rw [if_pos h]
    exact (if_pos (by omega)).symm
  · rw [if_neg h]
    exact (if_neg (by omega)).symm

def colS (f : St) (x : Nat) : Nat → U
  | 0 => 0
  | y + 1 => colS f x y ^^^ f (x + 5 * y)
theorem colS_all (f : St) (x : Nat) : colS f x 5 = col f x := by
  simp [colS, col]
/-- The first x columns, and of the next one the first y lanes. -/
def colQ (f : St) (x y : Nat) : St := fun i => if i < x then col f i else if i = x then colS f x y else 0
theorem colQ_at (f : St) (x y : Nat) : colQ f x y x = colS f x y := by
  unfold colQ
  rw [if_neg (by omega), if_pos rfl]
theorem colQ_put (f : St) (x y : Nat) : ∀ i, put (colQ f x y) x (colS f x y ^^^ f (x + 5 * y)) i = colQ f x (y + 1) i := by
  intro i
  unfold put colQ
  by_cases h : i = x
  · subst h
    rw [if_pos rfl, if_neg (by omega), if_pos rfl]
    rfl
  · rw [if_neg h]
    by_cases h1 : i < x
    · rw [if_pos h1, if_pos h1]
    · rw [if_neg h1, if_neg h1, if_neg h, if_neg h]
theorem colQ_next (f : St) (x : Nat) : ∀ i, colQ f x 5 i = colQ f (x + 1) 0 i := by
  intro i
  unfold colQ
  by_cases h : i < x
  · rw [if_pos h, if_pos (by omega)]
  · rw [if_neg h]
    by_cases h1 : i = x
    · subst h1
      rw [if_pos rfl, if_pos (by omega), colS_all]
    · rw [if_neg h1, if_neg (by omega)]
      by_cases h2 : i = x + 1
      · rw [if_pos h2]; rfl
      · rw [if_neg h2]
theorem colQ_all (f : St) : ∀ i, i < 5 → colQ f 5 0 i = col f i := fun _ hi => if_pos hi
theorem colQ_none (f : St) : ∀ i, colQ f 0 0 i = 0 := by
  intro i
  unfold colQ
  rw [if_neg (by omega)]
  split
  · rfl
  · rfl

/-- The first m cells are those of g, the others those of f. -/
def mix (g f : St) (m : Nat) : St := fun i => if i < m then g i else f i
theorem mix_none (g f : St) : ∀ i, f i = mix g f 0 i := fun i => (if_neg (by omega)).symm
theorem mix_put (g f : St) (m : Nat) : ∀ i, put (mix g f m) m (g m) i = mix g f (m + 1) i := by
  intro i
  unfold put mix
  by_cases h : i = m
  · subst h
    rw [if_pos rfl, if_pos (by omega)]
  · rw [if_neg h]
    by_cases h1 : i < m
    · rw [if_pos h1, if_pos (by omega)]
    · rw [if_neg h1, if_neg (by omega)]
theorem mix_at (g f : St) (m : Nat) : mix g f m m = f m := if_neg (by omega)
theorem mix_all (g f : St) {m : Nat} : ∀ i, i < m → mix g f m i = g i := fun _ hi => if_pos hi

theorem theta_tr (f : St) {x y : Nat} (hx : x < 5) (hy : y < 5) : tr (theta f) (x * 5 + y) = f (x + 5 * y) ^^^ col f ((x + 4) % 5) ^^^ rotl (col f ((x + 1) % 5)) 1 := by
  rw [tr_at _ hy]
  unfold theta both
  rw [show (x + 5 * y) % 5 = x by omega, BitVec.xor_assoc]
theorem chi_tr (f : St) {x y : Nat} (hx : x < 5) (hy : y < 5) : tr (chi f) (x * 5 + y) = tr f (x * 5 + y) ^^^ (tr f ((x + 2) % 5 * 5 + y) &&& ~~~ tr f ((x + 1) % 5 * 5 + y)) := by
  rw [tr_at _ hy, tr_at _ hy, tr_at _ hy, tr_at _ hy]
  unfold chi chiAt
  rw [show (x + 5 * y) / 5 * 5 + ((x + 5 * y) % 5 + 2) % 5 = (x + 2) % 5 + 5 * y by omega, show (x + 5 * y) / 5 * 5 + ((x + 5 * y) % 5 + 1) % 5 = (x + 1) % 5 + 5 * y by omega]

/-- Where the path stands. -/
def xAt : Nat → Nat
  | 0 => 1
  | k + 1 => pth k % 5
def yAt : Nat → Nat
  | 0 => 0
  | k + 1 => pth k / 5
theorem path_up : ∀ k, k < 24 → xAt (k + 1) = yAt k ∧ yAt (k + 1) = (2 * xAt k + 3 * yAt k) % 5 ∧ xAt k < 5 ∧ yAt k < 5 ∧ xAt (k + 1) < 5 ∧ yAt (k + 1) < 5 ∧ xAt (k + 1) + 5 * yAt (k + 1) = pth k ∧ xAt k + 5 * yAt k = pre k := by decide
theorem turn_le : ∀ k, k < 24 → turn k ≤ 300 := by decide
end Go.Proofs.YtljhfccaoncjeaaDoor.Ke
