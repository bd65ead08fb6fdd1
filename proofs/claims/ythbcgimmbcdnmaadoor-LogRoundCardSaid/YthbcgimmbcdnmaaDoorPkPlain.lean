/-
  pack's numbers as bytes, in plain lists: how many bytes, which ones, and that they are read back; which of two comes first.
-/
import Derived.Test.YthbcgimmbcdnmaaDoorFlat
namespace Go.Proofs.YthbcgimmbcdnmaaDoor.Pk

def onesN (k : Nat) : Nat := 256 - 2 ^ (8 - k)

/-- How many bytes follow the first one. -/
def kOf (n : Nat) : Nat :=
  if n < 128 then 0 else if n < 16384 then 1 else if n < 2097152 then 2 else if n < 268435456 then 3 else if n < 34359738368 then 4
  else if n < 4398046511104 then 5 else if n < 562949953421312 then 6 else if n < 72057594037927936 then 7 else 8

theorem kOf_le (n : Nat) : kOf n ≤ 8 := by
  unfold kOf
  repeat' split
  all_goals omega

theorem eight {k : Nat} (h : k ≤ 8) : k = 0 ∨ k = 1 ∨ k = 2 ∨ k = 3 ∨ k = 4 ∨ k = 5 ∨ k = 6 ∨ k = 7 ∨ k = 8 := by omega

theorem kOf_lt {n j : Nat} (h : j < kOf n) : 2 ^ (7 * j + 7) ≤ n := by
  have h8 := kOf_le n
  have hj : j ≤ 8 := by omega
  unfold kOf at h
  rcases eight hj with rfl | rfl | rfl | rfl | rfl | rfl | rfl | rfl | rfl <;> simp only [Nat.reduceMul, Nat.reduceAdd, Nat.reducePow] <;> (repeat' split at h) <;> omega

theorem kOf_ge {n : Nat} (h : kOf n < 8) : n < 2 ^ (7 * kOf n + 7) := by
  unfold kOf at *
  repeat' split at h
  all_goals first | omega | (simp only [*, if_true, if_false]; done) | (simp only [*, if_true, if_false]; simp only [Nat.reduceMul, Nat.reduceAdd, Nat.reducePow]; try omega)

theorem kOf_eq {n k : Nat} (hk : k ≤ 8) (h1 : ∀ j, j < k → 2 ^ (7 * j + 7) ≤ n) (h2 : k < 8 → n < 2 ^ (7 * k + 7)) : kOf n = k := by
  rcases Nat.lt_trichotomy (kOf n) k with h | h | h
  · have a := h1 _ h
    have b := kOf_ge (n := n) (by omega)
    omega
  · exact h
  · have a := kOf_lt h
    have b := h2 (by have := kOf_le n; omega)
    omega

theorem kOf_mono {n m : Nat} (h : n ≤ m) : kOf n ≤ kOf m := by
  rcases Nat.lt_or_ge (kOf m) (kOf n) with hlt | hge
  · have a := kOf_lt hlt
    have b := kOf_ge (n := m) (by have := kOf_le n; omega)
    omega
  · exact hge

/-- The low bytes of a number, the highest first. -/
def lowB (n : Nat) : Nat → List UInt8
  | 0 => []
  | k + 1 => UInt8.ofNat (n / 256 ^ k % 256) :: lowB n k

theorem length_lowB (n : Nat) : ∀ k, (lowB n k).length = k
  | 0 => rfl
  | k + 1 => by simp [lowB, length_lowB n k]

theorem lowB_at (n : Nat) : ∀ k i, i < k → (lowB n k)[i]? = some (UInt8.ofNat (n / 256 ^ (k - 1 - i) % 256))
  | 0, i, h => by omega
  | k + 1, 0, _ => by simp [lowB]
  | k + 1, i + 1, h => by
    have ih := lowB_at n k i (by omega)
    simp only [lowB, List.getElem?_cons_succ, ih]
    rw [show k + 1 - 1 - (i + 1) = k - 1 - i by omega]

/-- A number as bytes. -/
def spellB (n : Nat) : List UInt8 := UInt8.ofNat (onesN (kOf n) + n / 256 ^ kOf n) :: lowB n (kOf n)

theorem length_spellB (n : Nat) : (spellB n).length = kOf n + 1 := by simp [spellB, length_lowB]

def foldB (a : Nat) (l : List UInt8) : Nat := l.foldl (fun n c => n * 256 + c.toNat) a

theorem foldB_cons (a : Nat) (c : UInt8) (l : List UInt8) : foldB a (c :: l) = foldB (a * 256 + c.toNat) l := rfl
theorem foldB_snoc (a : Nat) (l : List UInt8) (c : UInt8) : foldB a (l ++ [c]) = foldB a l * 256 + c.toNat := by simp [foldB]
theorem foldB_lt : ∀ (l : List UInt8) (a b : Nat), a < b → foldB a l < b * 256 ^ l.length
  | [], a, b, h => by simpa [foldB] using h
  | c :: l, a, b, h => by
    have hc := c.toNat_lt
    have := foldB_lt l (a * 256 + c.toNat) (b * 256) (by omega)
    rw [foldB_cons, List.length_cons, Nat.pow_succ, Nat.mul_comm (256 ^ l.length) 256, ← Nat.mul_assoc]
    exact this
theorem foldB_ge : ∀ (l : List UInt8) (a : Nat), a * 256 ^ l.length ≤ foldB a l
  | [], a => by simp [foldB]
  | c :: l, a => by
    have := foldB_ge l (a * 256 + c.toNat)
    rw [foldB_cons, List.length_cons, Nat.pow_succ, Nat.mul_comm (256 ^ l.length) 256, ← Nat.mul_assoc]
    exact Nat.le_trans (Nat.mul_le_mul_right _ (by omega)) this

theorem toNat_ofNat {x : Nat} (h : x < 256) : (UInt8.ofNat x).toNat = x := by simp; omega

theorem foldB_lowB (n : Nat) : ∀ k a, foldB a (lowB n k) = a * 256 ^ k + n % 256 ^ k
  | 0, a => by simp [foldB, lowB, Nat.mod_one]
  | k + 1, a => by
    rw [lowB, foldB_cons, foldB_lowB n k, toNat_ofNat (Nat.mod_lt _ (by decide)), Nat.pow_succ, Nat.mod_mul]
    rw [Nat.add_mul, Nat.mul_assoc, Nat.mul_comm 256 (256 ^ k), Nat.mul_comm (n / 256 ^ k % 256)]
    omega

/-- How many bits 1 a byte begins with. -/
def leadN (c : Nat) : Nat :=
  if c < 128 then 0 else if c < 192 then 1 else if c < 224 then 2 else if c < 240 then 3 else if c < 248 then 4 else if c < 252 then 5 else if c < 254 then 6 else if c < 255 then 7 else 8
theorem leadN_le (c : Nat) : leadN c ≤ 8 := by
  unfold leadN
  repeat' split
  all_goals omega

/-- The number that bytes begin with: it and the bytes behind it, or the error. -/
def numB (most : Nat) : List UInt8 → Except Nat (Nat × List UInt8)
  | [] => .error 12
  | c :: r =>
    if r.length < leadN c.toNat then .error 12
    else if 0 < leadN c.toNat ∧ foldB (c.toNat - onesN (leadN c.toNat)) (r.take (leadN c.toNat)) < 2 ^ (7 * leadN c.toNat) then .error 3
    else if most < foldB (c.toNat - onesN (leadN c.toNat)) (r.take (leadN c.toNat)) then .error 4
    else .ok (foldB (c.toNat - onesN (leadN c.toNat)) (r.take (leadN c.toNat)), r.drop (leadN c.toNat))

theorem first_lt {n : Nat} (hn : n < 2 ^ 64) : n / 256 ^ kOf n < 2 ^ (7 - kOf n) ∧ (kOf n = 8 → n / 256 ^ kOf n = 0) := by
  have h8 := kOf_le n
  have hg := kOf_ge (n := n)
  generalize kOf n = k at *
  rcases eight h8 with rfl | rfl | rfl | rfl | rfl | rfl | rfl | rfl | rfl <;> simp only [Nat.reduceMul, Nat.reduceAdd, Nat.reducePow, Nat.reduceSub] at * <;> omega

theorem first_byte {n : Nat} (hn : n < 2 ^ 64) : onesN (kOf n) + n / 256 ^ kOf n < 256 ∧ leadN (onesN (kOf n) + n / 256 ^ kOf n) = kOf n := by
  have h8 := kOf_le n
  obtain ⟨h1, h2⟩ := first_lt hn
  generalize kOf n = k at *
  generalize n / 256 ^ k = q at *
  unfold onesN leadN
  rcases eight h8 with rfl | rfl | rfl | rfl | rfl | rfl | rfl | rfl | rfl <;> simp only [Nat.reducePow, Nat.reduceSub] at * <;> refine ⟨by omega, ?_⟩ <;> (repeat' split) <;> omega

/-- What is spelled is read. -/
theorem num_spell {n most : Nat} (hn : n < 2 ^ 64) (hm : n ≤ most) (r : List UInt8) : numB most (spellB n ++ r) = .ok (n, r) := by
  obtain ⟨h1, h2⟩ := first_byte hn
  have hl := length_lowB n (kOf n)
  have hf : foldB (n / 256 ^ kOf n) (lowB n (kOf n)) = n := by
    rw [foldB_lowB]
    have := Nat.div_add_mod n (256 ^ kOf n)
    rw [Nat.mul_comm] at this
    exact this
  show numB most (UInt8.ofNat (onesN (kOf n) + n / 256 ^ kOf n) :: (lowB n (kOf n) ++ r)) = _
  unfold numB
  simp only [toNat_ofNat h1]
  rw [ h2, List.take_left' hl, List.drop_left' hl, Nat.add_sub_cancel_left, hf]
  rw [if_neg (by rw [List.length_append, hl]; omega), if_neg, if_neg (by omega)]
  rintro ⟨h3, h4⟩
  have := kOf_lt (n := n) (j := kOf n - 1) (by omega)
  rw [show 7 * (kOf n - 1) + 7 = 7 * kOf n by omega] at this
  omega

end Go.Proofs.YthbcgimmbcdnmaaDoor.Pk
