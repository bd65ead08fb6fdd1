/-
  horner: sums by Horner's rule, as plain numbers.
-/
namespace Go.Proofs.YthbcgimmbcdnmaaDoor.Hn

/-- A sum, and bytes behind it. -/
def moreN (s : Nat) (l : List UInt8) : Nat := l.foldl (fun n c => (n * 257 + c.toNat) % 2147483647) (s % 2147483647)
theorem moreN_nil (s : Nat) : moreN s [] = s % 2147483647 := rfl
theorem moreN_snoc (s : Nat) (l : List UInt8) (c : UInt8) : moreN s (l ++ [c]) = (moreN s l * 257 + c.toNat) % 2147483647 := by simp [moreN, List.foldl_append]
theorem fold_lt (l : List UInt8) : ∀ n, n < 2147483647 → l.foldl (fun n c => (n * 257 + c.toNat) % 2147483647) n < 2147483647 := by
  induction l with
  | nil => exact fun n h => h
  | cons c r ih => exact fun n _ => ih _ (Nat.mod_lt _ (by decide))
theorem moreN_lt (s : Nat) (l : List UInt8) : moreN s l < 2147483647 := fold_lt l _ (Nat.mod_lt _ (by decide))
theorem moreN_small {s : Nat} (h : s < 2147483647) (l : List UInt8) : moreN s l = l.foldl (fun n c => (n * 257 + c.toNat) % 2147483647) s := by rw [moreN, Nat.mod_eq_of_lt h]
theorem moreN_app (s : Nat) (a b : List UInt8) : moreN s (a ++ b) = moreN (moreN s a) b := by
  rw [moreN_small (moreN_lt s a)]
  simp [moreN, List.foldl_append]

/-- A power of the base. -/
def pwN (n : Nat) : Nat := 257 ^ n % 2147483647
theorem pwN_lt (n : Nat) : pwN n < 2147483647 := Nat.mod_lt _ (by decide)
theorem pow_start (n : Nat) : (1 * 257 ^ n) % 2147483647 = pwN n := by rw [Nat.one_mul]; rfl
theorem pow_odd (p q m : Nat) (h : m % 2 = 1) : ((p * q % 2147483647) * (q * q % 2147483647) ^ (m / 2)) % 2147483647 = (p * q ^ m) % 2147483647 := by
  rw [Nat.mul_mod, Nat.mod_mod, ← Nat.pow_mod, ← Nat.mul_mod]
  have e : q ^ m = q * (q * q) ^ (m / 2) := by
    rw [← Nat.pow_two, ← Nat.pow_mul]
    have : q * q ^ (2 * (m / 2)) = q ^ (2 * (m / 2) + 1) := by rw [Nat.pow_succ, Nat.mul_comm]
    rw [this]
    congr 1
    omega
  rw [e, Nat.mul_assoc]
theorem pow_even (p q m : Nat) (h : m % 2 = 0) : (p * (q * q % 2147483647) ^ (m / 2)) % 2147483647 = (p * q ^ m) % 2147483647 := by
  rw [Nat.mul_mod, ← Nat.pow_mod, ← Nat.mul_mod]
  have e : q ^ m = (q * q) ^ (m / 2) := by
    rw [← Nat.pow_two, ← Nat.pow_mul]
    congr 1
    omega
  rw [e]
theorem pow_end {p q : Nat} (hp : p < 2147483647) : (p * q ^ 0) % 2147483647 = p := by rw [Nat.pow_zero, Nat.mul_one, Nat.mod_eq_of_lt hp]
theorem pwN_add (n m : Nat) : pwN (n + m) = (pwN n * pwN m) % 2147483647 := by
  unfold pwN
  rw [Nat.pow_add, Nat.mul_mod]
theorem pwN_succ (n : Nat) : pwN (n + 1) = (pwN n * 257) % 2147483647 := by
  unfold pwN
  rw [Nat.pow_succ, Nat.mul_mod]
theorem pwN_zero : pwN 0 = 1 := by decide

/-- Two sums joined. -/
def joinN (a b n : Nat) : Nat := ((a + 2147483646) % 2147483647 * pwN n + b) % 2147483647
theorem joinN_lt (a b n : Nat) : joinN a b n < 2147483647 := Nat.mod_lt _ (by decide)

theorem mm (a b c : Nat) : (a % 2147483647 * b + c) % 2147483647 = (a * b + c) % 2147483647 := by
  rw [Nat.add_mod, Nat.mul_mod, Nat.mod_mod, ← Nat.mul_mod, ← Nat.add_mod]
theorem mm2 (a b c : Nat) : (a * (b % 2147483647) + c) % 2147483647 = (a * b + c) % 2147483647 := by
  rw [Nat.mul_comm, mm, Nat.mul_comm]
theorem addr (a b : Nat) : (a + b) % 2147483647 = (a + b % 2147483647) % 2147483647 := by omega
theorem join_less (A : Nat) : ((A + 1) % 2147483647 + 2147483646) % 2147483647 = A % 2147483647 := by omega
theorem join_join (a i k : Nat) : joinN (joinN a 1 i) 1 k = joinN a 1 (i + k) := by
  unfold joinN
  generalize (a + 2147483646) % 2147483647 = A
  rw [join_less, mm, pwN_add, mm2, Nat.mul_assoc]
theorem join_one (a i : Nat) : joinN 1 a i = a % 2147483647 := by
  unfold joinN
  rw [show (1 + 2147483646) % 2147483647 = 0 from rfl, Nat.zero_mul, Nat.zero_add]

theorem fold_aux (n c P Q F G K : Nat) (h1 : K % 2147483647 = ((n * 257 + c) % 2147483647 * P + F) % 2147483647) (h2 : G % 2147483647 = ((0 * 257 + c) % 2147483647 * P + F) % 2147483647) (h3 : Q = P * 257 % 2147483647) :
    K % 2147483647 = (n * Q + G) % 2147483647 := by
  have e1 := mm (n * 257 + c) P F
  have e2 := mm (0 * 257 + c) P F
  have e3 := mm2 n (P * 257) (c * P + F)
  have e4 := addr (n * Q) G
  have e5 := addr (n * Q) (c * P + F)
  have e6 : (n * 257 + c) * P + F = n * (P * 257) + (c * P + F) := by
    rw [Nat.add_mul, Nat.mul_assoc, Nat.mul_comm 257, Nat.add_assoc]
  have e7 : (0 * 257 + c) * P + F = c * P + F := by rw [Nat.zero_mul, Nat.zero_add]
  rw [h1, e1, e6, ← e3, ← h3, e5, e4, h2, e2, e7]

/-- What bytes behind a number make of it. -/
theorem fold_join (l : List UInt8) : ∀ n : Nat,
    l.foldl (fun n c => (n * 257 + c.toNat) % 2147483647) n % 2147483647 = (n * pwN l.length + l.foldl (fun n c => (n * 257 + c.toNat) % 2147483647) 0) % 2147483647 := by
  induction l with
  | nil => intro n; simp [pwN_zero]
  | cons c r ih =>
    intro n
    simp only [List.foldl_cons, List.length_cons]
    exact fold_aux n c.toNat _ _ _ _ _ (ih _) (ih _) (pwN_succ _)
theorem more_fold (n : Nat) (l : List UInt8) : moreN n l = (n * pwN l.length + l.foldl (fun n c => (n * 257 + c.toNat) % 2147483647) 0) % 2147483647 := by
  have h := fold_join l (n % 2147483647)
  rw [mm] at h
  rw [← h]
  exact (Nat.mod_eq_of_lt (fold_lt l _ (Nat.mod_lt _ (by decide)))).symm
theorem join_more (A : Nat) (b : List UInt8) : joinN A (moreN 1 b) b.length = moreN A b := by
  have e1 := more_fold A b
  have e2 := more_fold 1 b
  generalize b.foldl (fun n c => (n * 257 + c.toNat) % 2147483647) 0 = F at e1 e2
  rw [e1, e2]
  unfold joinN
  generalize pwN b.length = P
  have e3 := mm (A + 2147483646) P ((1 * P + F) % 2147483647)
  have e4 := addr ((A + 2147483646) * P) (1 * P + F)
  have e5 : (A + 2147483646) * P + (1 * P + F) = A * P + F + 2147483647 * P := by
    rw [Nat.add_mul]
    omega
  rw [e3, ← e4, e5, Nat.add_mul_mod_self_left]

end Go.Proofs.YthbcgimmbcdnmaaDoor.Hn
