/-
  gf: the document's product, inverse, part, powers.
-/
import Derived.Test.YtaldpfamgfchoabGfC
namespace Go.Proofs.Ytaldpfamgfchoab.Gf
open Go.RowKit
set_option maxRecDepth 100000

theorem xor_i64' : ∀ a b : Fin 256, bits BinOp.xor IntKind.i64 ((a.val : Nat) : Int) ((b.val : Nat) : Int) = ((a.val ^^^ b.val : Nat) : Int) := by decide +kernel
theorem xor_i64 {x y : Nat} (hx : x < 256) (hy : y < 256) : bits BinOp.xor IntKind.i64 (x : Int) (y : Int) = ((x ^^^ y : Nat) : Int) := xor_i64' ⟨x, hx⟩ ⟨y, hy⟩
theorem bit_false {c : Nat} (h : c % 2 = 0) : (((c : Nat) : Int).tmod 2 == 1) = false := by
  rw [Int.tmod_eq_emod_of_nonneg (by omega)]
  simp
  omega
theorem bit_true {c : Nat} (h : c % 2 = 1) : (((c : Nat) : Int).tmod 2 == 1) = true := by
  rw [Int.tmod_eq_emod_of_nonneg (by omega)]
  simp
  omega
/-- The document's product behind k rounds. -/
def dblK (a : Nat) : Nat → Nat
  | 0 => a
  | k + 1 => dbl (dblK a k)
def sumR (a b : Nat) : Nat → Nat
  | 0 => 0
  | k + 1 => sumR a b k ^^^ (dblK a k * (b / 2 ^ k % 2))
theorem rm_sum : ∀ (k j n a b : Nat), rm k (n ^^^ sumR a b j) (dblK a j) (b / 2 ^ j) = n ^^^ sumR a b (j + k)
  | 0, j, n, a, b => rfl
  | k + 1, j, n, a, b => by
    unfold rm
    have h := rm_sum k (j + 1) n a b
    rw [show j + 1 + k = j + (k + 1) by omega] at h
    rw [← h]
    have e1 : b / 2 ^ (j + 1) = b / 2 ^ j / 2 := by rw [Nat.pow_succ, Nat.div_div_eq_div_mul]
    rw [e1]
    show rm k (n ^^^ sumR a b j ^^^ dblK a j * (b / 2 ^ j % 2)) (dbl (dblK a j)) (b / 2 ^ j / 2) = rm k (n ^^^ (sumR a b j ^^^ dblK a j * (b / 2 ^ j % 2))) (dbl (dblK a j)) (b / 2 ^ j / 2)
    rw [Nat.xor_assoc]
theorem sumR_mul {a b : Nat} (ha : a < 256) (hb : b < 256) : sumR a b 8 = mulN a b := by
  rw [← rm_mul ha hb]
  have h := rm_sum 8 0 0 a b
  rw [Nat.zero_xor, Nat.zero_xor, Nat.pow_zero, Nat.div_one, Nat.zero_add] at h
  exact h.symm
theorem dbl_lt {x : Nat} (h : x < 256) : dbl x < 256 := by
  by_cases e : x = 0
  · subst e; decide
  · rw [← pw_lg e h, (pw_facts (lg_lt h)).2.2.2]
    exact pw_lt (Nat.mod_lt _ (by omega))
theorem dblK_lt {a : Nat} (h : a < 256) : ∀ k, dblK a k < 256
  | 0 => h
  | k + 1 => dbl_lt (dblK_lt h k)
theorem sumR_lt {a : Nat} (b : Nat) (h : a < 256) : ∀ k, sumR a b k < 256
  | 0 => (by decide : 0 < 256)
  | k + 1 => by
    have h1 := dblK_lt h k
    refine xor_lt (sumR_lt b h k) ?_
    rcases Nat.mod_two_eq_zero_or_one (b / 2 ^ k) with e | e <;> rw [e] <;> omega

end Go.Proofs.Ytaldpfamgfchoab.Gf
