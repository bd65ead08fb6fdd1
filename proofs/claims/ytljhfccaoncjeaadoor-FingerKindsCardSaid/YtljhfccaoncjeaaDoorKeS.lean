/-
  keccak, the document's: what is taken in and what comes out, plain.
-/
import Derived.Test.YtljhfccaoncjeaaDoorKeM
import Derived.Test.YtljhfccaoncjeaaDoorKeQ
namespace Go.Proofs.YtljhfccaoncjeaaDoor.Ke
open Go.RowKit
set_option maxRecDepth 100000

theorem put_put (f : St) (i : Nat) (a b : U) : put (put f i a) i b = put f i b := by
  funext j
  unfold put
  by_cases h : j = i
  · rw [if_pos h, if_pos h]
  · rw [if_neg h, if_neg h, if_neg h]
theorem put_self (f : St) (i : Nat) : put f i (f i) = f := by
  funext j
  unfold put
  by_cases h : j = i
  · rw [if_pos h, h]
  · rw [if_neg h]
theorem xorB_nought (f : St) (p : Nat) : xorB f p 0 = f := by
  unfold xorB
  have e : (BitVec.ofNat 64 (0 : UInt8).toNat <<< (8 * (p % 8)) : U) = 0#64 := by simp
  rw [e, BitVec.xor_zero, put_self]
theorem ofNat_xor (a b : UInt8) : BitVec.ofNat 64 (a ^^^ b).toNat = BitVec.ofNat 64 a.toNat ^^^ BitVec.ofNat 64 b.toNat := by
  apply BitVec.eq_of_toNat_eq
  have h1 := a.toNat_lt
  have h2 := b.toNat_lt
  have h3 := (a ^^^ b).toNat_lt
  rw [BitVec.toNat_xor, BitVec.toNat_ofNat, BitVec.toNat_ofNat, BitVec.toNat_ofNat, Nat.mod_eq_of_lt (by omega), Nat.mod_eq_of_lt (by omega), Nat.mod_eq_of_lt (by omega)]
  exact UInt8.toNat_xor a b
theorem xorB_xorB (f : St) (p : Nat) (a b : UInt8) : xorB (xorB f p a) p b = xorB f p (a ^^^ b) := by
  unfold xorB
  rw [put_put]
  congr 1
  rw [show put f (p / 8) (f (p / 8) ^^^ BitVec.ofNat 64 a.toNat <<< (8 * (p % 8))) (p / 8) = f (p / 8) ^^^ BitVec.ofNat 64 a.toNat <<< (8 * (p % 8)) from if_pos rfl, BitVec.xor_assoc, ← BitVec.shiftLeft_xor_distrib, ofNat_xor]

theorem eats_append (s : St × Nat) (a b : List UInt8) : eats s (a ++ b) = eats (eats s a) b := by unfold eats; rw [List.foldl_append]
theorem eat_snd (s : St × Nat) (c : UInt8) (h : s.2 < 136) : (eat s c).2 = (s.2 + 1) % 136 := by
  unfold eat
  split
  · rename_i h1
    rw [h1]
  · simp only
    omega
theorem eats_snd (s : St × Nat) (b : List UInt8) (h : s.2 < 136) : (eats s b).2 = (s.2 + b.length) % 136 := by
  induction b generalizing s with
  | nil => show s.2 = _; simp; omega
  | cons c r ih =>
    have h1 := eat_snd s c h
    have h2 := ih (eat s c) (eat_lt s c h)
    show (eats (eat s c) r).2 = _
    rw [h2, h1, List.length_cons]
    omega
theorem eats_zeros (f : St) : ∀ (k t : Nat), t + k < 136 → eats (f, t) (List.replicate k 0) = (f, t + k)
  | 0, _, _ => rfl
  | k + 1, t, h => by
    rw [List.replicate_succ]
    show eats (eat (f, t) 0) _ = _
    have e : eat (f, t) 0 = (f, t + 1) := by
      unfold eat
      rw [if_neg (by simp only; omega)]
      simp only [xorB_nought]
    rw [e, eats_zeros f k (t + 1) (by omega)]
    congr 1
    omega

/-- How many noughts stand behind. -/
def padN (b : List UInt8) : Nat := 135 - b.length % 136
/-- The bytes with their mark, noughts, and the last byte's bit. -/
def tailK (s : UInt8) (p : Nat) : List UInt8 := if p = 0 then [s ^^^ 128] else s :: (List.replicate (p - 1) 0 ++ [128])
def padK (b : List UInt8) (s : UInt8) : List UInt8 := b ++ tailK s (padN b)
theorem padN_lt (b : List UInt8) : padN b < 136 := by unfold padN; omega
theorem length_tailK (s : UInt8) (p : Nat) : (tailK s p).length = p + 1 := by
  unfold tailK
  split
  · rename_i h; rw [h]; rfl
  · simp; omega
theorem length_padK (b : List UInt8) (s : UInt8) : (padK b s).length = b.length + padN b + 1 := by
  unfold padK
  rw [List.length_append, length_tailK]
  omega
theorem pad_eats (b : List UInt8) (s : UInt8) : eats (zeroSt, 0) (padK b s) = (endK (eats (zeroSt, 0) b) s, 0) := by
  unfold padK
  rw [eats_append]
  have ht := eats_snd (zeroSt, 0) b (by decide)
  have hp := padN b
  generalize hs : eats (zeroSt, 0) b = q at ht ⊢
  obtain ⟨f, t⟩ := q
  simp only [Nat.zero_add] at ht
  unfold tailK padN
  by_cases h : 135 - b.length % 136 = 0
  · rw [if_pos h]
    have h1 : t = 135 := by omega
    subst h1
    show eat (f, 135) (s ^^^ 128) = _
    unfold eat endK
    rw [if_pos rfl]
    simp only
    rw [xorB_xorB]
  · rw [if_neg h]
    show eats (eat (f, t) s) _ = _
    have e : eat (f, t) s = (xorB f t s, t + 1) := by
      unfold eat
      rw [if_neg (by simp only; omega)]
    rw [e, eats_append, eats_zeros _ _ _ (by omega), show t + 1 + (135 - b.length % 136 - 1) = 135 by omega]
    show eat (xorB f t s, 135) 128 = _
    unfold eat endK
    rw [if_pos rfl]

/-- The mark of the last byte. -/
theorem pad_set (b : List UInt8) (s : UInt8) (p : Nat) (c : UInt8) (hc : (b ++ s :: List.replicate p 0)[b.length + p]? = some c) : (b ++ s :: List.replicate p 0).set (b.length + p) (c ^^^ 128) = b ++ tailK s p := by
  rw [List.getElem?_append_right (by omega), show b.length + p - b.length = p by omega] at hc
  rw [List.set_append, if_neg (by omega), show b.length + p - b.length = p by omega]
  congr 1
  unfold tailK
  cases p with
  | zero =>
    simp at hc
    subst hc
    rfl
  | succ k =>
    rw [if_neg (by omega)]
    simp at hc
    subst hc
    simp only [List.set_cons_succ, Nat.add_sub_cancel]
    congr 1
    apply List.ext_getElem?
    intro i
    rw [List.getElem?_set]
    by_cases h1 : k = i
    · subst h1
      rw [if_pos rfl, if_pos (by simp), List.getElem?_append_right (by simp)]
      simp
    · rw [if_neg h1]
      by_cases h2 : i < k
      · rw [List.getElem?_append_left (by simpa using h2)]
        rw [List.getElem?_replicate, List.getElem?_replicate, if_pos (by omega), if_pos h2]
      · rw [List.getElem?_eq_none (by simp; omega), List.getElem?_eq_none (by simp; omega)]
theorem xor_128 : ∀ c : Fin 256, bits BinOp.xor IntKind.u8 ((c.val : Nat) : Int) 128 = (((UInt8.ofNat c.val) ^^^ 128).toNat : Int) := by decide +kernel
theorem xor_byte (c : UInt8) : bits BinOp.xor IntKind.u8 (c.toNat : Int) 128 = ((c ^^^ 128).toNat : Int) := by
  have h := xor_128 ⟨c.toNat, c.toNat_lt⟩
  simp only at h
  rw [h]
  simp

theorem outK_succ (f : St) (i : Nat) : outK f (i + 1) = outK f i ++ [byteK (permN f (i / 136)) (i % 136)] := by
  unfold outK
  rw [List.range_succ, List.map_append]
  rfl
theorem lane_tr : ∀ p, p < 136 → p / 8 % 5 < 5 ∧ p / 8 / 5 < 5 ∧ p / 8 % 5 + 5 * (p / 8 / 5) = p / 8 := fun p hp => ⟨by omega, by omega, by omega⟩
theorem out_byte (f : St) (p : Nat) (hp : p < 136) : tr f (p / 8 % 5 * 5 + p / 8 / 5) = f (p / 8) := by
  rw [tr_at _ (by omega)]
  congr 1
  omega
end Go.Proofs.YtljhfccaoncjeaaDoor.Ke
