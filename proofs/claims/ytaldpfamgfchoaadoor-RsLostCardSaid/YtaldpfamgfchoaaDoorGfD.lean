/-
  gf: the document's product, inverse, part, powers.
-/
import Derived.Test.YtaldpfamgfchoaaDoorGfC
namespace Go.Proofs.YtaldpfamgfchoaaDoor.Gf
open Go.RowKit
set_option maxRecDepth 100000

theorem xor_i64' : ∀ a b : Fin 256, bits BinOp.xor IntKind.i64 ((a.val : Nat) : Int) ((b.val : Nat) : Int) = ((a.val ^^^ b.val : Nat) : Int) := by decide +kernel
theorem xor_i64 {x y : Nat} (hx : x < 256) (hy : y < 256) : bits BinOp.xor IntKind.i64 (x : Int) (y : Int) = ((x ^^^ y : Nat) : Int) := xor_i64' ⟨x, hx⟩ ⟨y, hy⟩
theorem bit_false {c : Nat} (h : c % 2 = 0) : (((c : Nat) : Int).tmod 2 == 1) = false := by
  rw [Int.tmod_eq_emod_of_nonneg (by omega)]
  simp
  omega
theorem bit_true {c : Nat} (h : c % 2 = 1) : (((c : Nat) : Int).tmod 2 == 1) = true := by
  rw [Int.tmod_eq_emod_of_nonneg (by omega)]
  simp
  omega
/-- The document's product behind k rounds. -/
def dblK (a : Nat) : Nat → Nat
  | 0 => a
  | k + 1 => dbl (dblK a k)
def sumR (a b : Nat) : Nat → Nat
  | 0 => 0
  | k + 1 => sumR a b k ^^^ (dblK a k * (b / 2 ^ k % 2))
theorem rm_sum : ∀ (k j n a b : Nat), rm k (n ^^^ sumR a b j) (dblK a j) (b / 2 ^ j) = n ^^^ sumR a b (j + k)
  | 0, j, n, a, b => rfl
  | k + 1, j, n, a, b => by
    unfold rm
    have h := rm_sum k (j + 1) n a b
    rw [show j + 1 + k = j + (k + 1) by omega] at h
    rw [← h]
    have e1 : b / 2 ^ (j + 1) = b / 2 ^ j / 2 := by rw [Nat.pow_succ, Nat.div_div_eq_div_mul]
    rw [e1]
    show rm k (n ^^^ sumR a b j ^^^ dblK a j * (b / 2 ^ j % 2)) (dbl (dblK a j)) (b / 2 ^ j / 2) = rm k (n ^^^ (sumR a b j ^^^ dblK a j * (b / 2 ^ j % 2))) (dbl (dblK a j)) (b / 2 ^ j / 2)
    rw [Nat.xor_assoc]
theorem sumR_mul {a b : Nat} (ha : a < 256) (hb : b < 256) : sumR a b 8 = mulN a b := by
  rw [← rm_mul ha hb]
  have h := rm_sum 8 0 0 a b
  rw [Nat.zero_xor, Nat.zero_xor, Nat.pow_zero, Nat.div_one, Nat.zero_add] at h
  exact h.symm
theorem dbl_lt {x : Nat} (h : x < 256) : dbl x < 256 := by
  by_cases e : x = 0
  · subst e; decide
  · rw [← pw_lg e h, (pw_facts (lg_lt h)).2.2.2]
    exact pw_lt (Nat.mod_lt _ (by omega))
theorem dblK_lt {a : Nat} (h : a < 256) : ∀ k, dblK a k < 256
  | 0 => h
  | k + 1 => dbl_lt (dblK_lt h k)
theorem sumR_lt {a : Nat} (b : Nat) (h : a < 256) : ∀ k, sumR a b k < 256
  | 0 => (by decide : 0 < 256)
  | k + 1 => by
    have h1 := dblK_lt h k
    refine xor_lt (sumR_lt b h k) ?_
    rcases Nat.mod_two_eq_zero_or_one (b / 2 ^ k) with e | e <;> rw [e] <;> omega

set_option maxHeartbeats 2000000 in
theorem rmul_any (w : World) (a b : Nat) (ha : a < 256) (hb : b < 256) :
    Calls Tryd.prog 28 #[.int .u8 (a : Int), .int .u8 (b : Int)] w fun e w' => e = .returned (.int .u8 (mulN a b : Int)) ∧ w' = w := by
  have HM := Lib.hid (sumR_mul ha hb)
  have HA := Lib.hid ha
  have q0 : (a : Int) < 256 := by omega
  have q1 : (b : Int) < 256 := by omega
  clear ha hb
  go_enter Tryd.func28, Tryd.ntmps28
  go_wp2
  go_loopw [5, 6, 7] (fun x n i wr => ∃ k : Nat, k ≤ 8 ∧ i = .int .i64 (k : Int) ∧ n = .int .i64 (sumR a b k : Int) ∧ x = .int .i64 (dblK a k : Int) ∧ wr = w) (fun _ _ i _ => 8 - (intOf i).toNat)
  case atStart => exact ⟨0, by omega, rfl, rfl, rfl, rfl⟩
  case round =>
    obtain ⟨k, hk, rfl, rfl, rfl, rfl⟩ := hrel
    obtain ⟨x, hx⟩ : ∃ x, x = dblK a k := ⟨_, rfl⟩
    obtain ⟨n, hn⟩ : ∃ n, n = sumR a b k := ⟨_, rfl⟩
    rw [← hx, ← hn]
    have x1 : x < 256 := hx ▸ dblK_lt HA.out k
    have n1 : n < 256 := hn ▸ sumR_lt b HA.out k
    have q2 : (x : Int) < 256 := by omega
    have q3 : (n : Int) < 256 := by omega
    have HX := Lib.hid hx
    have HN := Lib.hid hn
    have HX1 := Lib.hid x1
    have HN1 := Lib.hid n1
    clear hx hn x1 n1
    by_cases hlt : k < 8
    · have HK := Lib.hid hlt
      clear hlt
      have q4 : (k : Int) < 8 := by have := HK.out; omega
      have hsu : sumR a b (k + 1) = n ^^^ (x * (b / 2 ^ k % 2)) := by rw [HN.out, HX.out]; rfl
      have hdu : dblK a (k + 1) = dbl x := by rw [HX.out]; rfl
      have hbi : (b : Int) / 2 ^ k = ((b / 2 ^ k : Nat) : Int) := by rw [Int.natCast_ediv, Int.natCast_pow]; rfl
      have HSU := Lib.hid hsu
      have HDU := Lib.hid hdu
      have HKK := Lib.hid hk
      clear hsu hdu hk
      rcases Nat.mod_two_eq_zero_or_one (b / 2 ^ k) with hb | hb
      · have e1 : (((b : Int) / 2 ^ k).tmod 2 == 1) = false := by rw [hbi]; exact bit_false hb
        have HB := Lib.hid hb
        clear hbi hb
        by_cases hc : 255 < 2 * (x : Int)
        · have hxx : bits BinOp.xor IntKind.i64 (2 * (x : Int)) 285 = ((dbl x : Nat) : Int) := by
            rw [dbl_hi HX1.out (by omega)]
            have := xor_285 ⟨2 * x, by have := HX1.out; omega⟩
            simpa using this
          go_wp2
          exact ⟨⟨k + 1, by have := HK.out; omega, by go_num, by rw [HSU.out, HB.out, Nat.mul_zero, Nat.xor_zero], by rw [HDU.out], trivial⟩, by have := HK.out; simp [intOf]; omega⟩
        · go_wp2
          exact ⟨⟨k + 1, by have := HK.out; omega, by go_num, by rw [HSU.out, HB.out, Nat.mul_zero, Nat.xor_zero], by rw [HDU.out, dbl_lo (by omega)]; go_num, trivial⟩, by have := HK.out; simp [intOf]; omega⟩
      · have e1 : (((b : Int) / 2 ^ k).tmod 2 == 1) = true := by rw [hbi]; exact bit_true hb
        have HB := Lib.hid hb
        have hxn := xor_i64 HN1.out HX1.out
        clear hbi hb
        by_cases hc : 255 < 2 * (x : Int)
        · have hxx : bits BinOp.xor IntKind.i64 (2 * (x : Int)) 285 = ((dbl x : Nat) : Int) := by
            rw [dbl_hi HX1.out (by omega)]
            have := xor_285 ⟨2 * x, by have := HX1.out; omega⟩
            simpa using this
          go_wp2
          exact ⟨⟨k + 1, by have := HK.out; omega, by go_num, by rw [HSU.out, HB.out, Nat.mul_one], by rw [HDU.out], trivial⟩, by have := HK.out; simp [intOf]; omega⟩
        · go_wp2
          exact ⟨⟨k + 1, by have := HK.out; omega, by go_num, by rw [HSU.out, HB.out, Nat.mul_one], by rw [HDU.out, dbl_lo (by omega)]; go_num, trivial⟩, by have := HK.out; simp [intOf]; omega⟩
    · obtain rfl : k = 8 := by omega
      go_wp2
      go_ret
      exact ⟨by rw [← HM.out, HN.out]; rfl, rfl⟩

set_option maxHeartbeats 1000000 in
/-- The document's Inv of 0. -/
theorem rinv_zero (w : World) :
    Calls Tryd.prog 40 #[.int .u8 0] w fun e w' => e = .returned (.tuple #[.int .u8 0, .int .i64 14]) ∧ w' = w := by
  go_enter Tryd.func40, Tryd.ntmps40
  go_wp2
  go_loopw [4] (fun i wr => ∃ k : Nat, k ≤ 256 ∧ i = .int .i64 (k : Int) ∧ wr = w) (fun i _ => 256 - (intOf i).toNat)
  case atStart => exact ⟨1, by omega, rfl, rfl⟩
  case round =>
    obtain ⟨k, hk, rfl, rfl⟩ := hrel
    by_cases hlt : k < 256
    · have q0 : (k : Int) < 256 := by omega
      have HK := Lib.hid hlt
      clear hlt hk
      go_wp2_with fail
      refine (rmul_any wr 0 k (by omega) HK.out).mono ?_
      rintro e w' ⟨rfl, rfl⟩
      rw [zero_mulN]
      go_wp2
      exact ⟨⟨k + 1, by have := HK.out; omega, by go_num, trivial⟩, by have := HK.out; simp [intOf]; omega⟩
    · obtain rfl : k = 256 := by omega
      go_wp2
      go_ret2
      exact ⟨rfl, rfl⟩
set_option maxHeartbeats 1000000 in
/-- The document's Inv. -/
theorem rinv_any (w : World) (a : Nat) (h0 : a ≠ 0) (ha : a < 256) :
    Calls Tryd.prog 40 #[.int .u8 (a : Int)] w fun e w' => e = .returned (.tuple #[.int .u8 (invN a : Int), .int .i64 0]) ∧ w' = w := by
  have H0 := Lib.hid h0
  have HA := Lib.hid ha
  clear h0 ha
  go_enter Tryd.func40, Tryd.ntmps40
  go_wp2
  go_loopw [4] (fun i wr => ∃ k : Nat, k ≤ invN a ∧ i = .int .i64 (k : Int) ∧ wr = w) (fun i _ => 256 - (intOf i).toNat)
  case atStart => exact ⟨1, by have := invN_nz a; omega, rfl, rfl⟩
  case round =>
    obtain ⟨k, hk, rfl, rfl⟩ := hrel
    have hi := invN_lt a
    have q0 : (k : Int) < 256 := by omega
    by_cases he : k = invN a
    · have HE := Lib.hid he
      have HI := Lib.hid hi
      clear he hk hi
      go_wp2_with fail
      refine (rmul_any wr a k HA.out (by rw [HE.out]; exact HI.out) ).mono ?_
      rintro e w' ⟨rfl, rfl⟩
      rw [show mulN a k = 1 by rw [HE.out]; exact mul_inv H0.out]
      go_wp2
      go_ret2
      exact ⟨by rw [← HE.out]; rfl, rfl⟩
    · have hm : mulN a k ≠ 1 := fun x => he (inv_only H0.out (by omega) x)
      have hl : k < invN a := by omega
      have e1 : ((mulN a k : Int) == 1) = false := by simp; omega
      have HL := Lib.hid hl
      have HI := Lib.hid hi
      clear he hk hm hl hi
      go_wp2_with fail
      refine (rmul_any wr a k HA.out (by have := HL.out; have := HI.out; omega)).mono ?_
      rintro e w' ⟨rfl, rfl⟩
      have hm2 := mulN_lt a k
      obtain ⟨m, hm⟩ : ∃ m, m = mulN a k := ⟨_, rfl⟩
      rw [← hm] at e1 hm2 ⊢
      clear hm
      go_wp2
      exact ⟨⟨k + 1, HL.out, by go_num, trivial⟩, by have := HL.out; have := HI.out; simp [intOf]; omega⟩
end Go.Proofs.YtaldpfamgfchoaaDoor.Gf
