/-
  gf, plain: powers of 2, logarithms, products; what the document's loops reckon.
-/
import Derived.WalkKit
namespace Go.Proofs.Ytaldpfamgfchoab.Gf
set_option maxRecDepth 100000

def powL : List Nat := [1, 2, 4, 8, 16, 32, 64, 128, 29, 58, 116, 232, 205, 135, 19, 38, 76, 152, 45, 90, 180, 117, 234, 201, 143, 3, 6, 12, 24, 48, 96, 192, 157, 39, 78, 156, 37, 74, 148, 53, 106, 212, 181, 119, 238, 193, 159, 35, 70, 140, 5, 10, 20, 40, 80, 160, 93, 186, 105, 210, 185, 111, 222, 161, 95, 190, 97, 194, 153, 47, 94, 188, 101, 202, 137, 15, 30, 60, 120, 240, 253, 231, 211, 187, 107, 214, 177, 127, 254, 225, 223, 163, 91, 182, 113, 226, 217, 175, 67, 134, 17, 34, 68, 136, 13, 26, 52, 104, 208, 189, 103, 206, 129, 31, 62, 124, 248, 237, 199, 147, 59, 118, 236, 197, 151, 51, 102, 204, 133, 23, 46, 92, 184, 109, 218, 169, 79, 158, 33, 66, 132, 21, 42, 84, 168, 77, 154, 41, 82, 164, 85, 170, 73, 146, 57, 114, 228, 213, 183, 115, 230, 209, 191, 99, 198, 145, 63, 126, 252, 229, 215, 179, 123, 246, 241, 255, 227, 219, 171, 75, 150, 49, 98, 196, 149, 55, 110, 220, 165, 87, 174, 65, 130, 25, 50, 100, 200, 141, 7, 14, 28, 56, 112, 224, 221, 167, 83, 166, 81, 162, 89, 178, 121, 242, 249, 239, 195, 155, 43, 86, 172, 69, 138, 9, 18, 36, 72, 144, 61, 122, 244, 245, 247, 243, 251, 235, 203, 139, 11, 22, 44, 88, 176, 125, 250, 233, 207, 131, 27, 54, 108, 216, 173, 71, 142]
def logL : List Nat := [0, 0, 1, 25, 2, 50, 26, 198, 3, 223, 51, 238, 27, 104, 199, 75, 4, 100, 224, 14, 52, 141, 239, 129, 28, 193, 105, 248, 200, 8, 76, 113, 5, 138, 101, 47, 225, 36, 15, 33, 53, 147, 142, 218, 240, 18, 130, 69, 29, 181, 194, 125, 106, 39, 249, 185, 201, 154, 9, 120, 77, 228, 114, 166, 6, 191, 139, 98, 102, 221, 48, 253, 226, 152, 37, 179, 16, 145, 34, 136, 54, 208, 148, 206, 143, 150, 219, 189, 241, 210, 19, 92, 131, 56, 70, 64, 30, 66, 182, 163, 195, 72, 126, 110, 107, 58, 40, 84, 250, 133, 186, 61, 202, 94, 155, 159, 10, 21, 121, 43, 78, 212, 229, 172, 115, 243, 167, 87, 7, 112, 192, 247, 140, 128, 99, 13, 103, 74, 222, 237, 49, 197, 254, 24, 227, 165, 153, 119, 38, 184, 180, 124, 17, 68, 146, 217, 35, 32, 137, 46, 55, 63, 209, 91, 149, 188, 207, 205, 144, 135, 151, 178, 220, 252, 190, 97, 242, 86, 211, 171, 20, 42, 93, 158, 132, 60, 57, 83, 71, 109, 65, 162, 31, 45, 67, 216, 183, 123, 164, 118, 196, 23, 73, 236, 127, 12, 111, 246, 108, 161, 59, 82, 41, 157, 85, 170, 251, 96, 134, 177, 187, 204, 62, 90, 203, 89, 95, 176, 156, 169, 160, 81, 11, 245, 22, 235, 122, 117, 44, 215, 79, 174, 213, 233, 230, 231, 173, 232, 116, 214, 244, 234, 168, 80, 88, 175]

/-- Twice a number. -/
def dbl (x : Nat) : Nat := (2 * x) ^^^ (285 * (2 * x / 256))
theorem dbl_hi {x : Nat} (h : x < 256) (h1 : 255 < 2 * x) : dbl x = (2 * x) ^^^ 285 := by
  unfold dbl
  rw [show 2 * x / 256 = 1 by omega]
theorem dbl_lo {x : Nat} (h1 : ¬ 255 < 2 * x) : dbl x = 2 * x := by
  unfold dbl
  rw [show 2 * x / 256 = 0 by omega]
  simp
/-- The power of 2, and which one a number is. -/
def pw (n : Nat) : Nat := powL.getD n 0
def lg (a : Nat) : Nat := logL.getD a 0

theorem tab1 : (List.range 255).all (fun i => lg (pw i) == i && Nat.ble 1 (pw i) && Nat.ble (pw i) 255 && dbl (pw i) == pw ((i + 1) % 255)) = true := by decide +kernel
theorem tab2 : (List.range 256).all (fun a => a == 0 || (pw (lg a) == a && Nat.ble (lg a) 254)) = true := by decide +kernel

theorem pw_facts {i : Nat} (h : i < 255) : lg (pw i) = i ∧ 1 ≤ pw i ∧ pw i ≤ 255 ∧ dbl (pw i) = pw ((i + 1) % 255) := by
  have := List.all_eq_true.1 tab1 i (List.mem_range.2 h)
  simp only [Bool.and_eq_true, beq_iff_eq, Nat.ble_eq] at this
  exact ⟨this.1.1.1, this.1.1.2, this.1.2, this.2⟩
theorem lg_facts {a : Nat} (h0 : a ≠ 0) (h : a < 256) : pw (lg a) = a ∧ lg a ≤ 254 := by
  have := List.all_eq_true.1 tab2 a (List.mem_range.2 h)
  simp only [Bool.or_eq_true, Bool.and_eq_true, beq_iff_eq, Nat.ble_eq] at this
  rcases this with e | e
  · exact absurd e h0
  · exact e
theorem lg_pw {i : Nat} (h : i < 255) : lg (pw i) = i := (pw_facts h).1
theorem pw_pos {i : Nat} (h : i < 255) : pw i ≠ 0 := by have := (pw_facts h).2.1; omega
theorem pw_lt {i : Nat} (h : i < 255) : pw i < 256 := by have := (pw_facts h).2.2.1; omega
theorem lg_zero : lg 0 = 0 := by decide
theorem lg_lt {a : Nat} (h : a < 256) : lg a < 255 := by
  by_cases e : a = 0
  · subst e; decide
  · have := (lg_facts e h).2; omega
theorem pw_lg {a : Nat} (h0 : a ≠ 0) (h : a < 256) : pw (lg a) = a := (lg_facts h0 h).1
theorem pw_inj {i j : Nat} (hi : i < 255) (hj : j < 255) (h : pw i = pw j) : i = j := by rw [← lg_pw hi, ← lg_pw hj, h]
theorem pw_zero : pw 0 = 1 := by decide
theorem lg_one : lg 1 = 0 := by decide
theorem lg_two : lg 2 = 1 := by decide

/-- The product, by powers of 2. -/
def mulN (a b : Nat) : Nat := if a = 0 ∨ b = 0 then 0 else pw ((lg a + lg b) % 255)
/-- Rounds of the document's product. -/
def rm : Nat → Nat → Nat → Nat → Nat
  | 0, n, _, _ => n
  | k + 1, n, x, b => rm k (n ^^^ (x * (b % 2))) (dbl x) (b / 2)
def sameL : List Nat → List Nat → Bool
  | [], [] => true
  | a :: r, b :: s => Nat.beq a b && sameL r s
  | _, _ => false
theorem sameL_eq : ∀ {l m : List Nat}, sameL l m = true → l = m
  | [], [], _ => rfl
  | a :: r, b :: s, h => by
    simp only [sameL, Bool.and_eq_true] at h
    rw [Nat.eq_of_beq_eq_true h.1, sameL_eq h.2]
  | [], _ :: _, h => by simp [sameL] at h
  | _ :: _, [], h => by simp [sameL] at h
theorem tab3 : (List.range 255).all (fun i => sameL (powL.map fun b => rm 8 0 (pw i) b) (powL.drop i ++ powL.take i)) = true := by decide +kernel
theorem tab4 : (List.range 256).all (fun a => Nat.beq (rm 8 0 a 0) 0 && Nat.beq (rm 8 0 0 a) 0) = true := by decide +kernel
theorem powL_length : powL.length = 255 := by decide +kernel
theorem pw_get {i : Nat} (h : i < 255) : powL[i]? = some (pw i) := by
  unfold pw
  rw [List.getD_eq_getElem?_getD, List.getElem?_eq_getElem (by rw [powL_length]; exact h)]
  rfl
theorem rm_pw {i j : Nat} (hi : i < 255) (hj : j < 255) : rm 8 0 (pw i) (pw j) = pw ((i + j) % 255) := by
  have h := sameL_eq (List.all_eq_true.1 tab3 i (List.mem_range.2 hi))
  have h1 := congrArg (fun l => l[j]?) h
  simp only [List.getElem?_map, pw_get hj, Option.map_some] at h1
  have hl := powL_length
  by_cases e : i + j < 255
  · rw [List.getElem?_append_left (by rw [List.length_drop]; omega), List.getElem?_drop, pw_get e] at h1
    rw [Option.some.inj h1, Nat.mod_eq_of_lt e]
  · rw [List.getElem?_append_right (by rw [List.length_drop]; omega), List.length_drop, List.getElem?_take_of_lt (by omega), pw_get (by omega)] at h1
    rw [Option.some.inj h1]
    congr 1
    omega
theorem rm_mul {a b : Nat} (ha : a < 256) (hb : b < 256) : rm 8 0 a b = mulN a b := by
  unfold mulN
  by_cases e : a = 0 ∨ b = 0
  · rw [if_pos e]
    rcases e with rfl | rfl
    · have := List.all_eq_true.1 tab4 b (List.mem_range.2 hb)
      simp only [Bool.and_eq_true] at this
      exact Nat.eq_of_beq_eq_true this.2
    · have := List.all_eq_true.1 tab4 a (List.mem_range.2 ha)
      simp only [Bool.and_eq_true] at this
      exact Nat.eq_of_beq_eq_true this.1
  · rw [if_neg e]
    have ea : a ≠ 0 := fun x => e (.inl x)
    have eb : b ≠ 0 := fun x => e (.inr x)
    have := rm_pw (lg_lt ha) (lg_lt hb)
    rwa [pw_lg ea ha, pw_lg eb hb] at this

theorem mulN_lt (a b : Nat) : mulN a b < 256 := by
  unfold mulN
  split
  · omega
  · exact pw_lt (Nat.mod_lt _ (by omega))
theorem mulN_ne {a b : Nat} (ha : a ≠ 0) (hb : b ≠ 0) : mulN a b = pw ((lg a + lg b) % 255) := by
  unfold mulN
  rw [if_neg (by omega)]
theorem mulN_zero (a : Nat) : mulN a 0 = 0 := by unfold mulN; rw [if_pos (.inr rfl)]
theorem zero_mulN (a : Nat) : mulN 0 a = 0 := by unfold mulN; rw [if_pos (.inl rfl)]
theorem mulN_nz {a b : Nat} (ha : a ≠ 0) (hb : b ≠ 0) : mulN a b ≠ 0 := by
  rw [mulN_ne ha hb]
  exact pw_pos (Nat.mod_lt _ (by omega))
theorem lg_mulN {a b : Nat} (ha : a ≠ 0) (hb : b ≠ 0) : lg (mulN a b) = (lg a + lg b) % 255 := by rw [mulN_ne ha hb, lg_pw (Nat.mod_lt _ (by omega))]
theorem mulN_comm (a b : Nat) : mulN a b = mulN b a := by
  unfold mulN
  rw [Nat.add_comm (lg a)]
  by_cases h : a = 0 ∨ b = 0
  · rw [if_pos h, if_pos h.symm]
  · rw [if_neg h, if_neg (fun e => h e.symm)]
theorem mulN_assoc (a b c : Nat) : mulN a (mulN b c) = mulN (mulN a b) c := by
  by_cases ha : a = 0
  · subst ha; rw [zero_mulN, zero_mulN, zero_mulN]
  by_cases hb : b = 0
  · subst hb; rw [zero_mulN, mulN_zero, zero_mulN]
  by_cases hc : c = 0
  · subst hc; rw [mulN_zero, mulN_zero, mulN_zero]
  rw [mulN_ne ha (mulN_nz hb hc), mulN_ne (mulN_nz ha hb) hc, lg_mulN hb hc, lg_mulN ha hb]
  congr 1
  omega
theorem mulN_one {a : Nat} (h : a < 256) : mulN a 1 = a := by
  by_cases ha : a = 0
  · subst ha; exact zero_mulN _
  rw [mulN_ne ha (by omega), lg_one, Nat.add_zero, Nat.mod_eq_of_lt (lg_lt h), pw_lg ha h]

theorem rm_xor : ∀ (k n m x b c : Nat), rm k (n ^^^ m) x (b ^^^ c) = rm k n x b ^^^ rm k m x c
  | 0, _, _, _, _, _ => rfl
  | k + 1, n, m, x, b, c => by
    unfold rm
    have e2 : (b ^^^ c) / 2 = (b / 2) ^^^ (c / 2) := Nat.xor_div_two
    have e1 : (b ^^^ c) % 2 = (b % 2) ^^^ (c % 2) := Nat.xor_mod_two_pow (n := 1)
    have e3 : n ^^^ m ^^^ x * ((b ^^^ c) % 2) = (n ^^^ x * (b % 2)) ^^^ (m ^^^ x * (c % 2)) := by
      rw [e1]
      rcases Nat.mod_two_eq_zero_or_one b with hb | hb <;> rcases Nat.mod_two_eq_zero_or_one c with hc | hc <;> rw [hb, hc]
      · simp
      · simp [Nat.xor_assoc]
      · simp [Nat.xor_assoc, Nat.xor_comm x m]
      · rw [show (1 ^^^ 1 : Nat) = 0 from rfl, Nat.mul_zero, Nat.xor_zero, Nat.mul_one]
        rw [Nat.xor_assoc n x, Nat.xor_comm x, Nat.xor_assoc m x x, Nat.xor_self, Nat.xor_zero]
    rw [e3, e2]
    exact rm_xor k _ _ _ _ _
theorem xor_lt {a b : Nat} (ha : a < 256) (hb : b < 256) : a ^^^ b < 256 := Nat.xor_lt_two_pow (n := 8) ha hb
theorem mulN_xor {a b c : Nat} (ha : a < 256) (hb : b < 256) (hc : c < 256) : mulN a (b ^^^ c) = mulN a b ^^^ mulN a c := by
  rw [← rm_mul ha hb, ← rm_mul ha hc, ← rm_mul ha (xor_lt hb hc)]
  have := rm_xor 8 0 0 a b c
  rwa [Nat.xor_self] at this

/-- A number's rest by 255. -/
def rs (n : Int) : Nat := (n % 255).toNat
theorem rs_lt (n : Int) : rs n < 255 := by unfold rs; omega
theorem rs_cast (n : Int) : ((rs n : Nat) : Int) = n % 255 := by unfold rs; omega
theorem rs_nat {n : Nat} (h : n < 255) : rs (n : Int) = n := by unfold rs; omega
theorem rs_nat' (n : Nat) : rs (n : Int) = n % 255 := by unfold rs; omega

/-- The inverse of a number that is not 0. -/
def invN (a : Nat) : Nat := pw (rs (-(lg a : Int)))
theorem invN_lt (a : Nat) : invN a < 256 := pw_lt (rs_lt _)
theorem invN_nz (a : Nat) : invN a ≠ 0 := pw_pos (rs_lt _)
theorem lg_invN (a : Nat) : lg (invN a) = rs (-(lg a : Int)) := lg_pw (rs_lt _)
theorem mul_inv {a : Nat} (h0 : a ≠ 0) : mulN a (invN a) = 1 := by
  rw [mulN_ne h0 (invN_nz a), lg_invN, ← pw_zero]
  congr 1
  have := rs_cast (-(lg a : Int))
  omega
theorem inv_inv {a : Nat} (h0 : a ≠ 0) (h : a < 256) : invN (invN a) = a := by
  have e : rs (-((rs (-(lg a : Int)) : Nat) : Int)) = lg a := by
    have h1 := rs_cast (-(lg a : Int))
    have h2 := rs_cast (-((rs (-(lg a : Int)) : Nat) : Int))
    have := lg_lt h
    omega
  unfold invN
  rw [lg_pw (rs_lt _), e, pw_lg h0 h]
theorem inv_only {a x : Nat} (h0 : a ≠ 0) (hx : x < 256) (e : mulN a x = 1) : x = invN a := by
  by_cases hx0 : x = 0
  · subst hx0; rw [mulN_zero] at e; omega
  have h1 : mulN (invN a) (mulN a x) = x := by
    rw [mulN_assoc, mulN_comm (invN a) a, mul_inv h0, mulN_comm, mulN_one hx]
  rw [e, mulN_one (invN_lt a)] at h1
  exact h1.symm
theorem div_back {a b : Nat} (hb : b ≠ 0) (ha : a < 256) : mulN (mulN a b) (invN b) = a := by rw [← mulN_assoc, mul_inv hb, mulN_one ha]

/-- The power of 2. -/
def expN (n : Int) : Nat := pw (rs n)
theorem expN_lt (n : Int) : expN n < 256 := pw_lt (rs_lt _)
theorem expN_nz (n : Int) : expN n ≠ 0 := pw_pos (rs_lt _)
theorem exp_add (n m : Int) : expN (n + m) = mulN (expN n) (expN m) := by
  rw [mulN_ne (expN_nz n) (expN_nz m)]
  unfold expN
  rw [lg_pw (rs_lt _), lg_pw (rs_lt _)]
  congr 1
  have h1 := rs_cast n
  have h2 := rs_cast m
  have h3 := rs_cast (n + m)
  omega
/-- A number's power. -/
def powN (a : Nat) (n : Int) : Nat := if n = 0 then 1 else if a = 0 then 0 else pw ((lg a * rs n) % 255)
theorem powN_zero (a : Nat) : powN a 0 = 1 := by unfold powN; rw [if_pos rfl]
theorem powN_lt (a : Nat) (n : Int) : powN a n < 256 := by
  unfold powN
  split
  · omega
  · split
    · omega
    · exact pw_lt (Nat.mod_lt _ (by omega))
theorem powN_ne {a : Nat} (h0 : a ≠ 0) (n : Int) : powN a n = pw ((lg a * rs n) % 255) := by
  unfold powN
  by_cases h : n = 0
  · subst h
    rw [if_pos rfl, show rs 0 = 0 from rfl, Nat.mul_zero, Nat.zero_mod, pw_zero]
  · rw [if_neg h, if_neg h0]
theorem pow_add {a : Nat} (h0 : a ≠ 0) (n m : Int) : powN a (n + m) = mulN (powN a n) (powN a m) := by
  rw [powN_ne h0, powN_ne h0, powN_ne h0, mulN_ne (pw_pos (Nat.mod_lt _ (by omega))) (pw_pos (Nat.mod_lt _ (by omega))), lg_pw (Nat.mod_lt _ (by omega)), lg_pw (Nat.mod_lt _ (by omega))]
  congr 1
  have h1 := rs_cast n
  have h2 := rs_cast m
  have h3 := rs_cast (n + m)
  have e : rs (n + m) = (rs n + rs m) % 255 := by omega
  rw [e, Nat.mul_mod, Nat.mod_mod, ← Nat.mul_mod, Nat.mul_add, Nat.add_mod]
theorem pow_turn {a : Nat} (h0 : a ≠ 0) (k : Nat) : powN a (255 * (k : Int)) = 1 := by
  rw [powN_ne h0, show rs (255 * (k : Int)) = 0 by unfold rs; omega, Nat.mul_zero, Nat.zero_mod, pw_zero]

/-- Products one behind the other, as the document has them. -/
def upP (a : Nat) : Nat → Nat
  | 0 => 1
  | k + 1 => mulN (upP a k) a
theorem upP_lt (a : Nat) : ∀ k, upP a k < 256
  | 0 => (by decide : 1 < 256)
  | k + 1 => mulN_lt _ _
theorem upP_pw {a : Nat} (h0 : a ≠ 0) : ∀ k, upP a k = pw ((k * lg a) % 255)
  | 0 => by rw [Nat.zero_mul, Nat.zero_mod, pw_zero]; rfl
  | k + 1 => by
    show mulN (upP a k) a = _
    rw [upP_pw h0 k, mulN_ne (pw_pos (Nat.mod_lt _ (by omega))) h0, lg_pw (Nat.mod_lt _ (by omega))]
    congr 1
    rw [Nat.succ_mul]
    omega
theorem upP_two {k : Nat} (h : k < 255) : upP 2 k = pw k := by rw [upP_pw (by omega), lg_two, Nat.mul_one, Nat.mod_eq_of_lt h]
theorem upP_pow {a : Nat} (h0 : a ≠ 0) (n : Int) : upP a (rs n) = powN a n := by rw [upP_pw h0, powN_ne h0, Nat.mul_comm]
theorem log_only {a n : Nat} (hn : n < 255) (e : pw n = a) : n = lg a := by rw [← e, lg_pw hn]
end Go.Proofs.Ytaldpfamgfchoab.Gf
