import Derived.Test.YtahfgoafiepioaaGreatDoorGaK
import Derived.Lib.AppendStr
import GoSem.Op.String
/-
  The document's answer (chapter 2): power, More, ones.
-/
namespace Go.Proofs.YtahfgoafiepioaaGreatDoor.Pk
open Go.RowKit
set_option maxRecDepth 100000

def pow2 (n : Nat) : Nat := 2 ^ n

theorem power_any (n : Nat) (m : Int) (w : World) (hm : m = (n : Int)) (hn : n ≤ 63) : Calls Tryz.prog 106 #[.int .i64 m] w fun e w' => e = .returned (.int .u64 ((pow2 n : Nat) : Int)) ∧ w' = w := by
  subst hm
  go_enter Tryz.func106, Tryz.ntmps106
  go_wp2
  go_loop [3, 4] (fun p i => ∃ j : Nat, j ≤ n ∧ i = .int .i64 j ∧ p = .int .u64 ((pow2 j : Nat) : Int)) (fun _ i => n - (intOf i).toNat)
  case atStart => exact ⟨0, Nat.zero_le _, rfl, rfl⟩
  case round =>
    obtain ⟨j, hj, rfl, rfl⟩ := hrel
    have hp : pow2 (j + 1) = pow2 j * 2 := Nat.pow_succ 2 j
    have HP := Lib.hid hp
    clear hp
    by_cases hlt : j < n
    · have hq : pow2 j ≤ 4611686018427387904 := Nat.pow_le_pow_right (by decide) (by omega : j ≤ 62)
      generalize pow2 j = q at *
      go_wp2
      go_round
      case rel => exact ⟨j + 1, by omega, by go_num, by rw [HP.out]; congr 1; omega⟩
      case measure => simp [intOf]; omega
    · obtain rfl : j = n := by omega
      go_wp2
      go_ret
      exact ⟨rfl, rfl⟩

theorem more_any (n : Nat) (w : World) : Calls Tryz.prog 98 #[.int .u64 n] w fun e w' => e = .returned (.int .i64 (kOf n : Nat)) ∧ w' = w := by
  have h8 := kOf_le n
  go_enter Tryz.func98, Tryz.ntmps98
  go_wp2
  go_loop [3] (fun i => ∃ j : Nat, j ≤ kOf n ∧ i = .int .i64 j) (fun i => 8 - (intOf i).toNat)
  case atStart => exact ⟨0, Nat.zero_le _, rfl⟩
  case round =>
    obtain ⟨j, hj, rfl⟩ := hrel
    by_cases h8j : j < 8
    · by_cases hlt : j < kOf n
      · have hge : pow2 (7 * j + 7) ≤ n := kOf_lt hlt
        go_wp2_with fail
        refine (power_any (7 * j + 7) _ _ (by omega) (by omega)).mono ?_
        rintro e w' ⟨rfl, rfl⟩
        generalize pow2 (7 * j + 7) = q at *
        go_wp2
        go_round
        case rel => exact ⟨j + 1, by omega, by go_num⟩
        case measure => simp [intOf]; omega
      · obtain rfl : kOf n = j := by omega
        have hge : n < pow2 (7 * kOf n + 7) := kOf_ge (n := n) h8j
        go_wp2_with fail
        refine (power_any (7 * kOf n + 7) _ _ (by omega) (by omega)).mono ?_
        rintro e w' ⟨rfl, rfl⟩
        generalize pow2 (7 * kOf n + 7) = q at *
        go_wp2
        go_ret
        exact ⟨rfl, rfl⟩
    · obtain rfl : j = 8 := by omega
      go_wp2
      go_ret
      exact ⟨by rw [show kOf n = 8 by omega]; rfl, rfl⟩

theorem rones_any (k : Nat) (m : Int) (w : World) (hm : m = (k : Int)) (hk : k ≤ 8) : Calls Tryz.prog 97 #[.int .i64 m] w fun e w' => e = .returned (.int .u8 (onesN k : Nat)) ∧ w' = w := by
  subst hm
  rcases eight hk with rfl | rfl | rfl | rfl | rfl | rfl | rfl | rfl | rfl
  · go_enter Tryz.func97, Tryz.ntmps97
    go_wp2_with fail
    refine (power_any 8 _ _ rfl (by decide)).mono ?_
    rintro e w' ⟨rfl, rfl⟩
    rw [show pow2 8 = 256 from rfl]
    go_wp2
    go_ret
    exact ⟨rfl, rfl⟩
  · go_enter Tryz.func97, Tryz.ntmps97
    go_wp2_with fail
    refine (power_any 7 _ _ rfl (by decide)).mono ?_
    rintro e w' ⟨rfl, rfl⟩
    rw [show pow2 7 = 128 from rfl]
    go_wp2
    go_ret
    exact ⟨rfl, rfl⟩
  · go_enter Tryz.func97, Tryz.ntmps97
    go_wp2_with fail
    refine (power_any 6 _ _ rfl (by decide)).mono ?_
    rintro e w' ⟨rfl, rfl⟩
    rw [show pow2 6 = 64 from rfl]
    go_wp2
    go_ret
    exact ⟨rfl, rfl⟩
  · go_enter Tryz.func97, Tryz.ntmps97
    go_wp2_with fail
    refine (power_any 5 _ _ rfl (by decide)).mono ?_
    rintro e w' ⟨rfl, rfl⟩
    rw [show pow2 5 = 32 from rfl]
    go_wp2
    go_ret
    exact ⟨rfl, rfl⟩
  · go_enter Tryz.func97, Tryz.ntmps97
    go_wp2_with fail
    refine (power_any 4 _ _ rfl (by decide)).mono ?_
    rintro e w' ⟨rfl, rfl⟩
    rw [show pow2 4 = 16 from rfl]
    go_wp2
    go_ret
    exact ⟨rfl, rfl⟩
  · go_enter Tryz.func97, Tryz.ntmps97
    go_wp2_with fail
    refine (power_any 3 _ _ rfl (by decide)).mono ?_
    rintro e w' ⟨rfl, rfl⟩
    rw [show pow2 3 = 8 from rfl]
    go_wp2
    go_ret
    exact ⟨rfl, rfl⟩
  · go_enter Tryz.func97, Tryz.ntmps97
    go_wp2_with fail
    refine (power_any 2 _ _ rfl (by decide)).mono ?_
    rintro e w' ⟨rfl, rfl⟩
    rw [show pow2 2 = 4 from rfl]
    go_wp2
    go_ret
    exact ⟨rfl, rfl⟩
  · go_enter Tryz.func97, Tryz.ntmps97
    go_wp2_with fail
    refine (power_any 1 _ _ rfl (by decide)).mono ?_
    rintro e w' ⟨rfl, rfl⟩
    rw [show pow2 1 = 2 from rfl]
    go_wp2
    go_ret
    exact ⟨rfl, rfl⟩
  · go_enter Tryz.func97, Tryz.ntmps97
    go_wp2_with fail
    refine (power_any 0 _ _ rfl (by decide)).mono ?_
    rintro e w' ⟨rfl, rfl⟩
    rw [show pow2 0 = 1 from rfl]
    go_wp2
    go_ret
    exact ⟨rfl, rfl⟩

end Go.Proofs.YtahfgoafiepioaaGreatDoor.Pk

/-
  The document's answer (chapter 2): what is laid: own, Bool, Print, Bytes, Text.
-/
namespace Go.Proofs.YtahfgoafiepioaaGreatDoor.Pk
open Go.RowKit
set_option maxRecDepth 100000

end Go.Proofs.YtahfgoafiepioaaGreatDoor.Pk

/-
  The document's answer (chapter 2): what is laid: own, Bool, Print, Bytes, Text.
-/
namespace Go.Proofs.YtahfgoafiepioaaGreatDoor.Pk
open Go.RowKit
set_option maxRecDepth 100000

/-- What is left of a number. -/
def quoB (n i : Nat) : Nat := n / 256 ^ i
theorem quo_succ (n i : Nat) : quoB n (i + 1) = quoB n i / 256 := by unfold quoB; rw [Nat.pow_succ, Nat.div_div_eq_div_mul]
theorem wrap64_in (n : Int) (h0 : 0 ≤ n) (h1 : n ≤ 18446744073709551615) : IntKind.u64.wrap n = n := by
  have e : IntKind.u64.wrap n = n % 18446744073709551616 := by simp [IntKind.wrap, IntKind.bits, IntKind.signed]
  rw [e]
  omega
theorem lowB_succ (n i : Nat) : lowB n (i + 1) = [UInt8.ofNat (quoB n i % 256)] ++ lowB n i := rfl

end Go.Proofs.YtahfgoafiepioaaGreatDoor.Pk

/-
  The document's answer (chapter 2): Int and Bytes.
-/
namespace Go.Proofs.YtahfgoafiepioaaGreatDoor.Pk
open Go.RowKit
set_option maxRecDepth 100000

end Go.Proofs.YtahfgoafiepioaaGreatDoor.Pk

/-
  The document's answer (chapter 2): Text.
-/
namespace Go.Proofs.YtahfgoafiepioaaGreatDoor.Pk
open Go.RowKit
set_option maxRecDepth 100000

end Go.Proofs.YtahfgoafiepioaaGreatDoor.Pk

/-
  pack's numbers as bytes: the smaller one's bytes come first.
-/
namespace Go.Proofs.YtahfgoafiepioaaGreatDoor.Pk

theorem ofNat_lt {a b : Nat} (ha : a < 256) (hb : b < 256) : (UInt8.ofNat a < UInt8.ofNat b) ↔ a < b := by
  rw [UInt8.lt_iff_toNat_lt, toNat_ofNat ha, toNat_ofNat hb]
theorem ofNat_eq {a b : Nat} (ha : a < 256) (hb : b < 256) : (UInt8.ofNat a == UInt8.ofNat b) = (a == b) := by
  by_cases h : a = b
  · subst h; simp
  · have h1 : UInt8.ofNat a ≠ UInt8.ofNat b := fun e => h (by have := congrArg UInt8.toNat e; rwa [toNat_ofNat ha, toNat_ofNat hb] at this)
    rw [beq_eq_false_iff_ne.2 h, beq_eq_false_iff_ne.2 h1]

theorem less_cons {a b : Nat} (ha : a < 256) (hb : b < 256) (x y : List UInt8) : Op.bytesLess (UInt8.ofNat a :: x) (UInt8.ofNat b :: y) = (decide (a < b) || (a == b && Op.bytesLess x y)) := by
  conv => lhs; unfold Op.bytesLess
  rw [ofNat_eq ha hb]
  congr 1
  rw [decide_eq_decide]
  exact ofNat_lt ha hb

theorem digits_lt {a b r s p : Nat} (hr : r < p) (hs : s < p) : (decide (a < b) || (a == b && decide (r < s))) = decide (p * a + r < p * b + s) := by
  rcases Nat.lt_trichotomy a b with h | h | h
  · have h2 : p * a + p ≤ p * b := by rw [← Nat.mul_succ]; exact Nat.mul_le_mul_left p h
    rw [decide_eq_true h, Bool.true_or, decide_eq_true (by omega)]
  · subst h
    rw [decide_eq_false (Nat.lt_irrefl a), beq_self_eq_true, Bool.false_or, Bool.true_and, decide_eq_decide]
    omega
  · have h2 : p * b + p ≤ p * a := by rw [← Nat.mul_succ]; exact Nat.mul_le_mul_left p h
    rw [decide_eq_false (by omega), beq_eq_false_iff_ne.2 (by omega), Bool.false_or, Bool.false_and, decide_eq_false (by omega)]

theorem low_less (n m : Nat) : ∀ k, Op.bytesLess (lowB n k) (lowB m k) = decide (n % 256 ^ k < m % 256 ^ k)
  | 0 => by simp [lowB, Op.bytesLess, Nat.mod_one]
  | k + 1 => by
    have hp : 0 < 256 ^ k := Nat.pow_pos (by decide)
    rw [lowB, lowB, less_cons (Nat.mod_lt _ (by decide)) (Nat.mod_lt _ (by decide)), low_less n m k, digits_lt (Nat.mod_lt _ hp) (Nat.mod_lt _ hp), Nat.pow_succ, Nat.mod_mul, Nat.mod_mul]
    rw [Nat.add_comm, Nat.add_comm (256 ^ k * (m / 256 ^ k % 256))]

theorem ones_step {K L q q' : Nat} (hL : L ≤ 8) (h : K < L) (hq : q < 2 ^ (7 - K)) : onesN K + q < onesN L + q' := by
  unfold onesN
  rcases eight hL with rfl | rfl | rfl | rfl | rfl | rfl | rfl | rfl | rfl <;> rcases eight (by omega : K ≤ 8) with rfl | rfl | rfl | rfl | rfl | rfl | rfl | rfl | rfl <;> simp only [Nat.reducePow, Nat.reduceSub] at * <;> omega

/-- The smaller number's bytes come first. -/
theorem spell_less {n m : Nat} (hn : n < 2 ^ 64) (hm : m < 2 ^ 64) : Op.bytesLess (spellB n) (spellB m) = decide (n < m) := by
  unfold spellB
  rw [less_cons (first_byte hn).1 (first_byte hm).1]
  rcases Nat.lt_trichotomy (kOf n) (kOf m) with h | h | h
  · have hlt : n < m := by
      rcases Nat.lt_or_ge n m with hlt | hge
      · exact hlt
      · have := kOf_mono hge; omega
    rw [decide_eq_true (ones_step (kOf_le m) h (first_lt hn).1), Bool.true_or, decide_eq_true hlt]
  · have hp : 0 < 256 ^ kOf m := Nat.pow_pos (by decide)
    rw [h, low_less]
    have e1 : decide (onesN (kOf m) + n / 256 ^ kOf m < onesN (kOf m) + m / 256 ^ kOf m) = decide (n / 256 ^ kOf m < m / 256 ^ kOf m) := by
      rw [decide_eq_decide]; omega
    have e2 : (onesN (kOf m) + n / 256 ^ kOf m == onesN (kOf m) + m / 256 ^ kOf m) = (n / 256 ^ kOf m == m / 256 ^ kOf m) := by
      by_cases h : n / 256 ^ kOf m = m / 256 ^ kOf m
      · rw [h]; simp
      · rw [beq_eq_false_iff_ne.2 h, beq_eq_false_iff_ne.2 (by omega)]
    rw [e1, e2, digits_lt (Nat.mod_lt _ hp) (Nat.mod_lt _ hp), Nat.div_add_mod, Nat.div_add_mod]
  · have hlt : m < n := by
      rcases Nat.lt_or_ge m n with hlt | hge
      · exact hlt
      · have := kOf_mono hge; omega
    have h2 := ones_step (q' := n / 256 ^ kOf n) (kOf_le n) h (first_lt hm).1
    rw [decide_eq_false (by omega), beq_eq_false_iff_ne.2 (by omega), Bool.false_or, Bool.false_and, decide_eq_false (by omega)]

theorem spell_len_mono {n m : Nat} (h : n ≤ m) : (spellB n).length ≤ (spellB m).length := by
  rw [length_spellB, length_spellB]
  have := kOf_mono h
  omega
theorem spell_len9 (n : Nat) : (spellB n).length ≤ 9 := by
  rw [length_spellB]
  have := kOf_le n
  omega

end Go.Proofs.YtahfgoafiepioaaGreatDoor.Pk

/-
  The document's answer (chapter 2): the number that bytes begin with.
-/
namespace Go.Proofs.YtahfgoafiepioaaGreatDoor.Pk
open Go.RowKit
set_option maxRecDepth 100000

/-- What the document's 'number' hands back: it, how many bytes it has, no error; or the error. -/
def RNumRet (b : List UInt8) : Except Nat (Nat × List UInt8) → Ending → Prop
  | .error c, e => e = .returned (.tuple #[.int .u64 0, .int .i64 0, .int .i64 (c : Int)])
  | .ok (n, r), e => ∃ k : Nat, k ≤ b.length ∧ r = b.drop k ∧ e = .returned (.tuple #[.int .u64 (n : Int), .int .i64 (k : Int), .int .i64 0])

theorem lead_step_table : ∀ c : Fin 256, ∀ j : Fin 8, (j.val < leadN c.val → onesN (j.val + 1) ≤ c.val) ∧ (j.val = leadN c.val → c.val < onesN (j.val + 1)) := by decide +kernel
theorem lead_step (c : UInt8) {j : Nat} (hj : j < 8) : (j < leadN c.toNat → onesN (j + 1) ≤ c.toNat) ∧ (j = leadN c.toNat → c.toNat < onesN (j + 1)) := lead_step_table ⟨c.toNat, c.toNat_lt⟩ ⟨j, hj⟩
theorem lead_ge_table : ∀ c : Fin 256, onesN (leadN c.val) ≤ c.val := by decide +kernel
theorem lead_ge (c : UInt8) : onesN (leadN c.toNat) ≤ c.toNat := lead_ge_table ⟨c.toNat, c.toNat_lt⟩

theorem more_less {N k : Nat} (hk : k ≤ 8) (h0 : 0 < k) (h : N < 2 ^ (7 * k)) : kOf N < k := by
  rcases Nat.lt_or_ge (kOf N) k with hlt | hge
  · exact hlt
  · have := kOf_lt (n := N) (j := k - 1) (by omega)
    rw [show 7 * (k - 1) + 7 = 7 * k by omega] at this
    omega
theorem more_not {N k : Nat} (hk : k ≤ 8) (h : 0 < k → 2 ^ (7 * k) ≤ N) : ¬ kOf N < k := by
  intro hlt
  have h1 := kOf_ge (n := N) (by omega)
  have h2 : 2 ^ (7 * kOf N + 7) ≤ 2 ^ (7 * k) := Nat.pow_le_pow_right (by decide) (by omega)
  have := h (by omega)
  omega

set_option maxHeartbeats 2000000 in
theorem rnum_main (c : UInt8) (r : List UInt8) (w : World) (x : Value) (hx : Slc w x (c :: r)) : Calls Tryz.prog 76 #[x] w fun e w' => RNumRet (c :: r) (numB M64 (c :: r)) e ∧ Stay (fun _ => False) w w' := by
  obtain ⟨a0, cap, rfl, hr, hn, hcap, hm⟩ := hx
  obtain ⟨ad, rfl, hcell⟩ := hr (by simp)
  have hc : w.cell? ad = some (.int .u8 (c.toNat : Int)) := hcell 0 _ rfl
  simp only [List.length_cons] at hcap hcell hn hr
  rw [List.length_cons]
  have h0 : (((r.length + 1 : Nat) : Int) == 0) = false := beq_eq_false_iff_ne.2 (by omega)
  have hl8 := leadN_le c.toNat
  have hcb := c.toNat_lt
  have hrl : (r.length : Int) ≤ 9223372036854775806 := by omega
  have HC := Lib.hid hcell
  clear hr hcell hn
  go_enter Tryz.func76, Tryz.ntmps76
  go_wp2
  go_loopw [5] (fun k wr => ∃ j : Nat, j ≤ leadN c.toNat ∧ k = .int .i64 j ∧ Stay (fun _ => False) w wr) (fun k _ => 8 - (intOf k).toNat)
  case atStart => exact ⟨0, Nat.zero_le _, rfl, Stay.refl _ _⟩
  case round =>
    obtain ⟨j, hj, rfl, hst⟩ := hrel
    have hcr := hst.cell hc (fun x => x)
    have e1 : IntKind.i64.wrap ((j : Int) + 1) = (j : Int) + 1 := IntWalk.i64_in _ (by omega)
    have hl1 : (0 : Int) < (r.length : Int) + 1 := by omega
    by_cases hlt : j < leadN c.toNat
    · have hj8 : (j : Int) < 8 := by omega
      have hge := (lead_step c (by omega : j < 8)).1 hlt
      go_wp2_with fail
      go_quiet ((go_at_call 97; exact Calls.quiet_of_same (rones_any (j + 1) _ _ (by omega) (by omega))))
      go_wp2
      go_roundw
      case rel => exact ⟨j + 1, by omega, by go_num, hst.trans (stay_drewN _ _)⟩
      case measure => simp [intOf]; omega
    · obtain rfl : leadN c.toNat = j := by omega
      have hcase : ((leadN c.toNat : Int) < 8 ∧ c.toNat < onesN (leadN c.toNat + 1)) ∨ decide ((leadN c.toNat : Int) < 8) = false := by
        by_cases h : leadN c.toNat < 8
        · exact .inl ⟨by omega, (lead_step c h).2 rfl⟩
        · exact .inr (decide_eq_false (by omega))
      have HKEY := Lib.hid (fun n => hst.trans (stay_drewN (X := fun _ => False) wr n))
      obtain ⟨h1, h2, h3⟩ := lead_first c
      have HF := Lib.hid (fun l hl => fold_small hl8 h1 h2 l hl)
      have HT := Lib.hid (fun l hl => fold_top hl8 h1 h2 l hl)
      have hlg := lead_ge c
      have e2 : IntKind.u8.wrap ((c.toNat : Int) - ((onesN (leadN c.toNat) : Nat) : Int)) = ((c.toNat - onesN (leadN c.toNat) : Nat) : Int) := by
        rw [IntWalk.u8_in _ (by omega)]
        omega
      have HE2 := Lib.hid e2
      clear hlt h1 h2 e2
      rcases hcase with ⟨hj8, hge⟩ | hd
      all_goals
        go_wp2_with fail
        first
          | go_quiet ((go_at_call 97; exact Calls.quiet_of_same (rones_any (leadN c.toNat + 1) _ _ (by omega) (by omega))))
          | go_quiet (fail)
        generalize hw2 : wr.drewN nq = w2
        have hst2 : Stay (fun _ => False) w w2 := hw2 ▸ HKEY.out nq
        have hcr2 := hst2.cell hc (fun x => x)
        have HKEY2 := Lib.hid (fun n => hst2.trans (stay_drewN (X := fun _ => False) w2 n))
        clear hw2 hst hcr HKEY
        by_cases hk : r.length < leadN c.toNat
        · have hnum : numB M64 (c :: r) = .error 12 := by
            unfold numB
            simp only []
            rw [if_pos hk]
          have HN := Lib.hid hnum
          clear hnum
          go_wp2
          go_ret3
          exact ⟨by rw [HN.out]; rfl, hst2⟩
        · go_wp2_with fail
          have e2 := HE2.out
          go_quiet ((go_at_call 97; exact Calls.quiet_of_same (rones_any (leadN c.toNat) _ _ rfl hl8)))
          clear e2
          generalize hw3 : w2.drewN nq = w3
          have hst3 : Stay (fun _ => False) w w3 := hw3 ▸ HKEY2.out nq
          clear hw3 hst2 hcr2 HKEY2
          go_wp2
          go_loop [6, 7] (fun n i => ∃ j : Nat, j ≤ leadN c.toNat ∧ i = .int .i64 ((j + 1 : Nat) : Int) ∧ n = .int .u64 ((foldB (c.toNat - onesN (leadN c.toNat)) (r.take j) : Nat) : Int)) (fun _ i => leadN c.toNat + 1 - (intOf i).toNat)
          case atStart => exact ⟨0, Nat.zero_le _, rfl, rfl⟩
          case round =>
            obtain ⟨j, hj, rfl, rfl⟩ := hrel
            by_cases hlt : j < leadN c.toNat
            · obtain ⟨b, hb⟩ : ∃ b, r[j]? = some b := ⟨_, List.getElem?_eq_getElem (by omega)⟩
              have hcj := hst3.cell (HC.out (j + 1) (byteV b) (by simp [cellsB, hb])) (fun x => x)
              unfold byteV at hcj
              have hcj2 := hcj
              unfold Addr.add at hcj2
              rw [if_neg (by omega)] at hcj2
              have HS := Lib.hid (show foldB (c.toNat - onesN (leadN c.toNat)) (r.take (j + 1)) = foldB (c.toNat - onesN (leadN c.toNat)) (r.take j) * 256 + b.toNat by rw [List.take_add_one, hb]; exact foldB_snoc _ _ _)
              have hsm := HF.out (r.take j) (by rw [List.length_take]; omega)
              have hbb := b.toNat_lt
              clear hb
              generalize foldB (c.toNat - onesN (leadN c.toNat)) (r.take j) = F at *
              go_wp2
              go_round
              case rel => exact ⟨j + 1, by omega, by go_num, by rw [HS.out]; congr 1; omega⟩
              case measure => simp [intOf]; omega
            · obtain rfl : leadN c.toNat = j := by omega
              obtain ⟨N, hN⟩ : ∃ N, N = foldB (c.toNat - onesN (leadN c.toNat)) (r.take (leadN c.toNat)) := ⟨_, rfl⟩
              have hNt : N < 18446744073709551616 := by rw [hN]; exact HT.out _ (by rw [List.length_take]; omega)
              have HN := Lib.hid hN
              rw [← hN]
              have hk8 := kOf_le N
              clear hN hlt
              by_cases hform : 0 < leadN c.toNat ∧ N < 2 ^ (7 * leadN c.toNat)
              · have hnum := Lib.hid (numB_form (most := M64) (Nat.le_of_not_lt hk) hform.1 HN.out hform.2)
                have hm := more_less hl8 hform.1 hform.2
                clear hform
                go_wp2_with fail
                refine (more_any N w3).mono ?_
                rintro e w4 ⟨rfl, rfl⟩
                go_wp2
                go_ret3
                exact ⟨by rw [hnum.out]; rfl, hst3⟩
              · have hge : 0 < leadN c.toNat → 2 ^ (7 * leadN c.toNat) ≤ N := fun h => Nat.le_of_not_lt (fun h' => hform ⟨h, h'⟩)
                have hnum := Lib.hid (numB_ok (most := M64) (Nat.le_of_not_lt hk) HN.out hge (by unfold M64; omega))
                have hm := more_not hl8 hge
                clear hform hge
                go_wp2_with fail
                refine (more_any N w3).mono ?_
                rintro e w4 ⟨rfl, rfl⟩
                go_wp2
                go_ret3
                refine ⟨?_, hst3⟩
                rw [hnum.out]
                exact ⟨leadN c.toNat + 1, by simp; omega, rfl, rfl⟩

theorem rnum_any (b : List UInt8) (w : World) (x : Value) (hx : Slc w x b) : Calls Tryz.prog 76 #[x] w fun e w' => RNumRet b (numB M64 b) e ∧ Stay (fun _ => False) w w' := by
  cases b with
  | nil =>
    obtain ⟨a0, c, rfl, _⟩ := hx
    go_enter Tryz.func76, Tryz.ntmps76
    go_wp2
    go_ret3
    exact ⟨rfl, Stay.refl _ _⟩
  | cons c r => exact rnum_main c r w x hx

end Go.Proofs.YtahfgoafiepioaaGreatDoor.Pk

/-
  The document's answer (chapter 2): a reader's Uint, Int, and what it says at its end.
-/
namespace Go.Proofs.YtahfgoafiepioaaGreatDoor.Pk
open Go.RowKit
set_option maxRecDepth 100000

/-- The document's reader: what is left, the first error. -/
def rdV (x : Value) (err : Nat) : Value := .agg #[x, .int .i64 (err : Int)]

theorem fail_new (a0 : Option Addr) (n c e : Nat) (m : Int) (w : World) (hm : m = (e : Int)) : Calls Tryz.prog 77 #[.agg #[.slice a0 n c, .int .i64 0], .int .i64 m] w fun en w' => en = .returned (rdV (.slice a0 n c) e) ∧ Stay (fun _ => False) w w' := by
  subst hm
  go_enter Tryz.func77, Tryz.ntmps77
  go_wp2
  exact bodyPost_ret (v := rdV (.slice a0 n c) e) (by simp [results, Tryz.results77, go_sem]; rfl) rfl ⟨rfl, (Stay.alloc _ _).trans (Stay.alloc _ _)⟩

theorem fail_old (a0 : Option Addr) (n c e : Nat) (m : Int) (w : World) (he : e ≠ 0) : Calls Tryz.prog 77 #[.agg #[.slice a0 n c, .int .i64 (e : Int)], .int .i64 m] w fun en w' => en = .returned (rdV (.slice a0 n c) e) ∧ Stay (fun _ => False) w w' := by
  have hb : ((e : Int) == 0) = false := beq_eq_false_iff_ne.2 (by omega)
  go_enter Tryz.func77, Tryz.ntmps77
  go_wp2
  exact bodyPost_ret (v := rdV (.slice a0 n c) e) (by simp [results, Tryz.results77, go_sem]; rfl) rfl ⟨rfl, (Stay.alloc _ _).trans (Stay.alloc _ _)⟩

theorem numB_error_of {most c : Nat} {b : List UInt8} (hm : most ≤ M64) (h : numB M64 b = .error c) : numB most b = .error c := by
  cases b with
  | nil => exact h
  | cons d l =>
    unfold numB at *
    simp only [] at *
    split
    · rename_i h1
      rw [if_pos h1] at h
      exact h
    · rename_i h1
      rw [if_neg h1] at h
      split
      · rename_i h2
        rw [if_pos h2] at h
        exact h
      · rename_i h2
        rw [if_neg h2] at h
        split at h
        · rw [if_pos (by omega)]
          exact h
        · cases h
theorem numB_ok_of {most n : Nat} {b r : List UInt8} (h : numB M64 b = .ok (n, r)) : numB most b = if most < n then .error 4 else .ok (n, r) := by
  cases b with
  | nil => cases h
  | cons d l =>
    unfold numB at *
    simp only [] at *
    split
    · rename_i h1
      rw [if_pos h1] at h
      cases h
    · rename_i h1
      rw [if_neg h1] at h
      split
      · rename_i h2
        rw [if_pos h2] at h
        cases h
      · rename_i h2
        rw [if_neg h2] at h
        split at h
        · cases h
        · cases h
          rfl

/-- What the document's reader hands back with a thing. -/
def RdRet {α : Type} (val : α → Value) (w : World) (x : Value) (t : α × RS) (e : Ending) : Prop := ∃ x', e = .returned (.tuple #[rdV x' t.2.err, val t.1]) ∧ Sub w x x' t.2.b

theorem Sub.refl {w : World} {x : Value} {b : List UInt8} (h : Slc w x b) : Sub w x x b := ⟨h, fun _ e => e⟩

theorem two_cells {w : World} {b : Nat} {v0 v1 : Value} {t : TypeId} (h : w.heap[b]? = some (.cells #[v0, v1] t (0, 0))) : w.cell? ⟨b, 0, none⟩ = some v0 ∧ w.cell? ⟨b, 1, none⟩ = some v1 ∧ w.frozen? ⟨b, 0, none⟩ = false ∧ w.frozen? ⟨b, 1, none⟩ = false :=
  ⟨by rw [cell_of_row w b 0 _ _ _ h]; rfl, by rw [cell_of_row w b 1 _ _ _ h]; rfl, frozen_of_row w b 0 _ _ h, frozen_of_row w b 1 _ _ h⟩
theorem two_boxes {w w1 : World} {A B : Obj} (hs : Stay (fun _ => False) ((w.alloc A).alloc B) w1) : w1.heap[w.heap.size]? = some A ∧ w1.heap[w.heap.size + 1]? = some B := by
  have h1 : ((w.alloc A).alloc B).heap[w.heap.size]? = some A := (Below.heap_alloc (w.alloc A) B w.heap.size (by simp)).trans (heap_alloc_new w A)
  have h2 : ((w.alloc A).alloc B).heap[w.heap.size + 1]? = some B := by
    have := heap_alloc_new (w.alloc A) B
    simpa using this
  exact ⟨(hs.block _ (by simp; omega) (fun x => x)).trans h1, (hs.block _ (by simp) (fun x => x)).trans h2⟩

theorem stay_set2 {w w2 : World} {B : Nat} (h : Stay (fun _ => False) w w2) (hB : w.heap.size ≤ B) (u v : Value) : Stay (fun _ => False) w ((w2.setCell ⟨B, 0, none⟩ u).setCell ⟨B, 1, none⟩ v) :=
  stay_seal (X := fun k => w.heap.size ≤ k) (((h.mono (fun _ x => x.elim)).trans (Stay.setCell _ _ _ hB)).trans (Stay.setCell _ _ _ hB)) (fun _ hk => hk)
theorem stay_set3 {w w2 : World} {A B : Nat} (h : Stay (fun _ => False) w w2) (hA : w.heap.size ≤ A) (hB : w.heap.size ≤ B) (t u v : Value) : Stay (fun _ => False) w (((w2.setCell ⟨A, 0, none⟩ t).setCell ⟨B, 0, none⟩ u).setCell ⟨B, 1, none⟩ v) :=
  stay_seal (X := fun k => w.heap.size ≤ k) ((((h.mono (fun _ x => x.elim)).trans (Stay.setCell _ _ _ hA)).trans (Stay.setCell _ _ _ hB)).trans (Stay.setCell _ _ _ hB)) (fun _ hk => hk)

set_option maxHeartbeats 2000000 in
theorem rruint_any (b : List UInt8) (err : Nat) (most : Nat) (w : World) (x : Value) (hx : Slc w x b) (hm : most ≤ M64) : Calls Tryz.prog 33 #[rdV x err, .int .u64 most] w fun e w' => RdRet u64V w' x (takeB (numB most) 0 ⟨b, err⟩) e ∧ Stay (fun _ => False) w w' := by
  have HX := Lib.hid hx
  obtain ⟨a0, cap, rfl, hr, hn, hcap, hcm⟩ := hx
  unfold rdV
  by_cases he : err = 0
  · subst he
    obtain ⟨TK, htk⟩ : ∃ TK, TK = takeB (numB most) 0 ⟨b, 0⟩ := ⟨_, rfl⟩
    rw [← htk]
    have HT := Lib.hid htk
    have HR := Lib.hid hr
    clear htk hr hn
    go_enter Tryz.func33, Tryz.ntmps33
    go_wp2_with fail
    refine (rnum_any b _ _ (HX.out.stay0 ((Stay.alloc _ _).trans (Stay.alloc _ _)))).mono ?_
    rintro e w1 ⟨hret, hs1⟩
    obtain ⟨hb0, hb1⟩ := two_boxes hs1
    obtain ⟨c00, c01, f00, f01⟩ := two_cells hb0
    obtain ⟨c10, c11, f10, f11⟩ := two_cells hb1
    have hst : Stay (fun _ => False) w w1 := ((Stay.alloc _ _).trans (Stay.alloc _ _)).trans hs1
    have HB1 := Lib.hid hb1
    clear hb0 hb1 hs1
    cases hnr : numB M64 b with
    | error c =>
      rw [hnr] at hret
      obtain rfl := hret
      have hc0 := numB_err hnr
      have hcb : ((c : Int) == 0) = false := beq_eq_false_iff_ne.2 (by omega)
      have HTK := Lib.hid (HT.out.trans (takeB_error (zero := 0) (s := ⟨b, 0⟩) rfl (numB_error_of hm hnr)))
      clear hnr hc0
      go_wp2_with fail
      refine (fail_new _ _ _ c _ _ rfl).mono ?_
      rintro e w2 ⟨rfl, hs2⟩
      have hst2 := hst.trans hs2
      obtain ⟨d10, d11, g10, g11⟩ := two_cells ((hs2.block _ (lt_of_block HB1.out) (fun x => x)).trans HB1.out)
      clear c00 c01 f00 f01 c10 c11 f10 f11 hst hs2
      unfold rdV
      go_wp2
      have hfin := stay_set2 (B := w.heap.size + 1) hst2 (by omega) (.slice a0 b.length cap) (.int .i64 (c : Int))
      refine bodyPost_ret (v := .tuple #[rdV (.slice a0 b.length cap) c, .int .u64 0]) (by simp [results, Tryz.results33, go_sem, d10, d11]; rfl) rfl ⟨?_, hfin⟩
      rw [HTK.out]
      exact ⟨_, rfl, Sub.stay0 (Sub.refl HX.out) hfin⟩
    | ok p =>
      obtain ⟨n, r⟩ := p
      rw [hnr] at hret
      obtain ⟨k, hk, hrk, rfl⟩ := hret
      subst hrk
      have hnm := numB_ok_of (most := most) hnr
      have hnl := numB_le hnr
      unfold M64 at hnl
      by_cases hlt : most < n
      · rw [if_pos hlt] at hnm
        have HTK := Lib.hid (HT.out.trans (takeB_error (zero := 0) (s := ⟨b, 0⟩) rfl hnm))
        clear hnr hnm
        go_wp2_with fail
        refine (fail_new _ _ _ 4 _ _ rfl).mono ?_
        rintro e w2 ⟨rfl, hs2⟩
        have hst2 := hst.trans hs2
        obtain ⟨d10, d11, g10, g11⟩ := two_cells ((hs2.block _ (lt_of_block HB1.out) (fun x => x)).trans HB1.out)
        clear c00 c01 f00 f01 c10 c11 f10 f11 hst hs2
        unfold rdV
        go_wp2
        have hfin := stay_set2 (B := w.heap.size + 1) hst2 (by omega) (.slice a0 b.length cap) (.int .i64 (4 : Int))
        refine bodyPost_ret (v := .tuple #[rdV (.slice a0 b.length cap) 4, .int .u64 0]) (by simp [results, Tryz.results33, go_sem, d10, d11]; rfl) rfl ⟨?_, hfin⟩
        rw [HTK.out]
        exact ⟨_, rfl, Sub.stay0 (Sub.refl HX.out) hfin⟩
      · rw [if_neg hlt] at hnm
        have HTK := Lib.hid (HT.out.trans (takeB_ok (zero := 0) (s := ⟨b, 0⟩) rfl hnm))
        have HSub := Lib.hid (HX.out.cut hk)
        have hcases : cap = k ∨ ¬ cap = k := by omega
        clear hnr hnm hcap
        rcases hcases with hck | hck
        · subst hck
          go_wp2
          have hfin := stay_set3 (A := w.heap.size) (B := w.heap.size + 1) hst (by omega) (by omega) (.slice a0 (b.length - cap) 0) (.slice a0 (b.length - cap) 0) (.int .i64 (0 : Int))
          refine bodyPost_ret (v := .tuple #[rdV (.slice a0 (b.length - cap) 0) 0, .int .u64 (n : Int)]) (by simp [results, Tryz.results33, go_sem, c10, c11]; rfl) rfl ⟨?_, hfin⟩
          rw [HTK.out]
          refine ⟨_, rfl, Sub.stay0 (w := w) ?_ hfin⟩
          have hs := HSub.out
          rw [if_pos trivial, Nat.sub_self] at hs
          exact hs
        · go_wp2
          have hfin := stay_set3 (A := w.heap.size) (B := w.heap.size + 1) hst (by omega) (by omega) (.slice (a0.map (fun x => x.add k)) (b.length - k) (cap - k)) (.slice (a0.map (fun x => x.add k)) (b.length - k) (cap - k)) (.int .i64 (0 : Int))
          refine bodyPost_ret (v := .tuple #[rdV (.slice (a0.map (fun x => x.add k)) (b.length - k) (cap - k)) 0, .int .u64 (n : Int)]) (by simp [results, Tryz.results33, go_sem, c10, c11]; rfl) rfl ⟨?_, hfin⟩
          rw [HTK.out]
          refine ⟨_, rfl, Sub.stay0 (w := w) ?_ hfin⟩
          have hs := HSub.out
          rw [if_neg hck] at hs
          exact hs
  · have hb : ((err : Int) == 0) = false := beq_eq_false_iff_ne.2 (by omega)
    rw [takeB_bad he]
    go_enter Tryz.func33, Tryz.ntmps33
    go_wp2
    refine bodyPost_ret (v := .tuple #[rdV (.slice a0 b.length cap) err, .int .u64 0]) (by simp [results, Tryz.results33, go_sem]; rfl) rfl ⟨⟨_, rfl, Sub.stay0 (Sub.refl HX.out) ((Stay.alloc _ _).trans (Stay.alloc _ _))⟩, (Stay.alloc _ _).trans (Stay.alloc _ _)⟩

end Go.Proofs.YtahfgoafiepioaaGreatDoor.Pk

/-
  The document's answer (chapter 2): a reader's Int; what it says at its end.
-/
namespace Go.Proofs.YtahfgoafiepioaaGreatDoor.Pk
open Go.RowKit
set_option maxRecDepth 100000

theorem sigB_cons (c : UInt8) (r : List UInt8) (h : ¬ 1 < c.toNat) : sigB (c :: r) = match numB M63 r with
    | .error e => .error e
    | .ok (n, r2) => .ok (if (c.toNat == 1) = true then -1 - (n : Int) else (n : Int), r2) := by
  unfold sigB
  have : truB (c :: r) = .ok (c.toNat == 1, r) := by simp [truB, h]
  rw [this]
  simp only []
  cases numB M63 r <;> rfl
theorem Slc.ad_lt {w : World} {ad : Addr} {n cap : Nat} {c : UInt8} {r : List UInt8} (h : Slc w (.slice (some ad) n cap) (c :: r)) : w.cell? ad = some (.int .u8 (c.toNat : Int)) ∧ ad.block < w.heap.size := by
  obtain ⟨a0, c0, e, hr, _⟩ := h
  cases e
  obtain ⟨ad', e, hc⟩ := hr (by simp)
  cases e
  have h0 : w.cell? ad = some (.int .u8 (c.toNat : Int)) := hc 0 _ rfl
  exact ⟨h0, World.block_lt_of_cell? w ad h0⟩

theorem rruint_at (b : List UInt8) (err most : Nat) (m : Int) (w : World) (x v : Value) (hm' : m = (most : Int)) (hv : v = rdV x err) (hx : Slc w x b) (hm : most ≤ M64) : Calls Tryz.prog 33 #[v, .int .u64 m] w fun e w' => RdRet u64V w' x (takeB (numB most) 0 ⟨b, err⟩) e ∧ Stay (fun _ => False) w w' := by
  subst hm'
  subst hv
  exact rruint_any b err most w x hx hm

theorem Sub.stayB {B : Nat} {w w' : World} {x v : Value} {r : List UInt8} (h : Sub w x v r) (hx : ∀ k, x.ownBlock = some k → k < B) (hs : Stay (fun k => B ≤ k) w w') : Sub w' x v r :=
  ⟨h.1.stay hs (fun k e _ hB => by have h1 := hx k (h.2 k e); omega), h.2⟩
theorem stayB_set2 {B C : Nat} (w : World) (hB : B ≤ C) (u v : Value) (o : Obj) : Stay (fun k => B ≤ k) w (((w.setCell ⟨C, 0, none⟩ u).setCell ⟨C, 1, none⟩ v).alloc o) :=
  ((Stay.setCell _ _ _ hB).trans (Stay.setCell _ _ _ hB)).trans (Stay.alloc _ _)

theorem i64_neg (n : Nat) (h : n ≤ 9223372036854775807) : IntKind.i64.wrap (-(n : Int)) = -(n : Int) := IntWalk.i64_in _ (by omega)

theorem rdone_ref (b : List UInt8) (err : Nat) (w : World) (x : Value) (hx : Slc w x b) : Calls Tryz.prog 37 #[rdV x err] w fun e w' => e = .returned (.int .i64 (doneB ⟨b, err⟩ : Nat)) ∧ Stay (fun _ => False) w w' := by
  obtain ⟨a0, cap, rfl, _, _, hcap, hcm⟩ := hx
  have hlen : (b.length : Int) ≤ 9223372036854775807 := by omega
  unfold rdV
  by_cases he : err = 0
  · subst he
    by_cases hb : 0 < b.length
    · have hd : doneB ⟨b, 0⟩ = 3 := by simp [doneB]; exact List.length_pos_iff.1 hb
      rw [hd]
      clear hd
      go_enter Tryz.func37, Tryz.ntmps37
      go_wp2
      go_ret
      exact ⟨rfl, Stay.alloc _ _⟩
    · have hb0 : b.length = 0 := by omega
      have hd : doneB ⟨b, 0⟩ = 0 := by
        unfold doneB
        rw [if_neg (fun h => h rfl), if_neg hb]
      rw [hd, hb0]
      clear hd hb0 hb hlen hcap
      go_enter Tryz.func37, Tryz.ntmps37
      go_wp2
      go_ret
      exact ⟨rfl, Stay.alloc _ _⟩
  · have hd : doneB ⟨b, err⟩ = err := by simp [doneB, he]
    have hb : ((err : Int) == 0) = false := beq_eq_false_iff_ne.2 (by omega)
    rw [hd]
    clear hd he
    go_enter Tryz.func37, Tryz.ntmps37
    go_wp2
    go_ret
    exact ⟨rfl, Stay.alloc _ _⟩

end Go.Proofs.YtahfgoafiepioaaGreatDoor.Pk

/-
  The document's answer (chapter 2): a reader's Bool and Count.
-/
namespace Go.Proofs.YtahfgoafiepioaaGreatDoor.Pk
open Go.RowKit
set_option maxRecDepth 100000

set_option maxHeartbeats 2000000 in
theorem rrbool_any (b : List UInt8) (err : Nat) (w : World) (x : Value) (hx : Slc w x b) : Calls Tryz.prog 80 #[rdV x err] w fun e w' => RdRet boolV w' x (takeB truB false ⟨b, err⟩) e ∧ Stay (fun _ => False) w w' := by
  have HX := Lib.hid hx
  unfold rdV
  by_cases he : err = 0
  · subst he
    cases b with
    | nil =>
      obtain ⟨a0, cap, rfl, hr, hn, hcap, hcm⟩ := hx
      rw [takeB_error (s := ⟨[], 0⟩) (c := 12) rfl rfl]
      clear hr hn
      go_enter Tryz.func80, Tryz.ntmps80
      go_wp2_with fail
      refine (fail_new _ _ _ 12 _ _ rfl).mono ?_
      rintro e w2 ⟨rfl, hs2⟩
      obtain ⟨hb0, hb1⟩ := two_boxes hs2
      obtain ⟨d10, d11, g10, g11⟩ := two_cells hb1
      have hst2 : Stay (fun _ => False) w w2 := ((Stay.alloc _ _).trans (Stay.alloc _ _)).trans hs2
      clear hs2 hb0 hb1
      unfold rdV
      go_wp2
      have hfin := stay_set2 (B := w.heap.size + 1) hst2 (by omega) (.slice a0 0 cap) (.int .i64 (12 : Int))
      refine bodyPost_ret (v := .tuple #[rdV (.slice a0 0 cap) 12, .bool false]) (by simp [results, Tryz.results80, go_sem, d10, d11]; rfl) rfl ⟨⟨_, rfl, Sub.stay0 (Sub.refl HX.out) hfin⟩, hfin⟩
    | cons c r =>
      obtain ⟨a0, cap, rfl, hr, hn, hcap, hcm⟩ := hx
      obtain ⟨ad, rfl, hcell⟩ := hr (by simp)
      have hc : w.cell? ad = some (.int .u8 (c.toNat : Int)) := hcell 0 _ rfl
      have hadl := World.block_lt_of_cell? w ad hc
      have hcb := c.toNat_lt
      have hcut := Slc.cut (k := 1) HX.out (by simp)
      rw [List.drop_succ_cons, List.drop_zero] at hcut
      rw [List.length_cons] at *
      have hl0 : (((r.length + 1 : Nat) : Int) == 0) = false := beq_eq_false_iff_ne.2 (by omega)
      have hl1 : (0 : Int) < ((r.length + 1 : Nat) : Int) := by omega
      have hrl : (r.length : Int) ≤ 9223372036854775806 := by omega
      have hcw : ((w.alloc (.cells #[.slice (some ad) (r.length + 1) cap, .int .i64 0] 84)).alloc (.cells #[.slice none 0 0, .int .i64 0] 84)).cell? ad = some (.int .u8 (c.toNat : Int)) := by
        rw [World.cell?_alloc_lt _ _ ad (by simp; omega), World.cell?_alloc_lt _ _ ad hadl]
        exact hc
      clear hr hn hcell hc
      have HCU := Lib.hid hcut
      clear hcut
      by_cases h1 : 1 < c.toNat
      · have ht : truB (c :: r) = .error 3 := by simp [truB, h1]
        rw [takeB_error (s := ⟨c :: r, 0⟩) (c := 3) rfl ht]
        clear ht
        go_enter Tryz.func80, Tryz.ntmps80
        go_wp2_with fail
        refine (fail_new _ _ _ 3 _ _ rfl).mono ?_
        rintro e w2 ⟨rfl, hs2⟩
        obtain ⟨hb0, hb1⟩ := two_boxes hs2
        obtain ⟨d10, d11, g10, g11⟩ := two_cells hb1
        have hst2 : Stay (fun _ => False) w w2 := ((Stay.alloc _ _).trans (Stay.alloc _ _)).trans hs2
        clear hs2 hb0 hb1
        unfold rdV
        go_wp2
        have hfin := stay_set2 (B := w.heap.size + 1) hst2 (by omega) (.slice (some ad) (r.length + 1) cap) (.int .i64 (3 : Int))
        refine bodyPost_ret (v := .tuple #[rdV (.slice (some ad) (r.length + 1) cap) 3, .bool false]) (by simp [results, Tryz.results80, go_sem, d10, d11]; rfl) rfl ⟨⟨_, rfl, Sub.stay0 (Sub.refl HX.out) hfin⟩, hfin⟩
      · have ht : truB (c :: r) = .ok (c.toNat == 1, r) := by simp [truB, h1]
        rw [takeB_ok (s := ⟨c :: r, 0⟩) rfl ht]
        clear ht
        have hcut := HCU.out
        rw [Option.map_some, Nat.add_sub_cancel] at hcut
        have hq : ((c.toNat : Int) == 1) = (c.toNat == 1) := by
          by_cases h : c.toNat = 1
          · rw [h]; rfl
          · rw [beq_eq_false_iff_ne.2 h, beq_eq_false_iff_ne.2 (by omega)]
        generalize (c.toNat == 1) = q at hq ⊢
        have hcases : cap = 1 ∨ ¬ cap = 1 := by omega
        rcases hcases with hck | hck
        · subst hck
          have hr0 : r.length = 0 := by omega
          rw [if_pos rfl, Nat.sub_self, show Value.slice (some ad) r.length 0 = .slice (some ad) 0 0 by rw [hr0]] at hcut
          clear hr0
          have HCUT := Lib.hid hcut
          clear hcut
          go_enter Tryz.func80, Tryz.ntmps80
          go_wp2
          refine bodyPost_ret (v := .tuple #[rdV (.slice (some ad) 0 0) 0, .bool q]) (by simp [results, Tryz.results80, go_sem]; rfl) rfl ⟨⟨_, rfl, Sub.stay0 HCUT.out ((Stay.alloc _ _).trans (Stay.alloc _ _))⟩, (Stay.alloc _ _).trans (Stay.alloc _ _)⟩
        · rw [if_neg hck] at hcut
          have HCUT := Lib.hid hcut
          clear hcut
          go_enter Tryz.func80, Tryz.ntmps80
          go_wp2
          refine bodyPost_ret (v := .tuple #[rdV (.slice (some (ad.add 1)) r.length (cap - 1)) 0, .bool q]) (by simp [results, Tryz.results80, go_sem]; rfl) rfl ⟨⟨_, rfl, Sub.stay0 HCUT.out ((Stay.alloc _ _).trans (Stay.alloc _ _))⟩, (Stay.alloc _ _).trans (Stay.alloc _ _)⟩
  · have hb : ((err : Int) == 0) = false := beq_eq_false_iff_ne.2 (by omega)
    rw [takeB_bad he]
    obtain ⟨a0, cap, rfl, hr, hn, hcap, hcm⟩ := hx
    clear hr hn
    go_enter Tryz.func80, Tryz.ntmps80
    go_wp2
    refine bodyPost_ret (v := .tuple #[rdV (.slice a0 b.length cap) err, .bool false]) (by simp [results, Tryz.results80, go_sem]; rfl) rfl ⟨⟨_, rfl, Sub.stay0 (Sub.refl HX.out) ((Stay.alloc _ _).trans (Stay.alloc _ _))⟩, (Stay.alloc _ _).trans (Stay.alloc _ _)⟩

end Go.Proofs.YtahfgoafiepioaaGreatDoor.Pk

/-
  The document's answer (chapter 2): a reader's Count.
-/
namespace Go.Proofs.YtahfgoafiepioaaGreatDoor.Pk
open Go.RowKit
set_option maxRecDepth 100000

theorem takeB_zero_err {α : Type} {rule : List UInt8 → Except Nat (α × List UInt8)} {zero : α} {b : List UInt8} {c : Nat} (hr : rule b = .error c) : takeB rule zero ⟨b, 0⟩ = (zero, ⟨b, c⟩) := takeB_error (s := ⟨b, 0⟩) rfl hr

theorem numB_pos {most n : Nat} {b r : List UInt8} (h : numB most b = .ok (n, r)) : 0 < b.length := by
  cases b with
  | nil => cases h
  | cons c l => exact Nat.zero_lt_succ _

set_option maxHeartbeats 4000000 in
theorem rrcount_any (b : List UInt8) (err : Nat) (most : Int) (w : World) (x : Value) (hx : Slc w x b) (hmost : most ≤ 9223372036854775807) : Calls Tryz.prog 34 #[rdV x err, .int .i64 most] w fun e w' => RdRet i64V w' x (takeB (cntB most) 0 ⟨b, err⟩) e ∧ Stay (fun _ => False) w w' := by
  have HX := Lib.hid hx
  have hmM : most.toNat ≤ M64 := by unfold M64; omega
  have HM := Lib.hid hmM
  clear hmM
  obtain ⟨TK, htk⟩ : ∃ TK, TK = takeB (cntB most) 0 ⟨b, err⟩ := ⟨_, rfl⟩
  rw [← htk]
  have HT := Lib.hid htk
  clear htk
  obtain ⟨a0, cap, rfl, hr, hn, hcap, hcm⟩ := hx
  have hlen : (b.length : Int) ≤ 9223372036854775807 := by omega
  clear hr hn
  unfold rdV
  have hcs : most < 0 ∨ ¬ most < 0 := by omega
  rcases hcs with hneg | hneg
  all_goals
    go_enter Tryz.func34, Tryz.ntmps34
    go_wp2_with fail
    refine (rruint_at b err most.toNat _ _ _ _ (by first | omega | (simp; omega) | (simp [IntKind.wrap]; omega)) rfl (HX.out.stay0 ((Stay.alloc _ _).trans (Stay.alloc _ _))) HM.out).mono ?_
    rintro e w1 ⟨hret, hs1⟩
    obtain ⟨hb0, hb1⟩ := two_boxes hs1
    obtain ⟨c00, c01, f00, f01⟩ := two_cells hb0
    have hlt0 := lt_of_block hb0
    have hlt1 := lt_of_block hb1
    have hst : Stay (fun _ => False) w w1 := ((Stay.alloc _ _).trans (Stay.alloc _ _)).trans hs1
    have HB1 := Lib.hid hb1
    have HB0 := Lib.hid hb0
    clear hb0 hb1 hs1
    by_cases he : err = 0
    · subst he
      cases hnr : numB most.toNat b with
      | error c =>
        rw [takeB_error (s := ⟨b, 0⟩) rfl hnr] at hret
        obtain ⟨x2, rfl, hsub⟩ := hret
        obtain ⟨a2, c2, rfl, _⟩ := id hsub.1
        have hc0 := numB_err hnr
        have hcb' : ((c : Int) == 0) = false := beq_eq_false_iff_ne.2 (by omega)
        have HTK := Lib.hid (HT.out.trans (takeB_zero_err (zero := (0 : Int)) (cntB_error hnr)))
        clear hnr hc0 hsub
        unfold rdV u64V
        go_wp2_with fail
        refine (fail_new _ _ _ c _ _ rfl).mono ?_
        rintro e w2 ⟨rfl, hs2⟩
        have hst2 : Stay (fun _ => False) w w2 := (hst.trans (Stay.alloc _ _)).trans hs2
        obtain ⟨d10, d11, g10, g11⟩ := two_cells ((hs2.block (w.heap.size + 1) (by simp; omega) (fun x => x)).trans ((Below.heap_alloc _ _ _ hlt1).trans HB1.out))
        clear c00 c01 f00 f01 hst hs2
        unfold rdV
        go_wp2
        have hfin := stay_set2 (B := w.heap.size + 1) hst2 (by omega) (.slice a0 b.length cap) (.int .i64 (c : Int))
        refine bodyPost_ret (v := .tuple #[rdV (.slice a0 b.length cap) c, .int .i64 0]) (by simp [results, Tryz.results34, go_sem, d10, d11]; rfl) rfl ⟨?_, hfin⟩
        rw [HTK.out]
        exact ⟨_, rfl, Sub.stay0 (Sub.refl HX.out) hfin⟩
      | ok p =>
        obtain ⟨n, r⟩ := p
        have hrl := numB_len hnr
        have hle := numB_le hnr
        rw [takeB_ok (s := ⟨b, 0⟩) rfl hnr] at hret
        obtain ⟨x2, rfl, hsub⟩ := hret
        obtain ⟨a2, c2, rfl, _⟩ := id hsub.1
        have hwl : IntKind.u64.wrap (r.length : Int) = (r.length : Int) := IntWalk.u64_in _ (by omega)
        have HN := Lib.hid hnr
        have HSub := Lib.hid hsub
        have HBL := Lib.hid (HX.out.blk_lt (numB_pos hnr))
        clear hnr hsub
        by_cases h1 : r.length < n
        · have hnn : ¬ most < 0 := by omega
          first
            | exact absurd hneg hnn
            | (have HTK := Lib.hid (HT.out.trans (takeB_zero_err (zero := (0 : Int)) (cntB_long HN.out h1)))
               unfold rdV u64V
               go_wp2_with fail
               refine (fail_new _ _ _ 2 _ _ rfl).mono ?_
               rintro e w2 ⟨rfl, hs2⟩
               have hst2 : Stay (fun _ => False) w w2 := (hst.trans (Stay.alloc _ _)).trans hs2
               obtain ⟨d10, d11, g10, g11⟩ := two_cells ((hs2.block (w.heap.size + 1) (by simp; omega) (fun x => x)).trans ((Below.heap_alloc _ _ _ hlt1).trans HB1.out))
               clear c00 c01 f00 f01 hst hs2
               unfold rdV
               go_wp2
               have hfin := stay_set2 (B := w.heap.size + 1) hst2 (by omega) (.slice a0 b.length cap) (.int .i64 (2 : Int))
               refine bodyPost_ret (v := .tuple #[rdV (.slice a0 b.length cap) 2, .int .i64 0]) (by simp [results, Tryz.results34, go_sem, d10, d11]; rfl) rfl ⟨?_, hfin⟩
               rw [HTK.out]
               exact ⟨_, rfl, Sub.stay0 (Sub.refl HX.out) hfin⟩)
        · have HTK := Lib.hid (HT.out.trans (takeB_ok (zero := (0 : Int)) (s := ⟨b, 0⟩) rfl (cntB_ok HN.out h1)))
          have hw : IntKind.i64.wrap (n : Int) = (n : Int) := IntWalk.i64_in _ (by omega)
          obtain ⟨c10, c11, f10, f11⟩ := two_cells HB1.out
          clear c00 c01 f00 f01
          unfold rdV u64V
          go_wp2
          have hfin := (stay_set2 (B := w.heap.size + 1) hst (by omega) (.slice a2 r.length c2) (.int .i64 (0 : Int))).trans (Stay.alloc _ (.cells #[.slice a2 r.length c2, .int .i64 0] 84))
          refine bodyPost_ret (v := .tuple #[rdV (.slice a2 r.length c2) 0, .int .i64 (n : Int)]) (by simp [results, Tryz.results34, go_sem, c10, c11, hlt1]; rfl) rfl ⟨?_, hfin⟩
          rw [HTK.out]
          exact ⟨_, rfl, Sub.stayB HSub.out HBL.out (stayB_set2 w1 (Nat.le_succ _) _ _ _)⟩
    · have hcb' : ((err : Int) == 0) = false := beq_eq_false_iff_ne.2 (by omega)
      rw [takeB_bad (s := ⟨b, err⟩) he] at hret
      obtain ⟨x2, rfl, hsub⟩ := hret
      obtain ⟨a2, c2, rfl, _⟩ := id hsub.1
      have HTK := Lib.hid (HT.out.trans (takeB_bad (zero := (0 : Int)) (s := ⟨b, err⟩) he))
      clear hsub
      unfold rdV u64V
      go_wp2_with fail
      refine (fail_old _ _ _ err _ _ he).mono ?_
      rintro e w2 ⟨rfl, hs2⟩
      have hst2 : Stay (fun _ => False) w w2 := (hst.trans (Stay.alloc _ _)).trans hs2
      obtain ⟨d10, d11, g10, g11⟩ := two_cells ((hs2.block (w.heap.size + 1) (by simp; omega) (fun x => x)).trans ((Below.heap_alloc _ _ _ hlt1).trans HB1.out))
      clear c00 c01 f00 f01 hst hs2
      unfold rdV
      go_wp2
      have hfin := stay_set2 (B := w.heap.size + 1) hst2 (by omega) (.slice a0 b.length cap) (.int .i64 (err : Int))
      refine bodyPost_ret (v := .tuple #[rdV (.slice a0 b.length cap) err, .int .i64 0]) (by simp [results, Tryz.results34, go_sem, d10, d11]; rfl) rfl ⟨?_, hfin⟩
      rw [HTK.out]
      exact ⟨_, rfl, Sub.stay0 (Sub.refl HX.out) hfin⟩

end Go.Proofs.YtahfgoafiepioaaGreatDoor.Pk

/-
  The document's answer (chapter 2): a reader's Bytes (and texts).
-/
namespace Go.Proofs.YtahfgoafiepioaaGreatDoor.Pk
open Go.RowKit
set_option maxRecDepth 100000

/-- What the document's reader hands back with bytes. -/
def BytRet (w : World) (x : Value) (t : List UInt8 × RS) (e : Ending) : Prop := ∃ x' v', e = .returned (.tuple #[rdV x' t.2.err, v']) ∧ Sub w x x' t.2.b ∧ Sub w x v' t.1

theorem Sub.nil (w : World) (x : Value) : Sub w x (.slice none 0 0) [] := ⟨⟨none, 0, rfl, fun h => by simp at h, fun _ => rfl, Nat.le_refl _, by decide⟩, fun _ e => by cases e⟩

/-- The end behind 'fail': the reader as it was, with an error. -/
theorem byt_fail {w W : World} {a0 : Option Addr} {cap : Nat} {b : List UInt8} {c : Nat} (h : Slc w (.slice a0 b.length cap) b) (hs : Stay (fun _ => False) w W) : BytRet W (.slice a0 b.length cap) ([], ⟨b, c⟩) (.returned (.tuple #[rdV (.slice a0 b.length cap) c, .slice none 0 0])) :=
  ⟨_, _, rfl, Sub.stay0 (Sub.refl h) hs, Sub.nil _ _⟩

set_option maxHeartbeats 4000000 in
theorem rrbytes_any (b : List UInt8) (err : Nat) (most : Int) (w : World) (x : Value) (hx : Slc w x b) (hmost : most ≤ 9223372036854775807) : Calls Tryz.prog 35 #[rdV x err, .int .i64 most] w fun e w' => BytRet w' x (takeB (textB most) [] ⟨b, err⟩) e ∧ Stay (fun _ => False) w w' := by
  have HX := Lib.hid hx
  obtain ⟨TK, htk⟩ : ∃ TK, TK = takeB (textB most) [] ⟨b, err⟩ := ⟨_, rfl⟩
  rw [← htk]
  have HT := Lib.hid htk
  clear htk
  obtain ⟨a0, cap, rfl, hr, hn, hcap, hcm⟩ := hx
  have hlen : (b.length : Int) ≤ 9223372036854775807 := by omega
  clear hr hn
  unfold rdV
  by_cases he : err = 0
  · subst he
    by_cases hneg : most < 0
    · have HTK := Lib.hid (HT.out.trans (takeB_zero_err (zero := ([] : List UInt8)) (textB_neg hneg)))
      go_enter Tryz.func35, Tryz.ntmps35
      go_wp2_with fail
      refine (fail_new _ _ _ 1 _ _ rfl).mono ?_
      rintro e w2 ⟨rfl, hs2⟩
      obtain ⟨hb0, hb1⟩ := two_boxes hs2
      obtain ⟨d10, d11, g10, g11⟩ := two_cells hb1
      have hst2 : Stay (fun _ => False) w w2 := ((Stay.alloc _ _).trans (Stay.alloc _ _)).trans hs2
      clear hs2 hb0 hb1
      unfold rdV
      go_wp2
      have hfin := stay_set2 (B := w.heap.size + 1) hst2 (by omega) (.slice a0 b.length cap) (.int .i64 (1 : Int))
      refine bodyPost_ret (v := .tuple #[rdV (.slice a0 b.length cap) 1, .slice none 0 0]) (by simp [results, Tryz.results35, go_sem, d10, d11]; rfl) rfl ⟨?_, hfin⟩
      rw [HTK.out]
      exact byt_fail HX.out hfin
    · have HNEG := Lib.hid (show 0 ≤ most by omega)
      have hwm : IntKind.u64.wrap most = most := IntWalk.u64_in _ (by omega)
      go_enter Tryz.func35, Tryz.ntmps35
      go_wp2_with fail
      refine (rnum_any b _ _ (HX.out.stay0 ((Stay.alloc _ _).trans (Stay.alloc _ _)))).mono ?_
      rintro e w1 ⟨hret, hs1⟩
      obtain ⟨hb0, hb1⟩ := two_boxes hs1
      obtain ⟨c00, c01, f00, f01⟩ := two_cells hb0
      obtain ⟨c10, c11, f10, f11⟩ := two_cells hb1
      have hst : Stay (fun _ => False) w w1 := ((Stay.alloc _ _).trans (Stay.alloc _ _)).trans hs1
      have HB1 := Lib.hid hb1
      clear hb0 hb1 hs1
      cases hnr : numB M64 b with
      | error c =>
        rw [hnr] at hret
        obtain rfl := hret
        have hc0 := numB_err hnr
        have hcb : ((c : Int) == 0) = false := beq_eq_false_iff_ne.2 (by omega)
        have HTK := Lib.hid (HT.out.trans (takeB_zero_err (zero := ([] : List UInt8)) (textB_err (Int.not_lt.2 HNEG.out) hnr)))
        clear hnr hc0
        go_wp2_with fail
        refine (fail_new _ _ _ c _ _ rfl).mono ?_
        rintro e w2 ⟨rfl, hs2⟩
        have hst2 := hst.trans hs2
        obtain ⟨d10, d11, g10, g11⟩ := two_cells ((hs2.block _ (lt_of_block HB1.out) (fun x => x)).trans HB1.out)
        clear c00 c01 f00 f01 c10 c11 f10 f11 hst hs2
        unfold rdV
        go_wp2
        have hfin := stay_set2 (B := w.heap.size + 1) hst2 (by omega) (.slice a0 b.length cap) (.int .i64 (c : Int))
        refine bodyPost_ret (v := .tuple #[rdV (.slice a0 b.length cap) c, .slice none 0 0]) (by simp [results, Tryz.results35, go_sem, d10, d11]; rfl) rfl ⟨?_, hfin⟩
        rw [HTK.out]
        exact byt_fail HX.out hfin
      | ok p =>
        obtain ⟨n, r⟩ := p
        rw [hnr] at hret
        obtain ⟨k, hk, hrk, rfl⟩ := hret
        subst hrk
        have hdl : (b.drop k).length = b.length - k := List.length_drop
        have hnl := numB_le hnr
        unfold M64 at hnl
        have hwl : IntKind.u64.wrap ((b.length : Int) - (k : Int)) = (b.length : Int) - (k : Int) := IntWalk.u64_in _ (by omega)
        have HN := Lib.hid hnr
        clear hnr
        by_cases h1 : most < (n : Int)
        · have HTK := Lib.hid (HT.out.trans (takeB_zero_err (zero := ([] : List UInt8)) (textB_long (Int.not_lt.2 HNEG.out) HN.out h1)))
          go_wp2_with fail
          refine (fail_new _ _ _ 2 _ _ rfl).mono ?_
          rintro e w2 ⟨rfl, hs2⟩
          have hst2 := hst.trans hs2
          obtain ⟨d10, d11, g10, g11⟩ := two_cells ((hs2.block _ (lt_of_block HB1.out) (fun x => x)).trans HB1.out)
          clear c00 c01 f00 f01 c10 c11 f10 f11 hst hs2
          unfold rdV
          go_wp2
          have hfin := stay_set2 (B := w.heap.size + 1) hst2 (by omega) (.slice a0 b.length cap) (.int .i64 (2 : Int))
          refine bodyPost_ret (v := .tuple #[rdV (.slice a0 b.length cap) 2, .slice none 0 0]) (by simp [results, Tryz.results35, go_sem, d10, d11]; rfl) rfl ⟨?_, hfin⟩
          rw [HTK.out]
          exact byt_fail HX.out hfin
        · by_cases h2 : b.length - k < n
          · have HTK := Lib.hid (HT.out.trans (takeB_zero_err (zero := ([] : List UInt8)) (textB_end (Int.not_lt.2 HNEG.out) HN.out h1 (by rw [hdl]; exact h2))))
            have h2' : (b.length : Int) - (k : Int) < (n : Int) := by omega
            go_wp2_with fail
            refine (fail_new _ _ _ 12 _ _ rfl).mono ?_
            rintro e w2 ⟨rfl, hs2⟩
            have hst2 := hst.trans hs2
            obtain ⟨d10, d11, g10, g11⟩ := two_cells ((hs2.block _ (lt_of_block HB1.out) (fun x => x)).trans HB1.out)
            clear c00 c01 f00 f01 c10 c11 f10 f11 hst hs2
            unfold rdV
            go_wp2
            have hfin := stay_set2 (B := w.heap.size + 1) hst2 (by omega) (.slice a0 b.length cap) (.int .i64 (12 : Int))
            refine bodyPost_ret (v := .tuple #[rdV (.slice a0 b.length cap) 12, .slice none 0 0]) (by simp [results, Tryz.results35, go_sem, d10, d11]; rfl) rfl ⟨?_, hfin⟩
            rw [HTK.out]
            exact byt_fail HX.out hfin
          · have htk := HT.out.trans (takeB_ok (zero := ([] : List UInt8)) (s := ⟨b, 0⟩) rfl (textB_ok (Int.not_lt.2 HNEG.out) HN.out h1 (by rw [hdl]; exact h2)))
            rw [List.drop_drop] at htk
            have HTK := Lib.hid htk
            have hnk : k + n ≤ b.length := by omega
            have h2' : ¬ (b.length : Int) - (k : Int) < (n : Int) := by omega
            have hw : IntKind.i64.wrap (n : Int) = (n : Int) := IntWalk.i64_in _ (by omega)
            have hkn : (k : Int) + (n : Int) ≤ 9223372036854775807 := by omega
            have hcut := HX.out.cut hk
            have hfst := Slc.first (k := n) (by rw [← hdl] at hcut; exact hcut.1) (by rw [hdl]; omega)
            have HF := Lib.hid (show Sub w (.slice a0 b.length cap) (.slice (if cap = k then a0 else a0.map (·.add k)) n (cap - k)) ((b.drop k).take n) from ⟨hfst, fun g hg => hcut.2 g (by revert hg; generalize (if cap = k then a0 else a0.map (·.add k)) = a1; cases a1 <;> exact id)⟩)
            have HC2 := Lib.hid (HX.out.cut hnk)
            clear htk hcut hfst h2
            have hcases : (cap = k ∧ n = 0) ∨ (¬ cap = k ∧ cap = k + n) ∨ (¬ cap = k ∧ ¬ cap = k + n) := by omega
            rcases hcases with ⟨hck, hn0⟩ | ⟨hck, hckn⟩ | ⟨hck, hckn⟩
            · skip
              have HC3 := Lib.hid (show Sub w (.slice a0 b.length cap) (Value.slice a0 (b.length - k) 0) (b.drop (k + n)) by have h := HC2.out; rw [hn0, Nat.add_zero, if_pos hck, hck, Nat.sub_self] at h; rw [hn0, Nat.add_zero, hck]; exact h)
              have HF3 := Lib.hid (show Sub w (.slice a0 b.length cap) (Value.slice a0 0 0) ((b.drop k).take n) by have h := HF.out; rw [if_pos hck, hck, hn0, Nat.sub_self] at h; rw [hck, hn0]; exact h)
              clear HF HC2
              go_wp2
              have hfin := stay_set3 (A := w.heap.size) (B := w.heap.size + 1) hst (by omega) (by omega) (Value.slice a0 (b.length - k) 0) (Value.slice a0 (b.length - k) 0) (.int .i64 (0 : Int))
              refine bodyPost_ret (v := .tuple #[rdV (Value.slice a0 (b.length - k) 0) 0, Value.slice a0 0 0]) (by simp [results, Tryz.results35, go_sem, c10, c11]; rfl) rfl ⟨?_, hfin⟩
              rw [HTK.out]
              exact ⟨_, _, rfl, Sub.stay0 HC3.out hfin, Sub.stay0 HF3.out hfin⟩
            · skip
              have HC3 := Lib.hid (show Sub w (.slice a0 b.length cap) (Value.slice a0 (b.length - (k + n)) 0) (b.drop (k + n)) by have h := HC2.out; rw [if_pos hckn, hckn, Nat.sub_self] at h; rw [hckn]; exact h)
              have HF3 := Lib.hid (show Sub w (.slice a0 b.length cap) (Value.slice (a0.map (fun x => x.add k)) (k + n - k) n) ((b.drop k).take n) by have h := HF.out; rw [if_neg hck, hckn, Nat.add_sub_cancel_left] at h; rw [hckn, Nat.add_sub_cancel_left]; exact h)
              clear HF HC2
              go_wp2
              have hfin := stay_set3 (A := w.heap.size) (B := w.heap.size + 1) hst (by omega) (by omega) (Value.slice a0 (b.length - (k + n)) 0) (Value.slice a0 (b.length - (k + n)) 0) (.int .i64 (0 : Int))
              refine bodyPost_ret (v := .tuple #[rdV (Value.slice a0 (b.length - (k + n)) 0) 0, Value.slice (a0.map (fun x => x.add k)) (k + n - k) n]) (by simp [results, Tryz.results35, go_sem, c10, c11]; rfl) rfl ⟨?_, hfin⟩
              rw [HTK.out]
              exact ⟨_, _, rfl, Sub.stay0 HC3.out hfin, Sub.stay0 HF3.out hfin⟩
            · skip
              have HC3 := Lib.hid (show Sub w (.slice a0 b.length cap) (Value.slice (a0.map (fun x => x.add (k + n))) (b.length - (k + n)) (cap - (k + n))) (b.drop (k + n)) by have h := HC2.out; rw [if_neg hckn] at h; exact h)
              have HF3 := Lib.hid (show Sub w (.slice a0 b.length cap) (Value.slice (a0.map (fun x => x.add k)) (k + n - k) (cap - k)) ((b.drop k).take n) by have h := HF.out; rw [if_neg hck] at h; rw [Nat.add_sub_cancel_left]; exact h)
              clear HF HC2
              go_wp2
              have hfin := stay_set3 (A := w.heap.size) (B := w.heap.size + 1) hst (by omega) (by omega) (Value.slice (a0.map (fun x => x.add (k + n))) (b.length - (k + n)) (cap - (k + n))) (Value.slice (a0.map (fun x => x.add (k + n))) (b.length - (k + n)) (cap - (k + n))) (.int .i64 (0 : Int))
              refine bodyPost_ret (v := .tuple #[rdV (Value.slice (a0.map (fun x => x.add (k + n))) (b.length - (k + n)) (cap - (k + n))) 0, Value.slice (a0.map (fun x => x.add k)) (k + n - k) (cap - k)]) (by simp [results, Tryz.results35, go_sem, c10, c11]; rfl) rfl ⟨?_, hfin⟩
              rw [HTK.out]
              exact ⟨_, _, rfl, Sub.stay0 HC3.out hfin, Sub.stay0 HF3.out hfin⟩
  · have hb : ((err : Int) == 0) = false := beq_eq_false_iff_ne.2 (by omega)
    have HTK := Lib.hid (HT.out.trans (takeB_bad (zero := ([] : List UInt8)) (s := ⟨b, err⟩) he))
    go_enter Tryz.func35, Tryz.ntmps35
    go_wp2
    refine bodyPost_ret (v := .tuple #[rdV (.slice a0 b.length cap) err, .slice none 0 0]) (by simp [results, Tryz.results35, go_sem]; rfl) rfl ⟨?_, (Stay.alloc _ _).trans (Stay.alloc _ _)⟩
    rw [HTK.out]
    exact byt_fail HX.out ((Stay.alloc _ _).trans (Stay.alloc _ _))

end Go.Proofs.YtahfgoafiepioaaGreatDoor.Pk

