/-
  gf's laws of the door, walked: GfPowers, GfReckons.
-/
import Derived.Test.YtcjjdpncfgogiaaDoorGfF
import Derived.Test.YtcjjdpncfgogiaaDoorNum
namespace Go.Proofs.YtcjjdpncfgogiaaDoor.Gf
open Go.RowKit
set_option maxRecDepth 100000

/-- A rest in the range of an int. -/
theorem rest_1000 (n : Int) : ∃ x, n.tmod 1000 = x ∧ -1000 < x ∧ x < 1000 :=
  ⟨_, rfl, Int.lt_tmod_of_pos n (by omega), Int.tmod_lt_of_pos n (by omega)⟩
theorem rest_9 (n : Int) : ∃ q : Nat, (IntKind.u64.wrap n).tmod 9 = (q : Int) ∧ (q : Int) < 9 := by
  have h0 : 0 ≤ IntKind.u64.wrap n := by rw [IntKind.wrap_u64]; omega
  generalize IntKind.u64.wrap n = y at *
  rw [Int.tmod_eq_emod_of_nonneg h0]
  exact ⟨(y % 9).toNat, by omega, by omega⟩
theorem pow_zero_turn (q : Nat) : powN 0 (255 * (q : Int)) = 0 ∨ powN 0 (255 * (q : Int)) = 1 := by
  unfold powN
  split
  · exact .inr rfl
  · exact .inl (if_pos rfl)
theorem exp_lg {a : Nat} (h0 : a ≠ 0) (ha : a < 256) : expN (lg a : Int) = a := by
  unfold expN
  rw [rs_nat (lg_lt ha), pw_lg h0 ha]

set_option maxHeartbeats 4000000 in
theorem powers_walk (w : World) (a : Nat) (n m : Int) (ha : a < 256) (he : ErrCell w) :
    Calls Tryd.prog 4 #[.int .u8 (a : Int), .int .i64 n, .int .i64 m] w fun e w' => e = .returned (.bool true) ∧ Stay (fun _ => False) w w' := by
  obtain ⟨x, hx, x1, x2⟩ := rest_1000 n
  obtain ⟨y, hy, y1, y2⟩ := rest_1000 m
  obtain ⟨q, hq, q1⟩ := rest_9 n
  have HA := Lib.hid ha
  have HE := Lib.hid he
  clear ha he
  by_cases h0 : a = 0
  · have hp := pow_zero_turn q
    subst h0
    rcases hp with hp | hp
    · have HP := Lib.hid hp
      clear hp
      go_enter Tryd.func4, Tryd.ntmps4
      go_wp2_with fail
      refine (new_D w).mono ?_
      rintro e w1 ⟨rfl, h1⟩
      have H1 := Lib.hid h1
      clear h1
      go_wp2_with fail
      refine (exp_D H1.out (x + y)).mono ?_
      rintro e w2 ⟨rfl, h2⟩
      have H2 := Lib.hid h2
      clear h2
      go_wp2_with fail
      refine (exp_D H2.out x).mono ?_
      rintro e w3 ⟨rfl, h3⟩
      have H3 := Lib.hid h3
      clear h3
      go_wp2_with fail
      refine (exp_D H3.out y).mono ?_
      rintro e w4 ⟨rfl, h4⟩
      have H4 := Lib.hid h4
      clear h4
      go_wp2_with fail
      refine (mul_D H4.out (expN x) (expN y) (expN_lt x) (expN_lt y)).mono ?_
      rintro e w5 ⟨rfl, h5⟩
      have H5 := Lib.hid h5
      clear h5
      rw [← exp_add]
      go_wp2_with fail
      refine (pow_D H5.out 0 (255 * (q : Int)) HA.out).mono ?_
      rintro e w6 ⟨rfl, h6⟩
      have H6 := Lib.hid h6
      clear h6
      rw [HP.out]
      go_wp2_with fail
      refine (log_Z H6.out).mono ?_
      rintro e w7 ⟨rfl, h7⟩
      have H7 := Lib.hid h7
      clear h7
      go_wp2_with fail
      refine (num_D H7.out HE.out).mono ?_
      rintro e w8 ⟨rfl, h8⟩
      have H8 := Lib.hid h8
      clear h8
      go_wp2_with fail
      refine (sure_D H8.out).mono ?_
      rintro e w9 ⟨rfl, h9⟩
      have H9 := Lib.hid h9
      clear h9
      go_wp2
      go_ret
      exact ⟨rfl, H9.out.s⟩
    · have HP := Lib.hid hp
      clear hp
      go_enter Tryd.func4, Tryd.ntmps4
      go_wp2_with fail
      refine (new_D w).mono ?_
      rintro e w1 ⟨rfl, h1⟩
      have H1 := Lib.hid h1
      clear h1
      go_wp2_with fail
      refine (exp_D H1.out (x + y)).mono ?_
      rintro e w2 ⟨rfl, h2⟩
      have H2 := Lib.hid h2
      clear h2
      go_wp2_with fail
      refine (exp_D H2.out x).mono ?_
      rintro e w3 ⟨rfl, h3⟩
      have H3 := Lib.hid h3
      clear h3
      go_wp2_with fail
      refine (exp_D H3.out y).mono ?_
      rintro e w4 ⟨rfl, h4⟩
      have H4 := Lib.hid h4
      clear h4
      go_wp2_with fail
      refine (mul_D H4.out (expN x) (expN y) (expN_lt x) (expN_lt y)).mono ?_
      rintro e w5 ⟨rfl, h5⟩
      have H5 := Lib.hid h5
      clear h5
      rw [← exp_add]
      go_wp2_with fail
      refine (pow_D H5.out 0 (255 * (q : Int)) HA.out).mono ?_
      rintro e w6 ⟨rfl, h6⟩
      have H6 := Lib.hid h6
      clear h6
      rw [HP.out]
      go_wp2_with fail
      refine (log_Z H6.out).mono ?_
      rintro e w7 ⟨rfl, h7⟩
      have H7 := Lib.hid h7
      clear h7
      go_wp2_with fail
      refine (num_D H7.out HE.out).mono ?_
      rintro e w8 ⟨rfl, h8⟩
      have H8 := Lib.hid h8
      clear h8
      go_wp2_with fail
      refine (sure_D H8.out).mono ?_
      rintro e w9 ⟨rfl, h9⟩
      have H9 := Lib.hid h9
      clear h9
      go_wp2
      go_ret
      exact ⟨rfl, H9.out.s⟩
  · have e0 : ((a : Int) == 0) = false := by simp; omega
    have HL := Lib.hid (lg_lt HA.out)
    have l1 : (lg a : Int) < 255 := by have := HL.out; omega
    have H0 := Lib.hid h0
    clear h0
    go_enter Tryd.func4, Tryd.ntmps4
    go_wp2_with fail
    refine (new_D w).mono ?_
    rintro e w1 ⟨rfl, h1⟩
    have H1 := Lib.hid h1
    clear h1
    go_wp2_with fail
    refine (exp_D H1.out (x + y)).mono ?_
    rintro e w2 ⟨rfl, h2⟩
    have H2 := Lib.hid h2
    clear h2
    go_wp2_with fail
    refine (exp_D H2.out x).mono ?_
    rintro e w3 ⟨rfl, h3⟩
    have H3 := Lib.hid h3
    clear h3
    go_wp2_with fail
    refine (exp_D H3.out y).mono ?_
    rintro e w4 ⟨rfl, h4⟩
    have H4 := Lib.hid h4
    clear h4
    go_wp2_with fail
    refine (mul_D H4.out (expN x) (expN y) (expN_lt x) (expN_lt y)).mono ?_
    rintro e w5 ⟨rfl, h5⟩
    have H5 := Lib.hid h5
    clear h5
    rw [← exp_add]
    go_wp2_with fail
    refine (pow_D H5.out a (255 * (q : Int)) HA.out).mono ?_
    rintro e w6 ⟨rfl, h6⟩
    have H6 := Lib.hid h6
    clear h6
    rw [pow_turn H0.out]
    go_wp2_with fail
    refine (log_D H6.out a H0.out HA.out).mono ?_
    rintro e w7 ⟨rfl, h7⟩
    have H7 := Lib.hid h7
    clear h7
    go_wp2_with fail
    refine (exp_D H7.out (lg a : Int)).mono ?_
    rintro e w8 ⟨rfl, h8⟩
    have H8 := Lib.hid h8
    clear h8
    rw [exp_lg H0.out HA.out]
    go_wp2_with fail
    refine (pow_D H8.out a (x + y) HA.out).mono ?_
    rintro e w9 ⟨rfl, h9⟩
    have H9 := Lib.hid h9
    clear h9
    go_wp2_with fail
    refine (pow_D H9.out a x HA.out).mono ?_
    rintro e w10 ⟨rfl, h10⟩
    have H10 := Lib.hid h10
    clear h10
    go_wp2_with fail
    refine (pow_D H10.out a y HA.out).mono ?_
    rintro e w11 ⟨rfl, h11⟩
    have H11 := Lib.hid h11
    clear h11
    go_wp2_with fail
    refine (mul_D H11.out (powN a x) (powN a y) (powN_lt a x) (powN_lt a y)).mono ?_
    rintro e w12 ⟨rfl, h12⟩
    have H12 := Lib.hid h12
    clear h12
    rw [← pow_add H0.out]
    go_wp2_with fail
    refine (sure_D H12.out).mono ?_
    rintro e w13 ⟨rfl, h13⟩
    have H13 := Lib.hid h13
    clear h13
    go_wp2
    go_ret
    exact ⟨rfl, H13.out.s⟩

/-- The calls of a nil field. -/
theorem mul_nil (w : World) (a b : Value) : Calls Tryd.prog 15 #[.pointer none, a, b] w fun e w' => e = .returned (.int .u8 0) ∧ w' = w := by
  go_enter Tryd.func15, Tryd.ntmps15
  go_wp2
  go_ret
  exact ⟨rfl, rfl⟩
theorem add_nil (w : World) (a b : Value) : Calls Tryd.prog 14 #[.pointer none, a, b] w fun e w' => e = .returned (.int .u8 0) ∧ w' = w := by
  go_enter Tryd.func14, Tryd.ntmps14
  go_wp2
  go_ret
  exact ⟨rfl, rfl⟩
theorem exp_nil (w : World) (n : Value) : Calls Tryd.prog 18 #[.pointer none, n] w fun e w' => e = .returned (.int .u8 0) ∧ w' = w := by
  go_enter Tryd.func18, Tryd.ntmps18
  go_wp2
  go_ret
  exact ⟨rfl, rfl⟩
theorem pow_nil (w : World) (a n : Value) : Calls Tryd.prog 20 #[.pointer none, a, n] w fun e w' => e = .returned (.int .u8 0) ∧ w' = w := by
  go_enter Tryd.func20, Tryd.ntmps20
  go_wp2
  go_ret
  exact ⟨rfl, rfl⟩
theorem log_nil (w : World) (a : Value) : Calls Tryd.prog 12 #[.pointer none, a] w fun e w' => e = .returned (.tuple #[.int .i64 0, .iface 64 (.int .i64 14)]) ∧ w' = w := by
  go_enter Tryd.func12, Tryd.ntmps12
  go_wp2
  go_ret2
  exact ⟨rfl, rfl⟩
theorem inv_nil (w : World) (a : Value) : Calls Tryd.prog 10 #[.pointer none, a] w fun e w' => e = .returned (.tuple #[.int .u8 0, .iface 64 (.int .i64 14)]) ∧ w' = w := by
  go_enter Tryd.func10, Tryd.ntmps10
  go_wp2_with fail
  refine (log_nil w a).mono ?_
  rintro e w' ⟨rfl, rfl⟩
  go_wp2
  go_ret2
  exact ⟨rfl, rfl⟩

set_option maxHeartbeats 8000000 in
theorem reckons_walk (w : World) (a b : Nat) (n : Int) (ha : a < 256) (hb : b < 256) (he : ErrCell w) :
    Calls Tryd.prog 3 #[.int .u8 (a : Int), .int .u8 (b : Int), .int .i64 n] w fun e w' => e = .returned (.bool true) ∧ Stay (fun _ => False) w w' := by
  have HA := Lib.hid ha
  have HB := Lib.hid hb
  have HE := Lib.hid he
  clear ha hb he
  by_cases h0 : a = 0
  · by_cases h1 : b = 0
    · subst h0
      subst h1
      have hx : bits BinOp.xor IntKind.u8 0 0 = 0 := by decide
      go_enter Tryd.func3, Tryd.ntmps3
      go_wp2_with fail
      refine (new_D w).mono ?_
      rintro e w1 ⟨rfl, h1⟩
      have H1 := Lib.hid h1
      clear h1
      go_wp2_with fail
      refine (div_Z H1.out 0).mono ?_
      rintro e w2 ⟨rfl, h2⟩
      have H2 := Lib.hid h2
      clear h2
      go_wp2_with fail
      refine (H2.out.same (rdiv_zero _ 0 HA.out)).mono ?_
      rintro e w3 ⟨rfl, h3⟩
      have H3 := Lib.hid h3
      clear h3
      go_wp2_with fail
      refine (inv_Z H3.out).mono ?_
      rintro e w4 ⟨rfl, h4⟩
      have H4 := Lib.hid h4
      clear h4
      go_wp2_with fail
      refine (H4.out.same (rinv_zero _)).mono ?_
      rintro e w5 ⟨rfl, h5⟩
      have H5 := Lib.hid h5
      clear h5
      go_wp2_with fail
      refine (log_Z H5.out).mono ?_
      rintro e w6 ⟨rfl, h6⟩
      have H6 := Lib.hid h6
      clear h6
      go_wp2_with fail
      refine (H6.out.same (rlog_zero _)).mono ?_
      rintro e w7 ⟨rfl, h7⟩
      have H7 := Lib.hid h7
      clear h7
      go_wp2_with fail
      refine (H7.out.same (inv_nil _ _)).mono ?_
      rintro e w8 ⟨rfl, h8⟩
      have H8 := Lib.hid h8
      clear h8
      go_wp2_with fail
      refine (add_D H8.out 0 0 HA.out HB.out).mono ?_
      rintro e w9 ⟨rfl, h9⟩
      have H9 := Lib.hid h9
      clear h9
      rw [Nat.zero_xor]
      go_wp2_with fail
      refine (mul_D H9.out 0 0 HA.out HB.out).mono ?_
      rintro e w10 ⟨rfl, h10⟩
      have H10 := Lib.hid h10
      clear h10
      go_wp2_with fail
      refine (H10.out.same (rmul_any _ 0 0 HA.out HB.out)).mono ?_
      rintro e w11 ⟨rfl, h11⟩
      have H11 := Lib.hid h11
      clear h11
      go_wp2_with fail
      refine (num_D H11.out HE.out).mono ?_
      rintro e w12 ⟨rfl, h12⟩
      have H12 := Lib.hid h12
      clear h12
      go_wp2_with fail
      refine (num_D H12.out HE.out).mono ?_
      rintro e w13 ⟨rfl, h13⟩
      have H13 := Lib.hid h13
      clear h13
      go_wp2_with fail
      refine (num_D H13.out HE.out).mono ?_
      rintro e w14 ⟨rfl, h14⟩
      have H14 := Lib.hid h14
      clear h14
      go_wp2_with fail
      refine (exp_D H14.out n).mono ?_
      rintro e w15 ⟨rfl, h15⟩
      have H15 := Lib.hid h15
      clear h15
      go_wp2_with fail
      refine (H15.out.same (rexp_any _ n)).mono ?_
      rintro e w16 ⟨rfl, h16⟩
      have H16 := Lib.hid h16
      clear h16
      go_wp2_with fail
      refine (pow_D H16.out 0 n HA.out).mono ?_
      rintro e w17 ⟨rfl, h17⟩
      have H17 := Lib.hid h17
      clear h17
      go_wp2_with fail
      refine (H17.out.same (rpow_any _ 0 n HA.out)).mono ?_
      rintro e w18 ⟨rfl, h18⟩
      have H18 := Lib.hid h18
      clear h18
      go_wp2_with fail
      refine (H18.out.same (mul_nil _ _ _)).mono ?_
      rintro e w19 ⟨rfl, h19⟩
      have H19 := Lib.hid h19
      clear h19
      go_wp2_with fail
      refine (H19.out.same (add_nil _ _ _)).mono ?_
      rintro e w20 ⟨rfl, h20⟩
      have H20 := Lib.hid h20
      clear h20
      go_wp2_with fail
      refine (H20.out.same (exp_nil _ _)).mono ?_
      rintro e w21 ⟨rfl, h21⟩
      have H21 := Lib.hid h21
      clear h21
      go_wp2_with fail
      refine (H21.out.same (pow_nil _ _ _)).mono ?_
      rintro e w22 ⟨rfl, h22⟩
      have H22 := Lib.hid h22
      clear h22
      go_wp2_with fail
      refine (num_D H22.out HE.out).mono ?_
      rintro e w23 ⟨rfl, h23⟩
      have H23 := Lib.hid h23
      clear h23
      go_wp2_with fail
      refine (sure_D H23.out).mono ?_
      rintro e w24 ⟨rfl, h24⟩
      have H24 := Lib.hid h24
      clear h24
      go_wp2
      go_ret
      exact ⟨rfl, H24.out.s⟩
    · subst h0
      have hx : bits BinOp.xor IntKind.u8 0 (b : Int) = (b : Int) := by
        have h := xor_byte (a := 0) (b := b) (by omega) HB.out
        rw [Nat.zero_xor] at h
        exact h
      have HB0 := Lib.hid h1
      clear h1
      go_enter Tryd.func3, Tryd.ntmps3
      go_wp2_with fail
      refine (new_D w).mono ?_
      rintro e w1 ⟨rfl, h1⟩
      have H1 := Lib.hid h1
      clear h1
      go_wp2_with fail
      refine (div_D H1.out 0 b HA.out HB0.out HB.out).mono ?_
      rintro e w2 ⟨rfl, h2⟩
      have H2 := Lib.hid h2
      clear h2
      go_wp2_with fail
      refine (H2.out.same (rdiv_any _ 0 b HA.out HB0.out HB.out)).mono ?_
      rintro e w3 ⟨rfl, h3⟩
      have H3 := Lib.hid h3
      clear h3
      go_wp2_with fail
      refine (inv_Z H3.out).mono ?_
      rintro e w4 ⟨rfl, h4⟩
      have H4 := Lib.hid h4
      clear h4
      go_wp2_with fail
      refine (H4.out.same (rinv_zero _)).mono ?_
      rintro e w5 ⟨rfl, h5⟩
      have H5 := Lib.hid h5
      clear h5
      go_wp2_with fail
      refine (log_Z H5.out).mono ?_
      rintro e w6 ⟨rfl, h6⟩
      have H6 := Lib.hid h6
      clear h6
      go_wp2_with fail
      refine (H6.out.same (rlog_zero _)).mono ?_
      rintro e w7 ⟨rfl, h7⟩
      have H7 := Lib.hid h7
      clear h7
      go_wp2_with fail
      refine (H7.out.same (inv_nil _ _)).mono ?_
      rintro e w8 ⟨rfl, h8⟩
      have H8 := Lib.hid h8
      clear h8
      go_wp2_with fail
      refine (add_D H8.out 0 b HA.out HB.out).mono ?_
      rintro e w9 ⟨rfl, h9⟩
      have H9 := Lib.hid h9
      clear h9
      rw [Nat.zero_xor]
      go_wp2_with fail
      refine (mul_D H9.out 0 b HA.out HB.out).mono ?_
      rintro e w10 ⟨rfl, h10⟩
      have H10 := Lib.hid h10
      clear h10
      go_wp2_with fail
      refine (H10.out.same (rmul_any _ 0 b HA.out HB.out)).mono ?_
      rintro e w11 ⟨rfl, h11⟩
      have H11 := Lib.hid h11
      clear h11
      go_wp2_with fail
      refine (numN_D H11.out).mono ?_
      rintro e w12 ⟨rfl, h12⟩
      have H12 := Lib.hid h12
      clear h12
      go_wp2_with fail
      refine (num_D H12.out HE.out).mono ?_
      rintro e w13 ⟨rfl, h13⟩
      have H13 := Lib.hid h13
      clear h13
      go_wp2_with fail
      refine (num_D H13.out HE.out).mono ?_
      rintro e w14 ⟨rfl, h14⟩
      have H14 := Lib.hid h14
      clear h14
      go_wp2_with fail
      refine (exp_D H14.out n).mono ?_
      rintro e w15 ⟨rfl, h15⟩
      have H15 := Lib.hid h15
      clear h15
      go_wp2_with fail
      refine (H15.out.same (rexp_any _ n)).mono ?_
      rintro e w16 ⟨rfl, h16⟩
      have H16 := Lib.hid h16
      clear h16
      go_wp2_with fail
      refine (pow_D H16.out 0 n HA.out).mono ?_
      rintro e w17 ⟨rfl, h17⟩
      have H17 := Lib.hid h17
      clear h17
      go_wp2_with fail
      refine (H17.out.same (rpow_any _ 0 n HA.out)).mono ?_
      rintro e w18 ⟨rfl, h18⟩
      have H18 := Lib.hid h18
      clear h18
      go_wp2_with fail
      refine (H18.out.same (mul_nil _ _ _)).mono ?_
      rintro e w19 ⟨rfl, h19⟩
      have H19 := Lib.hid h19
      clear h19
      go_wp2_with fail
      refine (H19.out.same (add_nil _ _ _)).mono ?_
      rintro e w20 ⟨rfl, h20⟩
      have H20 := Lib.hid h20
      clear h20
      go_wp2_with fail
      refine (H20.out.same (exp_nil _ _)).mono ?_
      rintro e w21 ⟨rfl, h21⟩
      have H21 := Lib.hid h21
      clear h21
      go_wp2_with fail
      refine (H21.out.same (pow_nil _ _ _)).mono ?_
      rintro e w22 ⟨rfl, h22⟩
      have H22 := Lib.hid h22
      clear h22
      go_wp2_with fail
      refine (num_D H22.out HE.out).mono ?_
      rintro e w23 ⟨rfl, h23⟩
      have H23 := Lib.hid h23
      clear h23
      go_wp2_with fail
      refine (sure_D H23.out).mono ?_
      rintro e w24 ⟨rfl, h24⟩
      have H24 := Lib.hid h24
      clear h24
      go_wp2
      go_ret
      exact ⟨rfl, H24.out.s⟩
  · have HA0 := Lib.hid h0
    clear h0
    by_cases h1 : b = 0
    · subst h1
      have hx : bits BinOp.xor IntKind.u8 (a : Int) 0 = (a : Int) := by
        have h := xor_byte (a := a) (b := 0) HA.out (by omega)
        rw [Nat.xor_zero] at h
        exact h
      go_enter Tryd.func3, Tryd.ntmps3
      go_wp2_with fail
      refine (new_D w).mono ?_
      rintro e w1 ⟨rfl, h1⟩
      have H1 := Lib.hid h1
      clear h1
      go_wp2_with fail
      refine (div_Z H1.out a).mono ?_
      rintro e w2 ⟨rfl, h2⟩
      have H2 := Lib.hid h2
      clear h2
      go_wp2_with fail
      refine (H2.out.same (rdiv_zero _ a HA.out)).mono ?_
      rintro e w3 ⟨rfl, h3⟩
      have H3 := Lib.hid h3
      clear h3
      go_wp2_with fail
      refine (inv_D H3.out a HA0.out HA.out).mono ?_
      rintro e w4 ⟨rfl, h4⟩
      have H4 := Lib.hid h4
      clear h4
      go_wp2_with fail
      refine (H4.out.same (rinv_any _ a HA0.out HA.out)).mono ?_
      rintro e w5 ⟨rfl, h5⟩
      have H5 := Lib.hid h5
      clear h5
      go_wp2_with fail
      refine (log_D H5.out a HA0.out HA.out).mono ?_
      rintro e w6 ⟨rfl, h6⟩
      have H6 := Lib.hid h6
      clear h6
      go_wp2_with fail
      refine (H6.out.same (rlog_any _ a HA0.out HA.out)).mono ?_
      rintro e w7 ⟨rfl, h7⟩
      have H7 := Lib.hid h7
      clear h7
      go_wp2_with fail
      refine (H7.out.same (inv_nil _ _)).mono ?_
      rintro e w8 ⟨rfl, h8⟩
      have H8 := Lib.hid h8
      clear h8
      go_wp2_with fail
      refine (add_D H8.out a 0 HA.out HB.out).mono ?_
      rintro e w9 ⟨rfl, h9⟩
      have H9 := Lib.hid h9
      clear h9
      rw [Nat.xor_zero]
      go_wp2_with fail
      refine (mul_D H9.out a 0 HA.out HB.out).mono ?_
      rintro e w10 ⟨rfl, h10⟩
      have H10 := Lib.hid h10
      clear h10
      go_wp2_with fail
      refine (H10.out.same (rmul_any _ a 0 HA.out HB.out)).mono ?_
      rintro e w11 ⟨rfl, h11⟩
      have H11 := Lib.hid h11
      clear h11
      go_wp2_with fail
      refine (num_D H11.out HE.out).mono ?_
      rintro e w12 ⟨rfl, h12⟩
      have H12 := Lib.hid h12
      clear h12
      go_wp2_with fail
      refine (numN_D H12.out).mono ?_
      rintro e w13 ⟨rfl, h13⟩
      have H13 := Lib.hid h13
      clear h13
      go_wp2_with fail
      refine (numN_D H13.out).mono ?_
      rintro e w14 ⟨rfl, h14⟩
      have H14 := Lib.hid h14
      clear h14
      go_wp2_with fail
      refine (exp_D H14.out n).mono ?_
      rintro e w15 ⟨rfl, h15⟩
      have H15 := Lib.hid h15
      clear h15
      go_wp2_with fail
      refine (H15.out.same (rexp_any _ n)).mono ?_
      rintro e w16 ⟨rfl, h16⟩
      have H16 := Lib.hid h16
      clear h16
      go_wp2_with fail
      refine (pow_D H16.out a n HA.out).mono ?_
      rintro e w17 ⟨rfl, h17⟩
      have H17 := Lib.hid h17
      clear h17
      go_wp2_with fail
      refine (H17.out.same (rpow_any _ a n HA.out)).mono ?_
      rintro e w18 ⟨rfl, h18⟩
      have H18 := Lib.hid h18
      clear h18
      go_wp2_with fail
      refine (H18.out.same (mul_nil _ _ _)).mono ?_
      rintro e w19 ⟨rfl, h19⟩
      have H19 := Lib.hid h19
      clear h19
      go_wp2_with fail
      refine (H19.out.same (add_nil _ _ _)).mono ?_
      rintro e w20 ⟨rfl, h20⟩
      have H20 := Lib.hid h20
      clear h20
      go_wp2_with fail
      refine (H20.out.same (exp_nil _ _)).mono ?_
      rintro e w21 ⟨rfl, h21⟩
      have H21 := Lib.hid h21
      clear h21
      go_wp2_with fail
      refine (H21.out.same (pow_nil _ _ _)).mono ?_
      rintro e w22 ⟨rfl, h22⟩
      have H22 := Lib.hid h22
      clear h22
      go_wp2_with fail
      refine (num_D H22.out HE.out).mono ?_
      rintro e w23 ⟨rfl, h23⟩
      have H23 := Lib.hid h23
      clear h23
      go_wp2_with fail
      refine (sure_D H23.out).mono ?_
      rintro e w24 ⟨rfl, h24⟩
      have H24 := Lib.hid h24
      clear h24
      go_wp2
      go_ret
      exact ⟨rfl, H24.out.s⟩
    · have HB0 := Lib.hid h1
      have hx := xor_byte HA.out HB.out
      clear h1
      go_enter Tryd.func3, Tryd.ntmps3
      go_wp2_with fail
      refine (new_D w).mono ?_
      rintro e w1 ⟨rfl, h1⟩
      have H1 := Lib.hid h1
      clear h1
      go_wp2_with fail
      refine (div_D H1.out a b HA.out HB0.out HB.out).mono ?_
      rintro e w2 ⟨rfl, h2⟩
      have H2 := Lib.hid h2
      clear h2
      go_wp2_with fail
      refine (H2.out.same (rdiv_any _ a b HA.out HB0.out HB.out)).mono ?_
      rintro e w3 ⟨rfl, h3⟩
      have H3 := Lib.hid h3
      clear h3
      go_wp2_with fail
      refine (inv_D H3.out a HA0.out HA.out).mono ?_
      rintro e w4 ⟨rfl, h4⟩
      have H4 := Lib.hid h4
      clear h4
      go_wp2_with fail
      refine (H4.out.same (rinv_any _ a HA0.out HA.out)).mono ?_
      rintro e w5 ⟨rfl, h5⟩
      have H5 := Lib.hid h5
      clear h5
      go_wp2_with fail
      refine (log_D H5.out a HA0.out HA.out).mono ?_
      rintro e w6 ⟨rfl, h6⟩
      have H6 := Lib.hid h6
      clear h6
      go_wp2_with fail
      refine (H6.out.same (rlog_any _ a HA0.out HA.out)).mono ?_
      rintro e w7 ⟨rfl, h7⟩
      have H7 := Lib.hid h7
      clear h7
      go_wp2_with fail
      refine (H7.out.same (inv_nil _ _)).mono ?_
      rintro e w8 ⟨rfl, h8⟩
      have H8 := Lib.hid h8
      clear h8
      go_wp2_with fail
      refine (add_D H8.out a b HA.out HB.out).mono ?_
      rintro e w9 ⟨rfl, h9⟩
      have H9 := Lib.hid h9
      clear h9
      go_wp2_with fail
      refine (mul_D H9.out a b HA.out HB.out).mono ?_
      rintro e w10 ⟨rfl, h10⟩
      have H10 := Lib.hid h10
      clear h10
      go_wp2_with fail
      refine (H10.out.same (rmul_any _ a b HA.out HB.out)).mono ?_
      rintro e w11 ⟨rfl, h11⟩
      have H11 := Lib.hid h11
      clear h11
      go_wp2_with fail
      refine (numN_D H11.out).mono ?_
      rintro e w12 ⟨rfl, h12⟩
      have H12 := Lib.hid h12
      clear h12
      go_wp2_with fail
      refine (numN_D H12.out).mono ?_
      rintro e w13 ⟨rfl, h13⟩
      have H13 := Lib.hid h13
      clear h13
      go_wp2_with fail
      refine (numN_D H13.out).mono ?_
      rintro e w14 ⟨rfl, h14⟩
      have H14 := Lib.hid h14
      clear h14
      go_wp2_with fail
      refine (exp_D H14.out n).mono ?_
      rintro e w15 ⟨rfl, h15⟩
      have H15 := Lib.hid h15
      clear h15
      go_wp2_with fail
      refine (H15.out.same (rexp_any _ n)).mono ?_
      rintro e w16 ⟨rfl, h16⟩
      have H16 := Lib.hid h16
      clear h16
      go_wp2_with fail
      refine (pow_D H16.out a n HA.out).mono ?_
      rintro e w17 ⟨rfl, h17⟩
      have H17 := Lib.hid h17
      clear h17
      go_wp2_with fail
      refine (H17.out.same (rpow_any _ a n HA.out)).mono ?_
      rintro e w18 ⟨rfl, h18⟩
      have H18 := Lib.hid h18
      clear h18
      go_wp2_with fail
      refine (H18.out.same (mul_nil _ _ _)).mono ?_
      rintro e w19 ⟨rfl, h19⟩
      have H19 := Lib.hid h19
      clear h19
      go_wp2_with fail
      refine (H19.out.same (add_nil _ _ _)).mono ?_
      rintro e w20 ⟨rfl, h20⟩
      have H20 := Lib.hid h20
      clear h20
      go_wp2_with fail
      refine (H20.out.same (exp_nil _ _)).mono ?_
      rintro e w21 ⟨rfl, h21⟩
      have H21 := Lib.hid h21
      clear h21
      go_wp2_with fail
      refine (H21.out.same (pow_nil _ _ _)).mono ?_
      rintro e w22 ⟨rfl, h22⟩
      have H22 := Lib.hid h22
      clear h22
      go_wp2_with fail
      refine (num_D H22.out HE.out).mono ?_
      rintro e w23 ⟨rfl, h23⟩
      have H23 := Lib.hid h23
      clear h23
      go_wp2_with fail
      refine (sure_D H23.out).mono ?_
      rintro e w24 ⟨rfl, h24⟩
      have H24 := Lib.hid h24
      clear h24
      go_wp2
      go_ret
      exact ⟨rfl, H24.out.s⟩

end Go.Proofs.YtcjjdpncfgogiaaDoor.Gf
