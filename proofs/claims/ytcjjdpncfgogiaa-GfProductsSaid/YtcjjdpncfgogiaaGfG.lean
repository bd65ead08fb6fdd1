/-
  gf's laws of the main seat, walked: GfField, GfProducts.
-/
import Derived.Test.YtcjjdpncfgogiaaGfE
import Derived.Test.YtcjjdpncfgogiaaLaw
namespace Go.Proofs.Ytcjjdpncfgogiaa.Gf
open Go.RowKit
set_option maxRecDepth 100000

section
variable {w0 w : World} {P : Program} {f : FuncId} {args : Array Value} {v : Value}
theorem DF.same (h : DF w0 w) (hc : Calls P f args w fun e w' => e = .returned v ∧ w' = w) : Calls P f args w fun e w' => e = .returned v ∧ DF w0 w' := hc.mono fun _ _ ⟨h1, h2⟩ => ⟨h1, h2 ▸ h⟩
theorem DF.keeps (h : DF w0 w) (hc : Calls P f args w fun e w' => e = .returned v ∧ Stay (fun _ => False) w w') : Calls P f args w fun e w' => e = .returned v ∧ DF w0 w' := hc.mono fun _ _ ⟨h1, h2⟩ => ⟨h1, h.keep h2⟩
end
theorem products_walk (w : World) (a b : Nat) (ha : a < 256) (hb : b < 256) :
    Calls Try.prog 4 #[.int .u8 (a : Int), .int .u8 (b : Int)] w fun e w' => e = .returned (.bool true) ∧ Stay (fun _ => False) w w' := by
  have hx := xor_byte ha hb
  have HA := Lib.hid ha
  have HB := Lib.hid hb
  clear ha hb
  go_enter Try.func4, Try.ntmps4
  go_wp2_with fail
  refine (new_D w).mono ?_
  rintro e w1 ⟨rfl, h1⟩
  have H1 := Lib.hid h1
  clear h1
  go_wp2_with fail
  refine (mul_D H1.out a b HA.out HB.out).mono ?_
  rintro e w2 ⟨rfl, h2⟩
  have H2 := Lib.hid h2
  clear h2
  go_wp2_with fail
  refine (H2.out.same (rmul_any _ a b HA.out HB.out)).mono ?_
  rintro e w3 ⟨rfl, h3⟩
  have H3 := Lib.hid h3
  clear h3
  go_wp2_with fail
  refine (add_D H3.out a b HA.out HB.out).mono ?_
  rintro e w4 ⟨rfl, h4⟩
  have H4 := Lib.hid h4
  clear h4
  go_wp2_with fail
  refine (sure_D H4.out).mono ?_
  rintro e w5 ⟨rfl, h5⟩
  have H5 := Lib.hid h5
  clear h5
  go_wp2
  go_ret
  exact ⟨rfl, H5.out.s⟩

set_option maxHeartbeats 8000000 in
theorem field_walk (w : World) (a b c : Nat) (ha : a < 256) (hb : b < 256) (hc : c < 256) :
    Calls Try.prog 3 #[.int .u8 (a : Int), .int .u8 (b : Int), .int .u8 (c : Int)] w fun e w' => e = .returned (.bool true) ∧ Stay (fun _ => False) w w' := by
  have HA := Lib.hid ha
  have HB := Lib.hid hb
  have HC := Lib.hid hc
  clear ha hb hc
  by_cases h0 : a = 0
  · have e0 : ((a : Int) == 0) = true := by simp [h0]
    have HZ := Lib.hid (show mulN a b = 0 by rw [h0, zero_mulN])
    clear h0
    go_enter Try.func3, Try.ntmps3
    go_wp2_with fail
    refine (new_D w).mono ?_
    rintro e w1 ⟨rfl, h1⟩
    have H1 := Lib.hid h1
    clear h1
    go_wp2_with fail
    refine (mul_D H1.out a b HA.out HB.out).mono ?_
    rintro e w2 ⟨rfl, h2⟩
    have H2 := Lib.hid h2
    clear h2
    go_wp2_with fail
    refine (mul_D H2.out b a HB.out HA.out).mono ?_
    rintro e w3 ⟨rfl, h3⟩
    have H3 := Lib.hid h3
    clear h3
    rw [mulN_comm b a]
    go_wp2_with fail
    refine (mul_D H3.out b c HB.out HC.out).mono ?_
    rintro e w4 ⟨rfl, h4⟩
    have H4 := Lib.hid h4
    clear h4
    go_wp2_with fail
    refine (mul_D H4.out a (mulN b c) HA.out (mulN_lt b c)).mono ?_
    rintro e w5 ⟨rfl, h5⟩
    have H5 := Lib.hid h5
    clear h5
    rw [mulN_assoc]
    go_wp2_with fail
    refine (mul_D H5.out a b HA.out HB.out).mono ?_
    rintro e w6 ⟨rfl, h6⟩
    have H6 := Lib.hid h6
    clear h6
    go_wp2_with fail
    refine (mul_D H6.out (mulN a b) c (mulN_lt a b) HC.out).mono ?_
    rintro e w7 ⟨rfl, h7⟩
    have H7 := Lib.hid h7
    clear h7
    go_wp2_with fail
    refine (add_D H7.out b c HB.out HC.out).mono ?_
    rintro e w8 ⟨rfl, h8⟩
    have H8 := Lib.hid h8
    clear h8
    go_wp2_with fail
    refine (mul_D H8.out a (b ^^^ c) HA.out (xor_lt HB.out HC.out)).mono ?_
    rintro e w9 ⟨rfl, h9⟩
    have H9 := Lib.hid h9
    clear h9
    rw [mulN_xor HA.out HB.out HC.out]
    go_wp2_with fail
    refine (mul_D H9.out a b HA.out HB.out).mono ?_
    rintro e w10 ⟨rfl, h10⟩
    have H10 := Lib.hid h10
    clear h10
    go_wp2_with fail
    refine (mul_D H10.out a c HA.out HC.out).mono ?_
    rintro e w11 ⟨rfl, h11⟩
    have H11 := Lib.hid h11
    clear h11
    go_wp2_with fail
    refine (add_D H11.out (mulN a b) (mulN a c) (mulN_lt a b) (mulN_lt a c)).mono ?_
    rintro e w12 ⟨rfl, h12⟩
    have H12 := Lib.hid h12
    clear h12
    go_wp2_with fail
    refine (mul_D H12.out a 1 HA.out (by omega)).mono ?_
    rintro e w13 ⟨rfl, h13⟩
    have H13 := Lib.hid h13
    clear h13
    rw [mulN_one HA.out]
    go_wp2_with fail
    refine (add_D H13.out a a HA.out HA.out).mono ?_
    rintro e w14 ⟨rfl, h14⟩
    have H14 := Lib.hid h14
    clear h14
    rw [Nat.xor_self]
    go_wp2_with fail
    refine (mul_D H14.out a 0 HA.out (by omega)).mono ?_
    rintro e w15 ⟨rfl, h15⟩
    have H15 := Lib.hid h15
    clear h15
    rw [mulN_zero]
    go_wp2_with fail
    refine (mul_D H15.out a b HA.out HB.out).mono ?_
    rintro e w16 ⟨rfl, h16⟩
    have H16 := Lib.hid h16
    clear h16
    rw [HZ.out]
    go_wp2_with fail
    refine (sure_D H16.out).mono ?_
    rintro e w17 ⟨rfl, h17⟩
    have H17 := Lib.hid h17
    clear h17
    go_wp2
    go_ret
    exact ⟨rfl, H17.out.s⟩
  · have e0 : ((a : Int) == 0) = false := by simp; omega
    have H0 := Lib.hid h0
    clear h0
    by_cases h1 : b = 0
    · have e1 : ((b : Int) == 0) = true := by simp [h1]
      have HZ := Lib.hid (show mulN a b = 0 by rw [h1, mulN_zero])
      clear h1
      go_enter Try.func3, Try.ntmps3
      go_wp2_with fail
      refine (new_D w).mono ?_
      rintro e w1 ⟨rfl, h1⟩
      have H1 := Lib.hid h1
      clear h1
      go_wp2_with fail
      refine (mul_D H1.out a b HA.out HB.out).mono ?_
      rintro e w2 ⟨rfl, h2⟩
      have H2 := Lib.hid h2
      clear h2
      go_wp2_with fail
      refine (mul_D H2.out b a HB.out HA.out).mono ?_
      rintro e w3 ⟨rfl, h3⟩
      have H3 := Lib.hid h3
      clear h3
      rw [mulN_comm b a]
      go_wp2_with fail
      refine (mul_D H3.out b c HB.out HC.out).mono ?_
      rintro e w4 ⟨rfl, h4⟩
      have H4 := Lib.hid h4
      clear h4
      go_wp2_with fail
      refine (mul_D H4.out a (mulN b c) HA.out (mulN_lt b c)).mono ?_
      rintro e w5 ⟨rfl, h5⟩
      have H5 := Lib.hid h5
      clear h5
      rw [mulN_assoc]
      go_wp2_with fail
      refine (mul_D H5.out a b HA.out HB.out).mono ?_
      rintro e w6 ⟨rfl, h6⟩
      have H6 := Lib.hid h6
      clear h6
      go_wp2_with fail
      refine (mul_D H6.out (mulN a b) c (mulN_lt a b) HC.out).mono ?_
      rintro e w7 ⟨rfl, h7⟩
      have H7 := Lib.hid h7
      clear h7
      go_wp2_with fail
      refine (add_D H7.out b c HB.out HC.out).mono ?_
      rintro e w8 ⟨rfl, h8⟩
      have H8 := Lib.hid h8
      clear h8
      go_wp2_with fail
      refine (mul_D H8.out a (b ^^^ c) HA.out (xor_lt HB.out HC.out)).mono ?_
      rintro e w9 ⟨rfl, h9⟩
      have H9 := Lib.hid h9
      clear h9
      rw [mulN_xor HA.out HB.out HC.out]
      go_wp2_with fail
      refine (mul_D H9.out a b HA.out HB.out).mono ?_
      rintro e w10 ⟨rfl, h10⟩
      have H10 := Lib.hid h10
      clear h10
      go_wp2_with fail
      refine (mul_D H10.out a c HA.out HC.out).mono ?_
      rintro e w11 ⟨rfl, h11⟩
      have H11 := Lib.hid h11
      clear h11
      go_wp2_with fail
      refine (add_D H11.out (mulN a b) (mulN a c) (mulN_lt a b) (mulN_lt a c)).mono ?_
      rintro e w12 ⟨rfl, h12⟩
      have H12 := Lib.hid h12
      clear h12
      go_wp2_with fail
      refine (mul_D H12.out a 1 HA.out (by omega)).mono ?_
      rintro e w13 ⟨rfl, h13⟩
      have H13 := Lib.hid h13
      clear h13
      rw [mulN_one HA.out]
      go_wp2_with fail
      refine (add_D H13.out a a HA.out HA.out).mono ?_
      rintro e w14 ⟨rfl, h14⟩
      have H14 := Lib.hid h14
      clear h14
      rw [Nat.xor_self]
      go_wp2_with fail
      refine (mul_D H14.out a 0 HA.out (by omega)).mono ?_
      rintro e w15 ⟨rfl, h15⟩
      have H15 := Lib.hid h15
      clear h15
      rw [mulN_zero]
      go_wp2_with fail
      refine (mul_D H15.out a b HA.out HB.out).mono ?_
      rintro e w16 ⟨rfl, h16⟩
      have H16 := Lib.hid h16
      clear h16
      rw [HZ.out]
      go_wp2_with fail
      refine (sure_D H16.out).mono ?_
      rintro e w17 ⟨rfl, h17⟩
      have H17 := Lib.hid h17
      clear h17
      go_wp2
      go_ret
      exact ⟨rfl, H17.out.s⟩
    · have e1 : ((b : Int) == 0) = false := by simp; omega
      have HB0 := Lib.hid h1
      have hz := mulN_nz H0.out h1
      have e2 : ((mulN a b : Int) != 0) = true := by simp; omega
      have e3 : ((mulN a b : Int) == 0) = false := by simp; omega
      clear h1 hz
      go_enter Try.func3, Try.ntmps3
      go_wp2_with fail
      refine (new_D w).mono ?_
      rintro e w1 ⟨rfl, h1⟩
      have H1 := Lib.hid h1
      clear h1
      go_wp2_with fail
      refine (mul_D H1.out a b HA.out HB.out).mono ?_
      rintro e w2 ⟨rfl, h2⟩
      have H2 := Lib.hid h2
      clear h2
      go_wp2_with fail
      refine (mul_D H2.out b a HB.out HA.out).mono ?_
      rintro e w3 ⟨rfl, h3⟩
      have H3 := Lib.hid h3
      clear h3
      rw [mulN_comm b a]
      go_wp2_with fail
      refine (mul_D H3.out b c HB.out HC.out).mono ?_
      rintro e w4 ⟨rfl, h4⟩
      have H4 := Lib.hid h4
      clear h4
      go_wp2_with fail
      refine (mul_D H4.out a (mulN b c) HA.out (mulN_lt b c)).mono ?_
      rintro e w5 ⟨rfl, h5⟩
      have H5 := Lib.hid h5
      clear h5
      rw [mulN_assoc]
      go_wp2_with fail
      refine (mul_D H5.out a b HA.out HB.out).mono ?_
      rintro e w6 ⟨rfl, h6⟩
      have H6 := Lib.hid h6
      clear h6
      go_wp2_with fail
      refine (mul_D H6.out (mulN a b) c (mulN_lt a b) HC.out).mono ?_
      rintro e w7 ⟨rfl, h7⟩
      have H7 := Lib.hid h7
      clear h7
      go_wp2_with fail
      refine (add_D H7.out b c HB.out HC.out).mono ?_
      rintro e w8 ⟨rfl, h8⟩
      have H8 := Lib.hid h8
      clear h8
      go_wp2_with fail
      refine (mul_D H8.out a (b ^^^ c) HA.out (xor_lt HB.out HC.out)).mono ?_
      rintro e w9 ⟨rfl, h9⟩
      have H9 := Lib.hid h9
      clear h9
      rw [mulN_xor HA.out HB.out HC.out]
      go_wp2_with fail
      refine (mul_D H9.out a b HA.out HB.out).mono ?_
      rintro e w10 ⟨rfl, h10⟩
      have H10 := Lib.hid h10
      clear h10
      go_wp2_with fail
      refine (mul_D H10.out a c HA.out HC.out).mono ?_
      rintro e w11 ⟨rfl, h11⟩
      have H11 := Lib.hid h11
      clear h11
      go_wp2_with fail
      refine (add_D H11.out (mulN a b) (mulN a c) (mulN_lt a b) (mulN_lt a c)).mono ?_
      rintro e w12 ⟨rfl, h12⟩
      have H12 := Lib.hid h12
      clear h12
      go_wp2_with fail
      refine (mul_D H12.out a 1 HA.out (by omega)).mono ?_
      rintro e w13 ⟨rfl, h13⟩
      have H13 := Lib.hid h13
      clear h13
      rw [mulN_one HA.out]
      go_wp2_with fail
      refine (add_D H13.out a a HA.out HA.out).mono ?_
      rintro e w14 ⟨rfl, h14⟩
      have H14 := Lib.hid h14
      clear h14
      rw [Nat.xor_self]
      go_wp2_with fail
      refine (mul_D H14.out a 0 HA.out (by omega)).mono ?_
      rintro e w15 ⟨rfl, h15⟩
      have H15 := Lib.hid h15
      clear h15
      rw [mulN_zero]
      go_wp2_with fail
      refine (inv_D H15.out a H0.out HA.out).mono ?_
      rintro e w16 ⟨rfl, h16⟩
      have H16 := Lib.hid h16
      clear h16
      go_wp2_with fail
      refine (inv_D H16.out (invN a) (invN_nz a) (invN_lt a)).mono ?_
      rintro e w17 ⟨rfl, h17⟩
      have H17 := Lib.hid h17
      clear h17
      rw [inv_inv H0.out HA.out]
      go_wp2_with fail
      refine (mul_D H17.out a b HA.out HB.out).mono ?_
      rintro e w18 ⟨rfl, h18⟩
      have H18 := Lib.hid h18
      clear h18
      go_wp2_with fail
      refine (div_D H18.out (mulN a b) b (mulN_lt a b) HB0.out HB.out).mono ?_
      rintro e w19 ⟨rfl, h19⟩
      have H19 := Lib.hid h19
      clear h19
      rw [div_back HB0.out HA.out]
      go_wp2_with fail
      refine (mul_D H19.out a (invN a) HA.out (invN_lt a)).mono ?_
      rintro e w20 ⟨rfl, h20⟩
      have H20 := Lib.hid h20
      clear h20
      rw [mul_inv H0.out]
      go_wp2_with fail
      refine (mul_D H20.out a b HA.out HB.out).mono ?_
      rintro e w21 ⟨rfl, h21⟩
      have H21 := Lib.hid h21
      clear h21
      go_wp2_with fail
      refine (sure_D H21.out).mono ?_
      rintro e w22 ⟨rfl, h22⟩
      have H22 := Lib.hid h22
      clear h22
      go_wp2
      go_ret
      exact ⟨rfl, H22.out.s⟩

end Go.Proofs.Ytcjjdpncfgogiaa.Gf
