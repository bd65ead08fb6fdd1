/-
  gf's laws of the door, walked: GfInverses, GfExponents, GfPowers, GfReckons.
-/
import Derived.Test.YtcjjdpncfgogiaaDoorGfE
import Derived.Test.YtcjjdpncfgogiaaDoorNum
namespace Go.Proofs.YtcjjdpncfgogiaaDoor.Gf
open Go.RowKit
set_option maxRecDepth 100000

section
variable {w0 w : World} {P : Program} {f : FuncId} {args : Array Value} {v : Value}
theorem DF.same (h : DF w0 w) (hc : Calls P f args w fun e w' => e = .returned v ∧ w' = w) : Calls P f args w fun e w' => e = .returned v ∧ DF w0 w' := hc.mono fun _ _ ⟨h1, h2⟩ => ⟨h1, h2 ▸ h⟩
theorem DF.keeps (h : DF w0 w) (hc : Calls P f args w fun e w' => e = .returned v ∧ Stay (fun _ => False) w w') : Calls P f args w fun e w' => e = .returned v ∧ DF w0 w' := hc.mono fun _ _ ⟨h1, h2⟩ => ⟨h1, h.keep h2⟩
end
theorem num_D {w0 w : World} (h : DF w0 w) (he : ErrCell w0) : Calls Tryd.prog 17 #[.iface 64 (.int .i64 14)] w fun e w' => e = .returned (.int .i64 14) ∧ DF w0 w' := h.keeps (num_errno 14 w (h.s.cell he (fun x => x)))
theorem numN_D {w0 w : World} (h : DF w0 w) : Calls Tryd.prog 17 #[.nilIface] w fun e w' => e = .returned (.int .i64 0) ∧ DF w0 w' := h.keeps (num_nil w)

set_option maxHeartbeats 2000000 in
theorem inverses_walk (w : World) (a b : Nat) (ha : a < 256) (hb : b < 256) (he : ErrCell w) :
    Calls Tryd.prog 5 #[.int .u8 (a : Int), .int .u8 (b : Int)] w fun e w' => e = .returned (.bool true) ∧ Stay (fun _ => False) w w' := by
  have HA := Lib.hid ha
  have HB := Lib.hid hb
  have HE := Lib.hid he
  clear ha hb he
  by_cases h0 : a = 0
  · subst h0
    go_enter Tryd.func5, Tryd.ntmps5
    go_wp2_with fail
    refine (new_D w).mono ?_
    rintro e w1 ⟨rfl, h1⟩
    have H1 := Lib.hid h1
    clear h1
    go_wp2_with fail
    refine (inv_Z H1.out).mono ?_
    rintro e w2 ⟨rfl, h2⟩
    have H2 := Lib.hid h2
    clear h2
    go_wp2_with fail
    refine (H2.out.same (rinv_zero _)).mono ?_
    rintro e w3 ⟨rfl, h3⟩
    have H3 := Lib.hid h3
    clear h3
    go_wp2_with fail
    refine (div_Z H3.out b).mono ?_
    rintro e w4 ⟨rfl, h4⟩
    have H4 := Lib.hid h4
    clear h4
    go_wp2_with fail
    refine (H4.out.same (rdiv_zero _ b HB.out)).mono ?_
    rintro e w5 ⟨rfl, h5⟩
    have H5 := Lib.hid h5
    clear h5
    go_wp2_with fail
    refine (num_D H5.out HE.out).mono ?_
    rintro e w6 ⟨rfl, h6⟩
    have H6 := Lib.hid h6
    clear h6
    go_wp2_with fail
    refine (num_D H6.out HE.out).mono ?_
    rintro e w7 ⟨rfl, h7⟩
    have H7 := Lib.hid h7
    clear h7
    go_wp2_with fail
    refine (sure_D H7.out).mono ?_
    rintro e w8 ⟨rfl, h8⟩
    have H8 := Lib.hid h8
    clear h8
    go_wp2
    go_ret
    exact ⟨rfl, H8.out.s⟩
  · have H0 := Lib.hid h0
    clear h0
    go_enter Tryd.func5, Tryd.ntmps5
    go_wp2_with fail
    refine (new_D w).mono ?_
    rintro e w1 ⟨rfl, h1⟩
    have H1 := Lib.hid h1
    clear h1
    go_wp2_with fail
    refine (inv_D H1.out a H0.out HA.out).mono ?_
    rintro e w2 ⟨rfl, h2⟩
    have H2 := Lib.hid h2
    clear h2
    go_wp2_with fail
    refine (H2.out.same (rinv_any _ a H0.out HA.out)).mono ?_
    rintro e w3 ⟨rfl, h3⟩
    have H3 := Lib.hid h3
    clear h3
    go_wp2_with fail
    refine (div_D H3.out b a HB.out H0.out HA.out).mono ?_
    rintro e w4 ⟨rfl, h4⟩
    have H4 := Lib.hid h4
    clear h4
    go_wp2_with fail
    refine (H4.out.same (rdiv_any _ b a HB.out H0.out HA.out)).mono ?_
    rintro e w5 ⟨rfl, h5⟩
    have H5 := Lib.hid h5
    clear h5
    go_wp2_with fail
    refine (numN_D H5.out).mono ?_
    rintro e w6 ⟨rfl, h6⟩
    have H6 := Lib.hid h6
    clear h6
    go_wp2_with fail
    refine (numN_D H6.out).mono ?_
    rintro e w7 ⟨rfl, h7⟩
    have H7 := Lib.hid h7
    clear h7
    go_wp2_with fail
    refine (sure_D H7.out).mono ?_
    rintro e w8 ⟨rfl, h8⟩
    have H8 := Lib.hid h8
    clear h8
    go_wp2
    go_ret
    exact ⟨rfl, H8.out.s⟩

set_option maxHeartbeats 2000000 in
theorem exponents_walk (w : World) (a : Nat) (n : Int) (ha : a < 256) (he : ErrCell w) :
    Calls Tryd.prog 6 #[.int .u8 (a : Int), .int .i64 n] w fun e w' => e = .returned (.bool true) ∧ Stay (fun _ => False) w w' := by
  have HA := Lib.hid ha
  have HE := Lib.hid he
  clear ha he
  by_cases h0 : a = 0
  · subst h0
    go_enter Tryd.func6, Tryd.ntmps6
    go_wp2_with fail
    refine (new_D w).mono ?_
    rintro e w1 ⟨rfl, h1⟩
    have H1 := Lib.hid h1
    clear h1
    go_wp2_with fail
    refine (log_Z H1.out).mono ?_
    rintro e w2 ⟨rfl, h2⟩
    have H2 := Lib.hid h2
    clear h2
    go_wp2_with fail
    refine (H2.out.same (rlog_zero _)).mono ?_
    rintro e w3 ⟨rfl, h3⟩
    have H3 := Lib.hid h3
    clear h3
    go_wp2_with fail
    refine (exp_D H3.out n).mono ?_
    rintro e w4 ⟨rfl, h4⟩
    have H4 := Lib.hid h4
    clear h4
    go_wp2_with fail
    refine (H4.out.same (rexp_any _ n)).mono ?_
    rintro e w5 ⟨rfl, h5⟩
    have H5 := Lib.hid h5
    clear h5
    go_wp2_with fail
    refine (pow_D H5.out 0 n HA.out).mono ?_
    rintro e w6 ⟨rfl, h6⟩
    have H6 := Lib.hid h6
    clear h6
    go_wp2_with fail
    refine (H6.out.same (rpow_any _ 0 n HA.out)).mono ?_
    rintro e w7 ⟨rfl, h7⟩
    have H7 := Lib.hid h7
    clear h7
    go_wp2_with fail
    refine (num_D H7.out HE.out).mono ?_
    rintro e w8 ⟨rfl, h8⟩
    have H8 := Lib.hid h8
    clear h8
    go_wp2_with fail
    refine (sure_D H8.out).mono ?_
    rintro e w9 ⟨rfl, h9⟩
    have H9 := Lib.hid h9
    clear h9
    go_wp2
    go_ret
    exact ⟨rfl, H9.out.s⟩
  · have H0 := Lib.hid h0
    clear h0
    go_enter Tryd.func6, Tryd.ntmps6
    go_wp2_with fail
    refine (new_D w).mono ?_
    rintro e w1 ⟨rfl, h1⟩
    have H1 := Lib.hid h1
    clear h1
    go_wp2_with fail
    refine (log_D H1.out a H0.out HA.out).mono ?_
    rintro e w2 ⟨rfl, h2⟩
    have H2 := Lib.hid h2
    clear h2
    go_wp2_with fail
    refine (H2.out.same (rlog_any _ a H0.out HA.out)).mono ?_
    rintro e w3 ⟨rfl, h3⟩
    have H3 := Lib.hid h3
    clear h3
    go_wp2_with fail
    refine (exp_D H3.out n).mono ?_
    rintro e w4 ⟨rfl, h4⟩
    have H4 := Lib.hid h4
    clear h4
    go_wp2_with fail
    refine (H4.out.same (rexp_any _ n)).mono ?_
    rintro e w5 ⟨rfl, h5⟩
    have H5 := Lib.hid h5
    clear h5
    go_wp2_with fail
    refine (pow_D H5.out a n HA.out).mono ?_
    rintro e w6 ⟨rfl, h6⟩
    have H6 := Lib.hid h6
    clear h6
    go_wp2_with fail
    refine (H6.out.same (rpow_any _ a n HA.out)).mono ?_
    rintro e w7 ⟨rfl, h7⟩
    have H7 := Lib.hid h7
    clear h7
    go_wp2_with fail
    refine (numN_D H7.out).mono ?_
    rintro e w8 ⟨rfl, h8⟩
    have H8 := Lib.hid h8
    clear h8
    go_wp2_with fail
    refine (sure_D H8.out).mono ?_
    rintro e w9 ⟨rfl, h9⟩
    have H9 := Lib.hid h9
    clear h9
    go_wp2
    go_ret
    exact ⟨rfl, H9.out.s⟩

end Go.Proofs.YtcjjdpncfgogiaaDoor.Gf
