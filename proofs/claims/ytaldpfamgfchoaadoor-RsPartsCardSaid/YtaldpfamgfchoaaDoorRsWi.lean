/-
  RsParts, sizes that are refused, walked.
-/
import Derived.Test.YtaldpfamgfchoaaDoorRsWg
import Derived.Lib.SlBytesConst
namespace Go.Proofs.YtaldpfamgfchoaaDoor.Rs
open Go.RowKit Gf
set_option maxRecDepth 100000

set_option maxHeartbeats 1000000 in
theorem parts_bad (w : World) (K M : Int) (x y : Value) (hK : K ≤ 9223372036854775807) (hM : M ≤ 9223372036854775807) (hg : ErrCell w) (h : K < 1 ∨ M < 0 ∨ 32 - M < K) :
    Calls Tryd.prog 3 #[sizeV K M, x, y] w fun e w' => e = .returned (.bool true) ∧ Stay (fun _ => False) w w' := by
  unfold sizeV
  have H := Lib.hid h
  have HG := Lib.hid hg
  clear h hg
  go_enter Tryd.func3, Tryd.ntmps3
  go_wp2_with fail
  have hst : Stay (fun _ => False) w (w.alloc (.cells #[.int .i64 K, .int .i64 M] 23)) := Stay.alloc _ _
  have hsz := Sz.new w K M
  generalize w.alloc (.cells #[.int .i64 K, .int .i64 M] 23) = w0 at hst hsz ⊢
  obtain ⟨c0, c1⟩ := hsz
  have S0 := Lib.hid hst
  have HG0 := Lib.hid (HG.out.stay0 hst)
  clear hst
  refine (new_bad w0 K M hM H.out).mono ?_
  rintro e w1 ⟨rfl, e1⟩
  cases e1
  go_wp2_with fail
  refine (rnew_bad w0 K M hK H.out).mono ?_
  rintro e w2' ⟨rfl, s2⟩
  unfold codeV
  clear c0 c1
  go_wp2_with fail
  have s2 := s2.trans (Stay.alloc w2' (.cells #[.int .i64 0, .int .i64 0] 31))
  generalize w2'.alloc (.cells #[.int .i64 0, .int .i64 0] 31) = w2 at s2 ⊢
  have S2 := Lib.hid s2
  clear s2
  refine (num_errno 1 w2 (HG0.out.stay0 S2.out)).mono ?_
  rintro e w3 ⟨rfl, s3⟩
  have S3 := Lib.hid s3
  clear s3
  go_wp2_with fail
  refine (encode_nil w3 _).mono ?_
  rintro e w4 ⟨rfl, e4⟩
  cases e4
  go_wp2_with fail
  refine (decode_nil w3 _ _).mono ?_
  rintro e w4 ⟨rfl, e4⟩
  cases e4
  go_wp2_with fail
  refine (row_nil w3 _).mono ?_
  rintro e w4 ⟨rfl, e4⟩
  cases e4
  go_wp2_with fail
  refine (join_nil w3 _ _).mono ?_
  rintro e w4 ⟨rfl, e4⟩
  cases e4
  have HG3 := Lib.hid ((HG0.out.stay0 S2.out).stay0 S3.out)
  go_wp2_with fail
  refine (num_errno 1 w3 HG3.out).mono ?_
  rintro e w4 ⟨rfl, s4⟩
  have S4 := Lib.hid s4
  clear s4
  go_wp2_with fail
  refine (num_errno 1 w4 (HG3.out.stay0 S4.out)).mono ?_
  rintro e w5 ⟨rfl, s5⟩
  have S5 := Lib.hid (S4.out.trans s5)
  clear s5
  go_wp2_with fail
  refine (num_errno 1 w5 (HG3.out.stay0 S5.out)).mono ?_
  rintro e w6 ⟨rfl, s6⟩
  have S6 := Lib.hid (S5.out.trans s6)
  clear s6
  go_wp2_with fail
  refine (num_errno 1 w6 (HG3.out.stay0 S6.out)).mono ?_
  rintro e w7 ⟨rfl, s7⟩
  have S7 := Lib.hid (S6.out.trans s7)
  clear s7
  go_wp2_with fail
  refine (data_nil w7).mono ?_
  rintro e w8 ⟨rfl, e8⟩
  cases e8
  go_wp2_with fail
  refine (parity_nil w7).mono ?_
  rintro e w8 ⟨rfl, e8⟩
  cases e8
  have kc := fun (w : World) (C : Array Value) (n c : Nat) => Lib.run_convert_bytes_const (P := Tryd.prog) w 38 5 C n c Tryd.underlying38 Tryd.underlying5
  go_wp2_with fail
  clear kc
  refine (split_nil _ _).mono ?_
  rintro e w8 ⟨rfl, e8⟩
  cases e8
  have s8 := Stay.alloc (X := fun _ => False) w7 (.cells #[.int .u8 97] 5 (1, 2))
  generalize w7.alloc (.cells #[.int .u8 97] 5 (1, 2)) = w8 at s8 ⊢
  have S8 := Lib.hid s8
  clear s8
  go_wp2_with fail
  refine (sure_any w8).mono ?_
  rintro e w9 ⟨rfl, s9⟩
  have S9 := Lib.hid s9
  clear s9
  go_wp2
  try go_ret
  exact ⟨rfl, (((S0.out.trans S2.out).trans S3.out).trans S7.out).trans (S8.out.trans S9.out)⟩
end Go.Proofs.YtaldpfamgfchoaaDoor.Rs
