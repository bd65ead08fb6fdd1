/-
  RsAny, walked: a long text.
-/
import Derived.Test.YtaldpfamgfchoabRsVa
namespace Go.Proofs.Ytaldpfamgfchoab.Rs
open Go.RowKit Gf
set_option maxRecDepth 100000

set_option maxHeartbeats 1000000 in
theorem any_long (w : World) (K M : Int) (ta : Option Addr) (lt tc : Nat) (p0 p1 : Value) (hl : 1000 < lt) :
    Calls Try.prog 3 #[sizeV K M, .slice ta lt tc, .agg #[p0, p1]] w fun e w' => e = .returned (.bool true) ∧ Stay (fun _ => False) w w' := by
  unfold sizeV
  obtain ⟨kk, hkk, ek⟩ := mod_nat K 5 (by decide)
  obtain ⟨m, hm, em⟩ := mod_nat M 5 (by decide)
  have ek : (IntKind.u64.wrap K).tmod 5 = (kk : Int) := ek
  have em : (IntKind.u64.wrap M).tmod 5 = (m : Int) := em
  have EK := Lib.hid ek
  have EM := Lib.hid em
  clear ek em
  have ql : (1000 : Int) < (lt : Int) := by omega
  go_enter Try.func3, Try.ntmps3
  go_wp2
  have hst : Stay (fun _ => False) w ((w.alloc (.cells #[.int .i64 K, .int .i64 M] 23)).alloc (.cells #[p0, p1] 26)) := (Stay.alloc _ _).trans (Stay.alloc _ _)
  have hsz := (Sz.new w K M).stay0 (Stay.alloc (X := fun _ => False) _ (.cells #[p0, p1] 26))
  generalize ((w.alloc (.cells #[.int .i64 K, .int .i64 M] 23)).alloc (.cells #[p0, p1] 26)) = w0 at hst hsz ⊢
  obtain ⟨k0, k1⟩ := hsz.stay0 (Stay.drew (X := fun _ => False))
  go_region_held3 (fun W => W.cell? ⟨w.heap.size, 0, none⟩ = some (.int .i64 K) ∧ W.cell? ⟨w.heap.size, 1, none⟩ = some (.int .i64 M)) (first | exact ⟨k0, k1⟩ | go_keep) (fail)
  rw [EK.out, EM.out, wrap_small (kk : Int) (by omega) (by omega), wrap_small (1 + (kk : Int)) (by omega) (by omega), wrap_small (m : Int) (by omega) (by omega)]
  obtain ⟨k, hk⟩ : ∃ k : Nat, k = 1 + kk := ⟨_, rfl⟩
  rw [show 1 + (kk : Int) = (k : Int) from by omega]
  have hst := hst.trans (Stay.drew (X := fun _ => False))
  generalize w0.drew = w1 at hst ⊢
  have S1 := Lib.hid hst
  have HK := Lib.hid (show 1 ≤ k ∧ k + m ≤ 32 from by omega)
  clear hst hk hkk hm k0 k1 hsz
  go_wp2_with fail
  refine (new_good w1 k m HK.out.1 HK.out.2).mono ?_
  rintro e w2 ⟨c, rfl, _, _, s2⟩
  have S2 := Lib.hid s2
  clear s2
  go_wp2_with fail
  refine (sure_any w2).mono ?_
  rintro e w3 ⟨rfl, s3⟩
  have S3 := Lib.hid s3
  clear s3
  go_wp2
  try go_ret
  exact ⟨rfl, (S1.out.trans S2.out).trans S3.out⟩
end Go.Proofs.Ytaldpfamgfchoab.Rs
