/-
  delta's laws: DeltaMatches, walked.
-/
import Derived.Test.YtnlknnhibnfhcaaDeM
import Derived.Test.YtnlknnhibnfhcaaDeW
namespace Go.Proofs.Ytnlknnhibnfhcaa.De
open Go.RowKit Pk
set_option maxRecDepth 100000

set_option maxHeartbeats 2000000 in
theorem matches_walk (w : World) (a b : List UInt8) (z : Int) (ha : a.length = 64) (hb : b.length = 64) (z1 : -9223372036854775808 ≤ z) (z2 : z ≤ 9223372036854775807) :
    Calls Try.prog 6 #[arrV a, arrV b, .int .i64 z] w fun e w' => e = .returned (.bool true) ∧ Stay (fun _ => False) w w' := by
  have H1 := Lib.hid ((BAt.new w 23 a).stay0 (Stay.alloc _ (.cells (cellsB b).toArray 23)))
  have H2 := Lib.hid (BAt.new (w.alloc (.cells (cellsB a).toArray 23)) 23 b)
  have HS := Lib.hid ((Stay.alloc (X := fun _ => False) w (.cells (cellsB a).toArray 23)).trans (Stay.alloc _ (.cells (cellsB b).toArray 23)))
  have HA := Lib.hid ha
  have HB := Lib.hid hb
  clear ha hb
  unfold arrV
  go_enter Try.func6, Try.ntmps6
  go_wp2_with (first
    | (refine arr_64.load rfl (.tmp 3) rfl w.heap.size rfl a HA.out H1.out ?_)
    | (refine arr_64.load rfl (.tmp 4) rfl (w.heap.size + 1) rfl b HB.out (by simpa using H2.out) ?_))
  have H2' := H2.out
  rw [show (w.alloc (.cells (cellsB a).toArray 23)).heap.size = w.heap.size + 1 by simp] at H2'
  obtain ⟨w0, hw0⟩ : ∃ w0, (w.alloc (.cells (cellsB a).toArray 23)).alloc (.cells (cellsB b).toArray 23) = w0 := ⟨_, rfl⟩
  rw [hw0] at H1 HS H2' ⊢
  have K1 := Lib.hid H1.out
  have K2 := Lib.hid H2'
  clear H1 H2 H2' hw0
  refine (match_any w0 a b z HA.out HB.out).mono ?_
  rintro e w1 ⟨rfl, hs1⟩
  have K11 := Lib.hid (K1.out.stay0 hs1)
  have K21 := Lib.hid (K2.out.stay0 hs1)
  have HS1 := Lib.hid (HS.out.trans hs1)
  have HC := Lib.hid (rmatch_any w1 a b z HA.out HB.out z1 z2)
  clear hs1
  generalize matchN a b z = M at *
  obtain ⟨f, n⟩ := M
  unfold natV
  go_wp2_with (first
    | (refine arr_64.load rfl (.tmp 3) rfl w.heap.size rfl a HA.out K11.out ?_)
    | (refine arr_64.load rfl (.tmp 4) rfl (w.heap.size + 1) rfl b HB.out K21.out ?_))
  refine HC.out.mono ?_
  rintro e w2 ⟨rfl, hs2⟩
  have HS2 := Lib.hid (HS1.out.trans hs2)
  clear hs2
  unfold natV
  have e1 : ((f : Int) == (f : Int)) = true := beq_self_eq_true _
  have e2 : ((n : Int) == (n : Int)) = true := beq_self_eq_true _
  go_wp2_with fail
  refine (sure_any _).mono ?_
  rintro e w6 ⟨rfl, hs6⟩
  go_wp2
  go_ret
  exact ⟨rfl, HS2.out.trans hs6⟩
end Go.Proofs.Ytnlknnhibnfhcaa.De
