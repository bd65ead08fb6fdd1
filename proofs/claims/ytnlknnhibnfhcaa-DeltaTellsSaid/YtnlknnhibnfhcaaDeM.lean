/-
  The document's answer (chapter 10): a match.
-/
import Derived.Test.YtnlknnhibnfhcaaDeC
import Derived.Test.YtnlknnhibnfhcaaDeJ
namespace Go.Proofs.Ytnlknnhibnfhcaa.De
open Go.RowKit Pk
set_option maxRecDepth 100000

theorem part_slc {w : World} {g : Nat} {ty : TypeId} {b : List UInt8} (h : BAt w g ty b) (hb : b.length = 64) {i n : Nat} (hi : i + n ≤ 64) : Slc w (.slice (some ⟨g, i, none⟩) n (64 - i)) ((b.drop i).take n) :=
  h.part (by rw [hb]; omega) (by omega) (by omega)

set_option maxHeartbeats 4000000 in
theorem rmatch_any (w : World) (a b : List UInt8) (z : Int) (ha : a.length = 64) (hb : b.length = 64) (z1 : -9223372036854775808 ≤ z) (z2 : z ≤ 9223372036854775807) :
    Calls Try.prog 8 #[arrV a, arrV b, .int .i64 z] w fun e w' => e = .returned (.tuple #[natV (matchN a b z).1, natV (matchN a b z).2]) ∧ Stay (fun _ => False) w w' := by
  have H1 := Lib.hid ((BAt.new w 23 a).stay0 (Stay.alloc _ (.cells (cellsB b).toArray 23)))
  have H2 := Lib.hid (BAt.new (w.alloc (.cells (cellsB a).toArray 23)) 23 b)
  have HS := Lib.hid ((Stay.alloc (X := fun _ => False) w (.cells (cellsB a).toArray 23)).trans (Stay.alloc _ (.cells (cellsB b).toArray 23)))
  have HA := Lib.hid ha
  have HB := Lib.hid hb
  obtain ⟨M, hM⟩ : ∃ M, M = matchN a b z := ⟨_, rfl⟩
  rw [← hM]
  have HM := Lib.hid hM
  clear hM ha hb
  unfold arrV natV
  by_cases hz0 : z < 0
  · have HE := Lib.hid (show M = (0, 0) by rw [HM.out]; exact if_pos (.inl hz0))
    go_enter Try.func8, Try.ntmps8
    go_wp2
    go_ret2
    rw [HE.out]
    exact ⟨rfl, HS.out⟩
  · by_cases hz1 : 63 < z
    · have HE := Lib.hid (show M = (0, 0) by rw [HM.out]; exact if_pos (.inr (by omega)))
      go_enter Try.func8, Try.ntmps8
      go_wp2
      go_ret2
      rw [HE.out]
      exact ⟨rfl, HS.out⟩
    · obtain ⟨p, rfl⟩ : ∃ p : Nat, z = (p : Int) := ⟨z.toNat, by omega⟩
      have HE := Lib.hid (show M = bestN a (b.drop p) 64 by rw [HM.out]; unfold matchN; rw [if_neg (by omega)]; rfl)
      have hp : p < 64 := by omega
      have H2' := H2.out
      rw [show (w.alloc (.cells (cellsB a).toArray 23)).heap.size = w.heap.size + 1 by simp] at H2'
      go_enter Try.func8, Try.ntmps8
      go_wp2
      obtain ⟨w0, hw0⟩ : ∃ w0, (w.alloc (.cells (cellsB a).toArray 23)).alloc (.cells (cellsB b).toArray 23) = w0 := ⟨_, rfl⟩
      rw [hw0] at H1 HS H2' ⊢
      have K1 := Lib.hid H1.out
      have K2 := Lib.hid H2'
      clear H1 H2 H2' hw0
      go_loopw [8] (fun n wr => ∃ m : Nat, m ≤ 64 - p ∧ n = .int .i64 (m : Int) ∧ (∀ j, j < 64 → alikeN (a.drop j) (b.drop p) ≤ m) ∧ BAt wr w.heap.size 23 a ∧ BAt wr (w.heap.size + 1) 23 b ∧ Stay (fun _ => False) w wr) (fun n _ => (intOf n).toNat)
      case atStart => exact ⟨64 - p, Nat.le_refl _, by go_num, fun j _ => by have := (alikeN_le (a.drop j) (b.drop p)).2; rw [List.length_drop, HB.out] at this; exact this, K1.out, K2.out, HS.out⟩
      case round =>
        obtain ⟨m, hm, rfl, hmax, h1, h2, hst⟩ := hrel
        have HMX := Lib.hid hmax
        have HT := Lib.hid hst
        have J1 := Lib.hid h1
        have J2 := Lib.hid h2
        clear hmax hst h1 h2
        by_cases hm0 : 0 < m
        · go_wp2
          obtain ⟨wo, hwo⟩ : ∃ wo, wo = wr := ⟨_, rfl⟩
          rw [← hwo] at J1 J2 HT ⊢
          go_loopw [9] (fun i wi => ∃ k : Nat, k ≤ 64 ∧ i = .int .i64 (k : Int) ∧ (∀ j, j < k → alikeN (a.drop j) (b.drop p) < m) ∧ BAt wi w.heap.size 23 a ∧ BAt wi (w.heap.size + 1) 23 b ∧ Stay (fun _ => False) w wi) (fun i _ => 64 - (intOf i).toNat)
          case atStart => exact ⟨0, by omega, rfl, fun j h => by omega, J1.out, J2.out, HT.out⟩
          case round =>
            obtain ⟨k, hk, rfl, hlt, h1, h2, hst⟩ := hrel
            have HLT := Lib.hid hlt
            have I1 := Lib.hid h1
            have I2 := Lib.hid h2
            have IT := Lib.hid hst
            clear hlt h1 h2 hst
            by_cases hfit : k + m ≤ 64
            · have hfit' : (k : Int) + (m : Int) ≤ 64 := by omega
              obtain ⟨D, hDd⟩ : ∃ D : World → Prop, D = Stay (fun _ => False) wr := ⟨_, rfl⟩
              have HD := Lib.hid (show ∀ W, D W → Stay (fun _ => False) wr W by intro W h; rw [hDd] at h; exact h)
              have HDm := Lib.hid (show ∀ W, Stay (fun _ => False) wr W → D W by intro W h; rw [hDd]; exact h)
              clear hDd
              have HN0 := Lib.hid (HDm.out wr.drew Stay.drew)
              haveI : Nonempty (InC D) := ⟨⟨_, HN0.out⟩⟩
              have k1 := fun q : InC D => run_partN q.w w.heap.size k m hm0 hfit
              have k2 := fun q : InC D => run_partN q.w (w.heap.size + 1) p m hm0 (by omega)
              have HX := Lib.hid (show ((a.drop k).take m).length = m by rw [List.length_take, List.length_drop, HA.out]; omega)
              have HY := Lib.hid (show ((b.drop p).take m).length = m by rw [List.length_take, List.length_drop, HB.out]; omega)
              have HEQ := Lib.hid (alikeN_take (n := m) (a := a.drop k) (b := b.drop p) (by rw [List.length_drop, HA.out]; omega) (by rw [List.length_drop, HB.out]; omega))
              have c1 := fun q : InC D => conv_slc (part_slc (I1.out.stay0 (HD.out _ q.h)) HA.out hfit)
              have c2 := fun q : InC D => conv_slc (part_slc (I2.out.stay0 (HD.out _ q.h)) HB.out (show p + m ≤ 64 by omega))
              unfold strV at c1 c2
              generalize (a.drop k).take m = X at *
              generalize (b.drop p).take m = Y at *
              go_wp2
              refine wp_region_class D HN0.out (by kernel_rfl) (by kernel_rfl) ?_
              try go_frame
              repeat (go_big_quiet_step (fail))
              refine wpQuiet_nil ?_
              rintro W ⟨q, rfl⟩
              have hs := HD.out _ q.h
              clear k1 k2 c1 c2
              generalize q.w = w9 at *
              generalize hq : (X == Y) = t
              cases t
              rotate_left
              · have hxy : X = Y := beq_iff_eq.1 hq
                have hge := HEQ.out.1 hxy
                have HF := Lib.hid (show M = (k, m) by rw [HE.out]; exact best_found hm0 (by have := alikeN_le (a.drop k) (b.drop p); rw [List.length_drop, HA.out] at this; omega) HMX.out hge HLT.out)
                clear hxy hq
                go_wp2
                go_ret2
                rw [HF.out]
                exact ⟨rfl, IT.out.trans hs⟩
              · have hxy : ¬ X = Y := beq_eq_false_iff_ne.1 hq
                have hlt2 : alikeN (a.drop k) (b.drop p) < m := by
                  rcases Nat.lt_or_ge (alikeN (a.drop k) (b.drop p)) m with h | h
                  · exact h
                  · exact absurd (HEQ.out.2 h) hxy
                have HL2 := Lib.hid hlt2
                clear hxy hlt2 hq
                go_wp2
                refine ⟨⟨k + 1, by omega, by go_num, fun j hj => ?_, I1.out.stay0 hs, I2.out.stay0 hs, IT.out.trans hs⟩, by simp [intOf]; omega⟩
                by_cases e : j = k
                · subst e; exact HL2.out
                · exact HLT.out j (by omega)
            · have hfit' : ¬ ((k : Int) + (m : Int) ≤ 64) := by omega
              go_wp2
              refine ⟨⟨m - 1, by omega, by go_num, fun j hj => ?_, I1.out, I2.out, IT.out⟩, by simp [intOf]; omega⟩
              by_cases e : j < k
              · have := HLT.out j e
                omega
              · have := (alikeN_le (a.drop j) (b.drop p)).1
                rw [List.length_drop, HA.out] at this
                omega
        · obtain rfl : m = 0 := by omega
          have HF := Lib.hid (show M = (0, 0) by rw [HE.out]; exact best_none (fun j hj => by have := HMX.out j hj; omega))
          go_wp2
          go_ret2
          rw [HF.out]
          exact ⟨rfl, HT.out⟩
end Go.Proofs.Ytnlknnhibnfhcaa.De
