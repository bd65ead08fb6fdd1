/-
  delta: a match.
-/
import Derived.Test.YtnlknnhibnfhcaaDoorDeB
namespace Go.Proofs.YtnlknnhibnfhcaaDoor.De
open Go.RowKit Pk
set_option maxRecDepth 100000

/-- A block from a place on, as a slice. -/
theorem run_from (w : World) (g i : Nat) (hi : i < 64) :
    (Instr.sliceAt 23 (.pointer (some ⟨g, 0, none⟩)) (some (.int .i64 (i : Int))) none none).run Tryd.prog w = .ok (.slice (some ⟨g, i, none⟩) (64 - i) (64 - i)) w := by
  rw [run_sliceAt_array_l w 23 ⟨g, 0, none⟩ under_64 .i64 (i : Int) (by omega) (by rw [len_64]; omega), size_64, len_64]
  have e1 : ((i : Int)).toNat = i := by omega
  simp only [Result.andThen, slicedAt, e1, Nat.mul_one]
  rw [if_neg (by omega), add_at, Nat.zero_add]

def natV (n : Nat) : Value := .int .i64 (n : Int)
theorem natV_is (n : Nat) : Value.int .i64 (n : Int) = natV n := rfl

set_option maxHeartbeats 2000000 in
theorem match_any (w : World) (a b : List UInt8) (z : Int) (ha : a.length = 64) (hb : b.length = 64) :
    Calls Tryd.prog 37 #[arrV a, arrV b, .int .i64 z] w fun e w' => e = .returned (.tuple #[natV (matchN a b z).1, natV (matchN a b z).2]) ∧ Stay (fun _ => False) w w' := by
  have H1 := Lib.hid ((BAt.new w 23 a).stay0 (Stay.alloc _ (.cells (cellsB b).toArray 23)))
  have H2 := Lib.hid (BAt.new (w.alloc (.cells (cellsB a).toArray 23)) 23 b)
  have HS := Lib.hid ((Stay.alloc (X := fun _ => False) w (.cells (cellsB a).toArray 23)).trans (Stay.alloc _ (.cells (cellsB b).toArray 23)))
  have HA := Lib.hid ha
  have HB := Lib.hid hb
  obtain ⟨M, hM⟩ : ∃ M, M = matchN a b z := ⟨_, rfl⟩
  rw [← hM]
  have HM := Lib.hid hM
  clear hM ha hb
  unfold arrV natV
  by_cases hz0 : z < 0
  · have HE := Lib.hid (show M = (0, 0) by rw [HM.out]; exact if_pos (.inl hz0))
    go_enter Tryd.func37, Tryd.ntmps37
    go_wp2
    go_ret2
    rw [HE.out]
    exact ⟨rfl, HS.out⟩
  · by_cases hz1 : 64 ≤ z
    · have HE := Lib.hid (show M = (0, 0) by rw [HM.out]; exact if_pos (.inr hz1))
      go_enter Tryd.func37, Tryd.ntmps37
      go_wp2
      go_ret2
      rw [HE.out]
      exact ⟨rfl, HS.out⟩
    · obtain ⟨p, rfl⟩ : ∃ p : Nat, z = (p : Int) := ⟨z.toNat, by omega⟩
      have HE := Lib.hid (show M = bestN a (b.drop p) 64 by rw [HM.out]; unfold matchN; rw [if_neg (by omega)]; rfl)
      have hp : p < 64 := by omega
      go_enter Tryd.func37, Tryd.ntmps37
      go_wp2
      obtain ⟨w2, hw2⟩ : ∃ w2, (w.alloc (.cells (cellsB a).toArray 23)).alloc (.cells (cellsB b).toArray 23) = w2 := ⟨_, rfl⟩
      go_loopw [8, 9, 18] (fun f n i wr => ∃ k : Nat, k ≤ 64 ∧ i = .int .i64 (k : Int) ∧ f = .int .i64 ((bestN a (b.drop p) k).1 : Int) ∧ n = .int .i64 ((bestN a (b.drop p) k).2 : Int) ∧ BAt wr w.heap.size 23 a ∧ BAt wr (w.heap.size + 1) 23 b ∧ Stay (fun _ => False) w wr) (fun _ _ i _ => 64 - (intOf i).toNat)
      case atStart => exact ⟨0, by omega, rfl, rfl, rfl, H1.out, by simpa using H2.out, HS.out⟩
      case round =>
        obtain ⟨k, hk, rfl, rfl, rfl, h1, h2, hst⟩ := hrel
        have K1 := Lib.hid h1
        have K2 := Lib.hid h2
        have HT := Lib.hid hst
        clear h1 h2 hst
        by_cases hlt : k < 64
        · have HN := Lib.hid (show bestN a (b.drop p) (k + 1) = if (bestN a (b.drop p) k).2 < alikeN (a.drop k) (b.drop p) then (k, alikeN (a.drop k) (b.drop p)) else bestN a (b.drop p) k from rfl)
          have hle := (alikeN_le (a.drop k) (b.drop p)).1
          rw [List.length_drop, HA.out] at hle
          have hbl := best_le a (b.drop p) k
          rw [List.length_drop, HA.out, HB.out] at hbl
          have HC := Lib.hid (fun W (hW : Stay (fun _ => False) wr W) => alike_any W w.heap.size (w.heap.size + 1) 23 23 a b k p HA.out HB.out hlt hp (K1.out.stay0 hW) (K2.out.stay0 hW) _ _ rfl rfl)
          generalize alikeN (a.drop k) (b.drop p) = m at *
          generalize bestN a (b.drop p) k = B0 at *
          obtain ⟨f0, n0⟩ := B0
          obtain ⟨D, hDd⟩ : ∃ D : World → Prop, D = Stay (fun _ => False) wr := ⟨_, rfl⟩
          have HD := Lib.hid (show ∀ W, D W → Stay (fun _ => False) wr W by intro W h; rw [hDd] at h; exact h)
          have HDm := Lib.hid (show ∀ W, Stay (fun _ => False) wr W → D W by intro W h; rw [hDd]; exact h)
          clear hDd
          have HN0 := Lib.hid (HDm.out wr.drew Stay.drew)
          haveI : Nonempty (InC D) := ⟨⟨_, HN0.out⟩⟩
          have k1 := fun q : InC D => run_from q.w w.heap.size k hlt
          have k2 := fun q : InC D => run_from q.w (w.heap.size + 1) p hp
          have C1 := Lib.hid (show ∀ W, D W → Calls Tryd.prog 59 #[.slice (some ⟨w.heap.size, k, none⟩) (64 - k) (64 - k), .slice (some ⟨w.heap.size + 1, p, none⟩) (64 - p) (64 - p)] W fun e w' => e = .returned (.int .i64 (m : Int)) ∧ D w' from fun W hW => (HC.out W (HD.out W hW)).mono fun e w' ⟨h1, h2⟩ => ⟨h1, HDm.out _ ((HD.out W hW).trans h2)⟩)
          by_cases hgt : n0 < m
          all_goals
            go_wp2
            refine wp_region_class D HN0.out (by kernel_rfl) (by kernel_rfl) ?_
            try go_frame
            repeat (go_big_quiet_step (with_reducible exact calls_class C1.out))
            refine wpQuiet_nil ?_
            rintro W ⟨q, rfl⟩
            have hs := HD.out _ q.h
            generalize q.w = w9 at *
            go_wp2
          · rw [if_pos hgt] at HN
            refine ⟨⟨k + 1, by omega, by go_num, by rw [HN.out], by rw [HN.out], K1.out.stay0 hs, K2.out.stay0 hs, HT.out.trans hs⟩, by simp [intOf]; omega⟩
          · rw [if_neg hgt] at HN
            refine ⟨⟨k + 1, by omega, by go_num, by rw [HN.out], by rw [HN.out], K1.out.stay0 hs, K2.out.stay0 hs, HT.out.trans hs⟩, by simp [intOf]; omega⟩
        · obtain rfl : k = 64 := by omega
          go_wp2
          go_ret2
          rw [HE.out]
          exact ⟨rfl, HT.out⟩
end Go.Proofs.YtnlknnhibnfhcaaDoor.De
