/-
  keccak: stir, Write, end, Sum.
-/
import Derived.Test.YtljhfccaoncjeaaDoorKeG
namespace Go.Proofs.YtljhfccaoncjeaaDoor.Ke
open Go.RowKit
set_option maxRecDepth 100000

set_option maxHeartbeats 2000000 in
theorem stir_any (w : World) (g : Nat) (f : St) (t : Nat) (h : StAt w g f t) (hp : PathAt w) (hg : g ≠ 2) :
    Calls Tryd.prog 37 #[.pointer (some ⟨g, 0, none⟩)] w fun e w' => e = .returned (.tuple #[]) ∧ StAt w' g (perm f) t ∧ Stay (· = g) w w' := by
  have H := Lib.hid h
  have HP := Lib.hid hp
  clear h hp
  go_enter Tryd.func37, Tryd.ntmps37
  go_wp2
  go_loopw [3, 4] (fun a i wr => ∃ r : Nat, r ≤ 24 ∧ i = .int .i64 (r : Int) ∧ a = .int .u64 (rows (7 * r) : Int) ∧ StAt wr g (roundsK f r) t ∧ Stay (fun k => k = g) w wr) (fun _ i _ => 24 - (intOf i).toNat)
  case atStart => exact ⟨0, by omega, rfl, rfl, H.out, Stay.refl _ _⟩
  case round =>
    obtain ⟨r, hr, rfl, rfl, hs, hst⟩ := hrel
    by_cases hlt : r < 24
    · have q0 : (r : Int) < 24 := by omega
      have HS := Lib.hid hs
      have HST := Lib.hid hst
      have HR := Lib.hid hlt
      clear hs hst hlt
      go_wp2_with fail
      refine (blend_any _ g _ t HS.out).mono ?_
      rintro e w1 ⟨rfl, hs1, hst1⟩
      have HS1 := Lib.hid hs1
      have HST1 := Lib.hid (HST.out.trans hst1)
      clear hs1 hst1
      go_wp2_with fail
      refine (move_any _ g _ t HS1.out (HP.out.stay HST1.out (fun e => hg e.symm))).mono ?_
      rintro e w2 ⟨rfl, hs2, hst2⟩
      have HS2 := Lib.hid hs2
      have HST2 := Lib.hid (HST1.out.trans hst2)
      clear hs2 hst2
      go_wp2_with fail
      refine (bend_any _ g _ t HS2.out).mono ?_
      rintro e w3 ⟨rfl, hs3, hst3⟩
      have c0 := hs3.c (i := 0) (by omega)
      have HS3 := Lib.hid hs3
      have HST3 := Lib.hid (HST2.out.trans hst3)
      clear hs3 hst3
      go_wp2_with fail
      refine (next_any _ r HR.out).mono ?_
      rintro e w4 ⟨rfl, rfl⟩
      go_wp2
      refine wp_region_still_tail 8 (by kernel_rfl) (by kernel_rfl) ?_
      simp only [List.take_succ_cons, List.take_zero, List.drop_succ_cons, List.drop_zero]
      repeat still_step
      rw [xor_nv]
      refine wpStill_nil ?_
      clear c0
      refine store_lane (w := w3.drew) rfl (.tmp 24) (.tmp 22) rfl 0 _ rfl rfl HS3.out (by omega) ?_
      intro w5 hs5 hst5
      have HS5 := Lib.hid hs5
      have HST5 := Lib.hid (HST3.out.trans (Stay.drew.trans hst5))
      clear hs5 hst5
      go_frame
      go_wp2
      exact ⟨⟨r + 1, by have := HR.out; omega, by go_num, rfl, HS5.out, HST5.out⟩, by have := HR.out; simp [intOf]; omega⟩
    · obtain rfl : r = 24 := by omega
      have HS := Lib.hid hs
      have HST := Lib.hid hst
      clear hs hst
      go_wp2
      exact bodyPost_end (results_none rfl _ _ _) rfl ⟨rfl, HS.out, HST.out⟩

theorem eats_succ (s : St × Nat) (b : List UInt8) (k : Nat) (hk : k < b.length) : eats s (b.take (k + 1)) = eat (eats s (b.take k)) b[k] := by
  unfold eats
  rw [List.take_succ_eq_append_getElem hk, List.foldl_append]
  rfl
theorem eat_lt (s : St × Nat) (c : UInt8) (h : s.2 < 136) : (eat s c).2 < 136 := by
  unfold eat
  split
  · exact Nat.zero_lt_succ _
  · simp only
    omega
theorem eats_lt (s : St × Nat) (b : List UInt8) (h : s.2 < 136) : (eats s b).2 < 136 := by
  unfold eats
  induction b generalizing s with
  | nil => exact h
  | cons c r ih => exact ih _ (eat_lt s c h)
theorem write_none (x : Value) (w : World) : Calls Tryd.prog 26 #[.pointer none, x] w fun e w' => e = .returned (.tuple #[]) ∧ w = w' := by
  go_enter Tryd.func26, Tryd.ntmps26
  go_wp2
  exact bodyPost_ret (results_none rfl _ _ _) rfl ⟨rfl, rfl⟩

set_option maxHeartbeats 2000000 in
theorem write_any (w : World) (g : Nat) (s : St × Nat) (x : Value) (b : List UInt8) (h : StAt w g s.1 s.2) (h136 : s.2 < 136) (hp : PathAt w) (hg : g ≠ 2) (hx : Slc w x b) (hxg : 0 < b.length → ∀ k, x.ownBlock = some k → k ≠ g) :
    Calls Tryd.prog 26 #[.pointer (some ⟨g, 0, none⟩), x] w fun e w' => e = .returned (.tuple #[]) ∧ StAt w' g (eats s b).1 (eats s b).2 ∧ Stay (· = g) w w' := by
  have HX := Lib.hid hx
  have HXG := Lib.hid hxg
  have H := Lib.hid h
  have HP := Lib.hid hp
  have H136 := Lib.hid h136
  obtain ⟨a0, c0, rfl, hr, hn, hc, hm⟩ := hx
  have hlen : (b.length : Int) ≤ 9223372036854775807 := by omega
  have HR := Lib.hid hr
  clear h hp hxg h136 hn hc hm hr
  go_enter Tryd.func26, Tryd.ntmps26
  go_wp2
  go_loopw [10] (fun i wr => ∃ k : Nat, k ≤ b.length ∧ i = .int .i64 (k : Int) ∧ StAt wr g (eats s (b.take k)).1 (eats s (b.take k)).2 ∧ Stay (fun k => k = g) w wr) (fun i _ => b.length - (intOf i).toNat)
  case atStart => exact ⟨0, by omega, rfl, H.out, Stay.refl _ _⟩
  case round =>
    obtain ⟨k, hk, rfl, hs, hst⟩ := hrel
    by_cases hlt : k < b.length
    · have hes := eats_succ s b k hlt
      have ht := eats_lt s (b.take k) H136.out
      generalize eats s (b.take k) = sk at hs hes ht
      obtain ⟨f', t'⟩ := sk
      simp only at hs ht
      obtain ⟨ad, rfl, hcell⟩ := HR.out (by omega)
      have had : ad.block ≠ g := HXG.out (by omega) ad.block rfl
      have cb := hst.cell (hcell k (byteV b[k]) (by simp [cellsB, hlt])) (by
        have : (ad.add k).block = ad.block := by unfold Addr.add; split <;> rfl
        rw [this]; exact had)
      unfold byteV at cb
      have c25 := StAt.taken hs
      have q0 : (k : Int) < b.length := by omega
      have HS := Lib.hid hs
      have HES := Lib.hid hes
      have HT := Lib.hid ht
      have HST := Lib.hid hst
      have HLT := Lib.hid hlt
      clear hs hes ht hst
      go_wp2
      refine wp_region_still_tail 8 (by kernel_rfl) (by kernel_rfl) ?_
      simp only [List.take_succ_cons, List.take_zero, List.drop_succ_cons, List.drop_zero]
      repeat still_step
      refine wpStill_nil ?_
      clear c25 cb
      go_wp2_with fail
      refine (xor_any wr.drew g f' t' t' b[k] (by have := HT.out; omega) HS.out).mono ?_
      rintro e w1 ⟨rfl, hs1, hst1⟩
      have c25 := StAt.taken hs1
      have f25 := UAt.fr hs1 25
      have HS1 := Lib.hid hs1
      have HST1 := Lib.hid (HST.out.trans (Stay.drew.trans hst1))
      have HT1 := Lib.hid (HS1.out.setT (t' + 1))
      have HST2 := Lib.hid (HST1.out.trans (stay_set w1 g 25 (.int .i64 ((t' + 1 : Nat) : Int))))
      clear hs1 hst1
      by_cases h6 : t' + 1 = 136
      · obtain rfl : t' = 135 := by omega
        go_wp2_with fail
        refine (stir_any _ g _ 136 HT1.out (HP.out.stay HST2.out (fun e => hg e.symm)) hg).mono ?_
        rintro e w3 ⟨rfl, hs3, hst3⟩
        have g25 := StAt.taken hs3
        have k25 := UAt.fr hs3 25
        have HS3 := Lib.hid (hs3.setT 0)
        have HST3 := Lib.hid ((HST2.out.trans hst3).trans (stay_set w3 g 25 (.int .i64 ((0 : Nat) : Int))))
        clear hs3 hst3 c25 f25
        go_wp2
        have hl := HLT.out
        refine ⟨⟨k + 1, by omega, by go_num, ?_, HST3.out⟩, by simp [intOf]; omega⟩
        rw [HES.out]
        exact HS3.out
      · have q6 : ¬ (t' : Int) + 1 = 136 := by omega
        have t1 : (t' : Int) < 136 := by have := HT.out; omega
        have H6 := Lib.hid h6
        clear h6
        go_wp2
        have hl := HLT.out
        refine ⟨⟨k + 1, by omega, by go_num, ?_, HST2.out⟩, by simp [intOf]; omega⟩
        rw [HES.out]
        unfold eat
        rw [if_neg H6.out]
        exact HT1.out
    · obtain rfl : k = b.length := by omega
      rw [List.take_length] at hs
      have HS := Lib.hid hs
      have HST := Lib.hid hst
      clear hs hst
      go_wp2
      exact bodyPost_end (results_none rfl _ _ _) rfl ⟨rfl, HS.out, HST.out⟩
end Go.Proofs.YtljhfccaoncjeaaDoor.Ke
