/-
  table: where a key would be.
-/
import Derived.Test.YtahfgoafiepioaaGreatDoorTbL
namespace Go.Proofs.YtahfgoafiepioaaGreatDoor.Tb
open Go.RowKit
open Pk (stay_seal)
open Me (En EnS EnO Box enC enV norm ltB Sorted getL posN hasB sizeL)
open Bo (FAt)
set_option maxRecDepth 100000
set_option linter.unusedVariables false

set_option maxHeartbeats 4000000 in
theorem find_any (w : World) (t p q : Nat) (L : List En) (k : List UInt8) (h : TAt w t L p q) (hk : k.length ≤ 140737488351232) :
    Calls Tryz.prog 13 #[.pointer (some ⟨t, 0, none⟩), .string ⟨k.toArray⟩] w fun e w' => (∃ j, IsJ L p k j ∧ e = .returned (.int .i64 (findN L p q k j))) ∧ Stay (fun _ => False) w w' := by
  obtain ⟨j0, hj0⟩ := isJ_ex L p k h.p1 h.srt
  have hb1 : (w.alloc (.cells #[.pointer (some ⟨t, 0, none⟩)] 37)).heap.size = w.heap.size + 1 := by simp
  obtain ⟨w1, hw1⟩ : ∃ w1, w.alloc (.cells #[.pointer (some ⟨t, 0, none⟩)] 37) = w1 := ⟨_, rfl⟩
  rw [hw1] at hb1
  obtain ⟨w2, hw2⟩ : ∃ w2, w1.alloc (.cells #[.string ⟨k.toArray⟩] 9) = w2 := ⟨_, rfl⟩
  have W1 := Lib.hid hw1
  have W2 := Lib.hid hw2
  have hs2 : Stay (fun _ => False) w w2 := by
    rw [← hw2, ← hw1]
    exact (Stay.alloc _ _).trans (Stay.alloc _ _)
  obtain ⟨b, hb⟩ : ∃ b, b = w.heap.size := ⟨_, rfl⟩
  have hd1 : w2.cell? ⟨b, 0, none⟩ = some (.pointer (some ⟨t, 0, none⟩)) := by
    have h1 : w1.cell? ⟨b, 0, none⟩ = some (.pointer (some ⟨t, 0, none⟩)) := by
      rw [hb, ← hw1, cell_of_row _ w.heap.size 0 _ _ _ (heap_alloc_new w _)]
      rfl
    rw [← hw2]
    exact (Stay.alloc (X := fun _ => False) w1 _).cell h1 (fun x => x)
  have hd2 : w2.cell? ⟨b + 1, 0, none⟩ = some (.string ⟨k.toArray⟩) := by
    rw [← hw2, hb, ← hb1, cell_of_row _ w1.heap.size 0 _ _ _ (heap_alloc_new w1 _)]
    rfl
  have HB := Lib.hid hb
  have HB1 := Lib.hid (show w1.heap.size = b + 1 by omega)
  have hT2 := h.stay0 hs2
  have HT2 := Lib.hid hT2
  have HS2 := Lib.hid hs2
  obtain ⟨v, pf, gf, hbt, hpc, hf⟩ := hT2.ex
  have hc3 : w2.cell? ⟨t, 3, none⟩ = some (.pointer (some ⟨pf, 0, none⟩)) := by rw [cell_of_row w2 t 3 _ _ _ hbt]; rfl
  have hc2 := hT2.c2
  obtain ⟨g, c, hcb, hc1, _⟩ := hT2.parts
  obtain ⟨kl, hkl⟩ : ∃ kl, kl = lastK L := ⟨_, rfl⟩
  rw [← hkl] at hc2
  have HKL := Lib.hid hkl
  obtain ⟨D, hDd⟩ : ∃ D : World → Prop, D = Stay (fun _ => False) w2 := ⟨_, rfl⟩
  have HD := Lib.hid (show ∀ W, D W → Stay (fun _ => False) w2 W by intro W h; rw [hDd] at h; exact h)
  have HDm := Lib.hid (show ∀ W, Stay (fun _ => False) w2 W → D W by intro W h; rw [hDd]; exact h)
  clear hDd
  have HN0 := Lib.hid (HDm.out _ (Stay.drew (w := w2)))
  have k1 := fun i : InC D => (HD.out _ i.h).cell hd1 (fun x => x)
  have k2 := fun i : InC D => (HD.out _ i.h).cell hd2 (fun x => x)
  have k3 := fun i : InC D => (HD.out _ i.h).cell hc3 (fun x => x)
  have k4 := fun i : InC D => (HD.out _ i.h).cell hc2 (fun x => x)
  have HD1 := Lib.hid hd1
  have HD2 := Lib.hid hd2
  have HC1 := Lib.hid hc1
  obtain ⟨my, hmy⟩ : ∃ my, my = mayT L q k := ⟨_, rfl⟩
  have H1 := Lib.hid (show ∀ W, D W → Calls Tryz.prog 42 #[.pointer (some ⟨pf, 0, none⟩), .string ⟨k.toArray⟩] W fun e w' => e = .returned (.bool my) ∧ D w' from fun W hW => by
    have h2 := Bo.may_any W pf gf 3 (filtB L q) k (hf.stay0 (HD.out _ hW)) (by omega)
    rw [filtB_len] at h2
    rw [hmy]
    exact h2.mono fun e w' ⟨h3, h4⟩ => ⟨h3, HDm.out _ ((HD.out _ hW).trans h4)⟩)
  have HMY := Lib.hid hmy
  haveI : Nonempty (InC D) := ⟨⟨_, HN0.out⟩⟩
  have HSE := Lib.hid (show ∀ W, Stay (fun _ => False) w2 W → Calls Tryz.prog 39 #[.int .i64 (cN L.length p : Nat), .func (.func 43) #[] #[.pointer (some ⟨b, 0, none⟩), .pointer (some ⟨b + 1, 0, none⟩)]] W fun e w' => (∃ j : Nat, e = .returned (.int .i64 (j : Int)) ∧ IsJ L p k j) ∧ Stay (fun _ => False) W w' from fun W hW => by
    refine (search_find (cN L.length p) (fun i => ltB k (keyAt L (i * p))) _ _ W hcb (find_mono h.p1 h.srt) (fun W' hW' i hi => ?_)).mono fun e w' ⟨⟨j, h1, h2⟩, h3⟩ => ⟨⟨j, h1, from_isJ h2⟩, h3⟩
    exact find1_any W' b (b + 1) t p q L k i ((hW.trans hW').cell HD1.out (fun x => x)) ((hW.trans hW').cell HD2.out (fun x => x)) (HT2.out.stay0 (hW.trans hW')) hi)
  have HJ0 := Lib.hid hj0
  have HJL := Lib.hid (show ∀ j, IsJ L p k j → j ≤ cN L.length p from fun j h => h.le)
  generalize cN L.length p = n at *
  have hnm : (n : Int) ≤ 1000000 := by omega
  clear hw1 hw2 hs2 hb hd1 hd2 hT2 hbt hpc hf hc3 hc2 hc1 hkl hmy hj0 h hb1
  go_enter Tryz.func13, Tryz.ntmps13
  go_wp2
  rw [W1.out, W2.out, ← HB.out]
  cases my with
  | false =>
    refine wp_region_class D HN0.out (by kernel_rfl) (by kernel_rfl) ?_
    repeat (go_big_quiet_step ((first
      | with_reducible exact calls_class H1.out)))
    refine wpQuiet_nil ?_
    rintro W ⟨iw, rfl⟩
    have hst := HD.out _ iw.h
    clear k1 k2 k3 k4
    generalize iw.w = w9 at *
    have HS9 := Lib.hid (HS2.out.trans hst)
    clear hst
    go_wp2
    go_ret
    exact ⟨⟨j0, HJ0.out, by rw [show findN L p q k j0 = -1 from if_neg (fun h => by rw [← HMY.out] at h; cases h.1)]; rfl⟩, HS9.out⟩
  | true =>
    refine wp_region_class D HN0.out (by kernel_rfl) (by kernel_rfl) ?_
    repeat (go_big_quiet_step ((first
      | with_reducible exact calls_class H1.out)))
    refine wpQuiet_nil ?_
    rintro W ⟨iw, rfl⟩
    have hst := HD.out _ iw.h
    clear k1 k2 k3 k4
    generalize iw.w = w9 at *
    have HS9 := Lib.hid (HS2.out.trans hst)
    have hc1 := hst.cell HC1.out (fun x => x)
    have hd1 := hst.cell HD1.out (fun x => x)
    have HSE9 := Lib.hid (HSE.out w9 hst)
    clear hst
    rw [gtr_is]
    cases hlk : ltB kl k with
    | true =>
      go_wp2
      go_ret
      exact ⟨⟨j0, HJ0.out, by rw [show findN L p q k j0 = -1 from if_neg (fun h => by rw [← HKL.out, hlk] at h; cases h.2)]; rfl⟩, HS9.out⟩
    | false =>
      go_wp2_with fail
      refine HSE9.out.mono ?_
      rintro e w10 ⟨⟨j, rfl, hj⟩, hs10⟩
      have HJ := Lib.hid hj
      have HS10 := Lib.hid (HS9.out.trans hs10)
      have hjn := HJL.out j hj
      have HFN := Lib.hid (show findN L p q k j = (j : Int) - 1 from if_pos ⟨HMY.out.symm, by rw [← HKL.out, hlk]⟩)
      clear hj hs10 hlk
      go_wp2
      go_ret
      exact ⟨⟨j, HJ.out, by rw [HFN.out]; rfl⟩, HS10.out⟩
end Go.Proofs.YtahfgoafiepioaaGreatDoor.Tb
