/-
  FingerStrong and FingerLess, walked.
-/
import Derived.Test.YtljhfccaoncjeaaDoorFgE
namespace Go.Proofs.YtljhfccaoncjeaaDoor.Fg
open Go.RowKit Ke
set_option maxRecDepth 100000

set_option maxHeartbeats 4000000 in
theorem strong_walk (w : World) (b : List UInt8) (hb : b.length = 64) (hp : PathAt w) (hg : 2 < w.heap.size) (he : ErrCell w) :
    Calls Tryd.prog 5 #[.agg (cellsB b).toArray] w fun e w' => e = .returned (.bool true) ∧ Stay (fun _ => False) w w' := by
  obtain ⟨w1, hw1⟩ : ∃ w1, w.alloc (.cells (cellsB b).toArray 23) = w1 := ⟨_, rfl⟩
  have HB := Lib.hid (show BAt w1 w.heap.size 23 b from hw1 ▸ BAt.new w _ b)
  have hst : Stay (fun _ => False) w w1 := hw1 ▸ Stay.alloc _ _
  have HST := Lib.hid hst
  have HP := Lib.hid (hp.stay hst (fun x => x))
  have HG := Lib.hid (Nat.lt_of_lt_of_le hg hst.size)
  have HE := Lib.hid (err_stay he hst)
  have HBL := Lib.hid hb
  clear hp hg he hb hst
  go_enter Tryd.func5, Tryd.ntmps5
  go_wp2_with (refine arr_64.load rfl (.tmp 1) rfl w.heap.size rfl b HBL.out HB.out ?_)
  clear hw1
  refine (of_any w1 0 b HBL.out HP.out HG.out).mono ?_
  rintro e w2 ⟨rfl, s2⟩
  rw [show printB 0 b = sumK b from rfl, show errB (codeB 0) = .nilIface from rfl]
  have hl := length_sumK b
  obtain ⟨h, hh⟩ : ∃ h, sumK b = h := ⟨_, rfl⟩
  rw [hh] at hl ⊢
  have HH := Lib.hid hh
  have HL := Lib.hid hl
  have N2 := Lib.hid (BAt.new w2 25 (List.replicate 32 0))
  have HS2 := Lib.hid s2
  clear hh hl s2
  go_wp2_with (first
    | (with_reducible refine arr_32.alloc rfl rfl ?_)
    | (refine arr_32.store rfl (.tmp 3) (.tmp 9) rfl w2.heap.size rfl (List.replicate 32 0) h rfl (by simp) HL.out N2.out ?_; intro w3 h3 s3; have H3 := Lib.hid h3
       have HS3 := Lib.hid (HS2.out.trans (stay_seal (X := fun k => k = w2.heap.size) ((Stay.alloc _ _).trans s3) (fun k e => Nat.le_of_eq e.symm)))
       clear h3 s3))
  refine (rsum_any w3 _ b (slc_of (HB.out.stay HS3.out (fun x => x)) HBL.out (by decide)) (by rw [HBL.out]; omega)).mono ?_
  rintro e w4 ⟨rfl, s4⟩
  rw [HH.out]
  have H4 := Lib.hid (H3.out.stay s4 (fun x => x))
  have N4 := Lib.hid (BAt.new w4 25 (List.replicate 32 0))
  have HS4 := Lib.hid (HS3.out.trans s4)
  clear s4
  go_wp2_with (first
    | (with_reducible refine arr_32.alloc rfl rfl ?_)
    | (refine arr_32.store rfl (.tmp 5) (.tmp 12) rfl w4.heap.size rfl (List.replicate 32 0) h rfl (by simp) HL.out N4.out ?_; intro w5 h5 s5; have H5 := Lib.hid h5
       have K5 := Lib.hid (H4.out.stay (stay_seal (X := fun k => k = w4.heap.size) ((Stay.alloc _ _).trans s5) (fun k e => Nat.le_of_eq e.symm)) (fun x => x))
       have HS5 := Lib.hid (HS4.out.trans (stay_seal (X := fun k => k = w4.heap.size) ((Stay.alloc _ _).trans s5) (fun k e => Nat.le_of_eq e.symm)))
       clear h5 s5))
  obtain ⟨D, hDd⟩ : ∃ D : World → Prop, D = Stay (fun _ => False) w5 := ⟨_, rfl⟩
  have HD := Lib.hid (show ∀ W, D W → Stay (fun _ => False) w5 W by intro W h; rw [hDd] at h; exact h)
  have HDm := Lib.hid (show ∀ W, Stay (fun _ => False) w5 W → D W by intro W h; rw [hDd]; exact h)
  clear hDd
  have HN0 := Lib.hid (HDm.out w5.drew Stay.drew)
  have k1 := Lib.hid (fun i : InC D => arr_32.run_load HL.out (K5.out.stay (HD.out _ i.h) (fun x => x)))
  have k3 := Lib.hid (fun i : InC D => arr_32.run_load HL.out (H5.out.stay (HD.out _ i.h) (fun x => x)))
  have k2 := fun i : InC D => eq_prt i.w h h HL.out HL.out
  have k4 := fun i : InC D => conv_slc (slc_of (H5.out.stay (HD.out _ i.h) (fun x => x)) HL.out (by decide))
  rw [show (h == h) = true by simp] at k2
  have HS1 := Lib.hid (show ∀ W, D W → Stay (fun _ => False) w1 W from fun W hW => HS5.out.trans (HD.out W hW))
  have H1 := Lib.hid (show ∀ W, D W → Calls Tryd.prog 10 #[arrV h] W fun e w' => e = .returned (strV (textK h)) ∧ D w' from fun W hW => (ftext_any W h HL.out).mono fun e w' ⟨h1, h2⟩ => ⟨h1, HDm.out _ ((HD.out W hW).trans h2)⟩)
  have H2 := Lib.hid (show ∀ W, D W → Calls Tryd.prog 11 #[arrV h] W fun e w' => e = .returned (strV (textK h)) ∧ D w' from fun W hW => (rtext_any W h HL.out).mono fun e w' ⟨h1, h2⟩ => ⟨h1, HDm.out _ ((HD.out W hW).trans h2)⟩)
  have H0 := Lib.hid (show ∀ W, D W → Calls Tryd.prog 12 #[arrV h] W fun e w' => e = .returned (strV h) ∧ D w' from fun W hW => (key_any W h HL.out).mono fun e w' ⟨h1, h2⟩ => ⟨h1, HDm.out _ ((HD.out W hW).trans h2)⟩)
  have H9 := Lib.hid (show ∀ W, D W → Calls Tryd.prog 15 #[] W fun e w' => e = .returned (.bool true) ∧ D w' from fun W hW => (sure_any W (HP.out.stay (HS1.out W hW) (fun x => x)) (Nat.lt_of_lt_of_le HG.out (HS1.out W hW).size) (err_stay HE.out (HS1.out W hW))).mono fun e w' ⟨h1, h2⟩ => ⟨h1, HDm.out _ ((HD.out W hW).trans h2)⟩)
  unfold strV at H1 H2 H0 k4
  unfold arrV at H0 H1 H2 k1 k2 k3
  haveI : Nonempty (InC D) := ⟨⟨_, HN0.out⟩⟩
  refine wp_region_class D HN0.out (by kernel_rfl) (by kernel_rfl) ?_
  go_frame
  repeat (first
    | (refine quiet_loadG (by rfl) 25 (.tmp 3) rfl ⟨w2.heap.size, 0, none⟩ rfl (.agg (cellsB h).toArray) k1.out ?_; go_frame)
    | (refine quiet_loadG (by rfl) 25 (.tmp 5) rfl ⟨w4.heap.size, 0, none⟩ rfl (.agg (cellsB h).toArray) k3.out ?_; go_frame)
    | (go_big_quiet_step ((first
        | with_reducible exact calls_class H0.out
        | with_reducible exact calls_class H1.out
        | with_reducible exact calls_class H2.out
        | with_reducible exact calls_class H9.out))))
  refine wpQuiet_nil ?_
  rintro W ⟨i, rfl⟩
  have hs := HD.out _ i.h
  clear k1 k2 k3 k4
  generalize i.w = w9 at *
  go_wp2
  go_ret
  exact ⟨rfl, HST.out.trans (HS5.out.trans hs)⟩
end Go.Proofs.YtljhfccaoncjeaaDoor.Fg
