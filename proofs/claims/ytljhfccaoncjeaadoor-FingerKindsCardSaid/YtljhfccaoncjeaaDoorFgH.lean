/-
  FingerKinds, walked.
-/
import Derived.Test.YtljhfccaoncjeaaDoorFgE
namespace Go.Proofs.YtljhfccaoncjeaaDoor.Fg
open Go.RowKit Ke
set_option maxRecDepth 100000

set_option maxHeartbeats 4000000 in
theorem kinds_walk (w : World) (k : Int) (a b : List UInt8) (hla : a.length = 64) (hlb : b.length = 64) (hp : PathAt w) (hg : 2 < w.heap.size) (he : ErrCell w) :
    Calls Tryd.prog 3 #[.int .i64 k, .agg (cellsB a).toArray, .agg (cellsB b).toArray] w fun e w' => e = .returned (.bool true) ∧ Stay (fun _ => False) w w' := by
  have b1 := BAt.new w 23 a
  have b2 := BAt.new (w.alloc (.cells (cellsB a).toArray 23)) 23 b
  have b1' := b1.stay (Stay.alloc (X := fun _ => False) _ (.cells (cellsB b).toArray 23)) (fun x => x)
  have hst : Stay (fun _ => False) w ((w.alloc (.cells (cellsB a).toArray 23)).alloc (.cells (cellsB b).toArray 23)) := (Stay.alloc _ _).trans (Stay.alloc _ _)
  rw [show (w.alloc (.cells (cellsB a).toArray 23)).heap.size = w.heap.size + 1 by simp] at b2
  obtain ⟨w1, hw1⟩ : ∃ w1, (w.alloc (.cells (cellsB a).toArray 23)).alloc (.cells (cellsB b).toArray 23) = w1 := ⟨_, rfl⟩
  rw [hw1] at b1' b2 hst
  have HST := Lib.hid hst
  have BA := Lib.hid b1'
  have BB := Lib.hid b2
  have HP := Lib.hid (hp.stay hst (fun x => x))
  have HG := Lib.hid (Nat.lt_of_lt_of_le hg hst.size)
  have HE := Lib.hid (err_stay he hst)
  have LA := Lib.hid hla
  have LB := Lib.hid hlb
  clear b1 b2 b1' hst hp hg he hla hlb
  go_enter Tryd.func3, Tryd.ntmps3
  go_wp2_with (refine arr_64.load rfl (.tmp 4) rfl w.heap.size rfl a LA.out BA.out ?_)
  clear hw1
  refine (of_any w1 k a LA.out HP.out HG.out).mono ?_
  rintro e w2 ⟨rfl, s2⟩
  obtain ⟨h, hh⟩ : ∃ h, printB k a = h := ⟨_, rfl⟩
  obtain ⟨g, hgg⟩ : ∃ g, printB k b = g := ⟨_, rfl⟩
  obtain ⟨c, hc⟩ : ∃ c, codeB k = c := ⟨_, rfl⟩
  obtain ⟨ev, hev⟩ : ∃ ev, errB c = ev := ⟨_, rfl⟩
  have HL := Lib.hid (show h.length = 32 from hh ▸ length_printB k a)
  have GL := Lib.hid (show g.length = 32 from hgg ▸ length_printB k b)
  rw [hh, hc, hev]
  have HH := Lib.hid hh
  have HGG := Lib.hid hgg
  have HC := Lib.hid hc
  have HEV := Lib.hid hev
  have N2 := Lib.hid (BAt.new w2 25 (List.replicate 32 0))
  have HS2 := Lib.hid s2
  clear hh hgg hc hev s2
  go_wp2_with (first
    | (with_reducible refine arr_32.alloc rfl rfl ?_)
    | (refine arr_32.store rfl (.tmp 7) (.tmp 17) rfl w2.heap.size rfl (List.replicate 32 0) h rfl (by simp) HL.out N2.out ?_; intro w3 h3 s3; have H3 := Lib.hid h3
       have HS3 := Lib.hid (HS2.out.trans (stay_seal (X := fun k => k = w2.heap.size) ((Stay.alloc _ _).trans s3) (fun k e => Nat.le_of_eq e.symm)))
       have A3 := Lib.hid (BA.out.stay HS3.out (fun x => x))
       clear h3 s3)
    | (refine arr_64.load rfl (.tmp 4) rfl w.heap.size rfl a LA.out A3.out ?_))
  refine (rof_any w3 k a LA.out).mono ?_
  rintro e w4 ⟨rfl, s4⟩
  rw [HH.out, HC.out]
  have H4 := Lib.hid (H3.out.stay s4 (fun x => x))
  have N4 := Lib.hid (BAt.new w4 25 (List.replicate 32 0))
  have HS4 := Lib.hid (HS3.out.trans s4)
  clear s4
  go_wp2_with (first
    | (with_reducible refine arr_32.alloc rfl rfl ?_)
    | (refine arr_32.store rfl (.tmp 9) (.tmp 23) rfl w4.heap.size rfl (List.replicate 32 0) h rfl (by simp) HL.out N4.out ?_; intro w5 h5 s5; have H5 := Lib.hid h5
       have K5 := Lib.hid (H4.out.stay (stay_seal (X := fun k => k = w4.heap.size) ((Stay.alloc _ _).trans s5) (fun k e => Nat.le_of_eq e.symm)) (fun x => x))
       have HS5 := Lib.hid (HS4.out.trans (stay_seal (X := fun k => k = w4.heap.size) ((Stay.alloc _ _).trans s5) (fun k e => Nat.le_of_eq e.symm)))
       have B5 := Lib.hid (BB.out.stay HS5.out (fun x => x))
       clear h5 s5)
    | (refine arr_64.load rfl (.tmp 5) rfl (w.heap.size + 1) rfl b LB.out B5.out ?_))
  refine (rof_any w5 k b LB.out).mono ?_
  rintro e w6 ⟨rfl, s6⟩
  rw [HGG.out, HC.out]
  have K6 := Lib.hid (K5.out.stay s6 (fun x => x))
  have H6 := Lib.hid (H5.out.stay s6 (fun x => x))
  have N6 := Lib.hid (BAt.new w6 25 (List.replicate 32 0))
  have HS6 := Lib.hid (HS5.out.trans s6)
  clear s6
  go_wp2_with (first
    | (with_reducible refine arr_32.alloc rfl rfl ?_)
    | (refine arr_32.store rfl (.tmp 11) (.tmp 29) rfl w6.heap.size rfl (List.replicate 32 0) g rfl (by simp) GL.out N6.out ?_; intro w7 h7 s7; have G7 := Lib.hid h7
       have K7 := Lib.hid (K6.out.stay (stay_seal (X := fun k => k = w6.heap.size) ((Stay.alloc _ _).trans s7) (fun k e => Nat.le_of_eq e.symm)) (fun x => x))
       have H7 := Lib.hid (H6.out.stay (stay_seal (X := fun k => k = w6.heap.size) ((Stay.alloc _ _).trans s7) (fun k e => Nat.le_of_eq e.symm)) (fun x => x))
       have HS7 := Lib.hid (HS6.out.trans (stay_seal (X := fun k => k = w6.heap.size) ((Stay.alloc _ _).trans s7) (fun k e => Nat.le_of_eq e.symm)))
       clear h7 s7))
  obtain ⟨D, hDd⟩ : ∃ D : World → Prop, D = Stay (fun _ => False) w7 := ⟨_, rfl⟩
  have HD := Lib.hid (show ∀ W, D W → Stay (fun _ => False) w7 W by intro W h; rw [hDd] at h; exact h)
  have HDm := Lib.hid (show ∀ W, Stay (fun _ => False) w7 W → D W by intro W h; rw [hDd]; exact h)
  clear hDd
  have HN0 := Lib.hid (HDm.out w7.drew Stay.drew)
  have k1 := Lib.hid (fun i : InC D => arr_32.run_load HL.out (K7.out.stay (HD.out _ i.h) (fun x => x)))
  have k3 := Lib.hid (fun i : InC D => arr_32.run_load HL.out (H7.out.stay (HD.out _ i.h) (fun x => x)))
  have k5 := Lib.hid (fun i : InC D => arr_32.run_load GL.out (G7.out.stay (HD.out _ i.h) (fun x => x)))
  have k2 := fun i : InC D => eq_prt i.w h h HL.out HL.out
  have k4 := fun i : InC D => conv_slc (slc_of (H7.out.stay (HD.out _ i.h) (fun x => x)) HL.out (by decide))
  rw [show (h == h) = true by simp] at k2
  have HS1 := Lib.hid (show ∀ W, D W → Stay (fun _ => False) w1 W from fun W hW => HS7.out.trans (HD.out W hW))
  have H8 := Lib.hid (show ∀ W, D W → Calls Tryd.prog 9 #[ev] W fun e w' => e = .returned (.int .i64 (c : Int)) ∧ D w' from fun W hW => (HEV.out ▸ numB c W (err_stay HE.out (HS1.out W hW))).mono fun e w' ⟨h1, h2⟩ => ⟨h1, HDm.out _ ((HD.out W hW).trans h2)⟩)
  have H1 := Lib.hid (show ∀ W, D W → Calls Tryd.prog 10 #[arrV h] W fun e w' => e = .returned (strV (textK h)) ∧ D w' from fun W hW => (ftext_any W h HL.out).mono fun e w' ⟨h1, h2⟩ => ⟨h1, HDm.out _ ((HD.out W hW).trans h2)⟩)
  have H2 := Lib.hid (show ∀ W, D W → Calls Tryd.prog 11 #[arrV h] W fun e w' => e = .returned (strV (textK h)) ∧ D w' from fun W hW => (rtext_any W h HL.out).mono fun e w' ⟨h1, h2⟩ => ⟨h1, HDm.out _ ((HD.out W hW).trans h2)⟩)
  have H0 := Lib.hid (show ∀ W, D W → Calls Tryd.prog 12 #[arrV h] W fun e w' => e = .returned (strV h) ∧ D w' from fun W hW => (key_any W h HL.out).mono fun e w' ⟨h1, h2⟩ => ⟨h1, HDm.out _ ((HD.out W hW).trans h2)⟩)
  have H10 := Lib.hid (show ∀ W, D W → Calls Tryd.prog 13 #[arrV h, arrV g] W fun e w' => e = .returned (.bool (ltB h g)) ∧ D w' from fun W hW => (less_any W h g HL.out GL.out).mono fun e w' ⟨h1, h2⟩ => ⟨h1, HDm.out _ ((HD.out W hW).trans h2)⟩)
  have H11 := Lib.hid (show ∀ W, D W → Calls Tryd.prog 14 #[arrV h, arrV g] W fun e w' => e = .returned (.bool (ltB h g)) ∧ D w' from fun W hW => (rless_any W h g HL.out GL.out).mono fun e w' ⟨h1, h2⟩ => ⟨h1, HDm.out _ ((HD.out W hW).trans h2)⟩)
  have H9 := Lib.hid (show ∀ W, D W → Calls Tryd.prog 15 #[] W fun e w' => e = .returned (.bool true) ∧ D w' from fun W hW => (sure_any W (HP.out.stay (HS1.out W hW) (fun x => x)) (Nat.lt_of_lt_of_le HG.out (HS1.out W hW).size) (err_stay HE.out (HS1.out W hW))).mono fun e w' ⟨h1, h2⟩ => ⟨h1, HDm.out _ ((HD.out W hW).trans h2)⟩)
  unfold strV at H1 H2 H0 k4
  unfold arrV at H0 H1 H2 H10 H11 k1 k2 k3 k5
  haveI : Nonempty (InC D) := ⟨⟨_, HN0.out⟩⟩
  refine wp_region_class D HN0.out (by kernel_rfl) (by kernel_rfl) ?_
  try go_frame
  repeat (first
    | (refine quiet_loadG (by rfl) 25 (.tmp 7) rfl ⟨w2.heap.size, 0, none⟩ rfl (.agg (cellsB h).toArray) k1.out ?_; go_frame)
    | (refine quiet_loadG (by rfl) 25 (.tmp 9) rfl ⟨w4.heap.size, 0, none⟩ rfl (.agg (cellsB h).toArray) k3.out ?_; go_frame)
    | (refine quiet_loadG (by rfl) 25 (.tmp 11) rfl ⟨w6.heap.size, 0, none⟩ rfl (.agg (cellsB g).toArray) k5.out ?_; go_frame)
    | (go_big_quiet_step ((first
        | with_reducible exact calls_class H0.out
        | with_reducible exact calls_class H1.out
        | with_reducible exact calls_class H2.out
        | with_reducible exact calls_class H8.out
        | with_reducible exact calls_class H10.out
        | with_reducible exact calls_class H11.out
        | with_reducible exact calls_class H9.out))))
  refine wpQuiet_nil ?_
  rintro W ⟨i, rfl⟩
  have hs := HD.out _ i.h
  clear k1 k2 k3 k4 k5
  generalize i.w = w9 at *
  go_wp2
  go_ret
  exact ⟨rfl, HST.out.trans (HS7.out.trans hs)⟩
end Go.Proofs.YtljhfccaoncjeaaDoor.Fg
