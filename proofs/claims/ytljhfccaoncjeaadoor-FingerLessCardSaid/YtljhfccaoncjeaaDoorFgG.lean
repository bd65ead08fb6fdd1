/-
  FingerLess, walked.
-/
import Derived.Test.YtljhfccaoncjeaaDoorFgE
namespace Go.Proofs.YtljhfccaoncjeaaDoor.Fg
open Go.RowKit Ke
set_option maxRecDepth 100000

set_option maxHeartbeats 4000000 in
theorem less_walk (w : World) (p q : List UInt8) (hlp : p.length = 32) (hlq : q.length = 32) (hp : PathAt w) (hg : 2 < w.heap.size) (he : ErrCell w) :
    Calls Tryd.prog 6 #[.agg (cellsB p).toArray, .agg (cellsB q).toArray] w fun e w' => e = .returned (.bool true) ∧ Stay (fun _ => False) w w' := by
  have b1 := BAt.new w 25 p
  have b2 := BAt.new (w.alloc (.cells (cellsB p).toArray 25)) 25 q
  have b1' := b1.stay (Stay.alloc (X := fun _ => False) _ (.cells (cellsB q).toArray 25)) (fun x => x)
  have hst : Stay (fun _ => False) w ((w.alloc (.cells (cellsB p).toArray 25)).alloc (.cells (cellsB q).toArray 25)) := (Stay.alloc _ _).trans (Stay.alloc _ _)
  rw [show (w.alloc (.cells (cellsB p).toArray 25)).heap.size = w.heap.size + 1 by simp] at b2
  obtain ⟨w1, hw1⟩ : ∃ w1, (w.alloc (.cells (cellsB p).toArray 25)).alloc (.cells (cellsB q).toArray 25) = w1 := ⟨_, rfl⟩
  rw [hw1] at b1' b2 hst
  have HST := Lib.hid hst
  have B1 := Lib.hid b1'
  have B2 := Lib.hid b2
  have HP := Lib.hid (hp.stay hst (fun x => x))
  have HG := Lib.hid (Nat.lt_of_lt_of_le hg hst.size)
  have HE := Lib.hid (err_stay he hst)
  have LP := Lib.hid hlp
  have LQ := Lib.hid hlq
  have LB := lt_both p q
  have LO := Lib.hid (lt_one (p := p) (q := q))
  clear b1 b2 b1' hst hp hg he hlp hlq
  go_enter Tryd.func6, Tryd.ntmps6
  go_wp2
  clear hw1
  obtain ⟨D, hDd⟩ : ∃ D : World → Prop, D = Stay (fun _ => False) w1 := ⟨_, rfl⟩
  have HD := Lib.hid (show ∀ W, D W → Stay (fun _ => False) w1 W by intro W h; rw [hDd] at h; exact h)
  have HDm := Lib.hid (show ∀ W, Stay (fun _ => False) w1 W → D W by intro W h; rw [hDd]; exact h)
  clear hDd
  have HN0 := Lib.hid (HDm.out w1.drew Stay.drew)
  have k1 := Lib.hid (fun i : InC D => arr_32.run_load LP.out (B1.out.stay (HD.out _ i.h) (fun x => x)))
  have k3 := Lib.hid (fun i : InC D => arr_32.run_load LQ.out (B2.out.stay (HD.out _ i.h) (fun x => x)))
  have K2 := Lib.hid (fun i : InC D => eq_prt i.w p q LP.out LQ.out)
  have H0 := (show ∀ W, D W → Calls Tryd.prog 13 #[arrV p, arrV q] W fun e w' => e = .returned (.bool (ltB p q)) ∧ D w' from fun W hW => (less_any W p q LP.out LQ.out).mono fun e w' ⟨h1, h2⟩ => ⟨h1, HDm.out _ ((HD.out W hW).trans h2)⟩)
  have H1 := (show ∀ W, D W → Calls Tryd.prog 13 #[arrV q, arrV p] W fun e w' => e = .returned (.bool (ltB q p)) ∧ D w' from fun W hW => (less_any W q p LQ.out LP.out).mono fun e w' ⟨h1, h2⟩ => ⟨h1, HDm.out _ ((HD.out W hW).trans h2)⟩)
  have H2 := (show ∀ W, D W → Calls Tryd.prog 13 #[arrV p, arrV p] W fun e w' => e = .returned (.bool false) ∧ D w' from fun W hW => (less_any W p p LP.out LP.out).mono fun e w' ⟨h1, h2⟩ => ⟨by rw [h1, lt_self], HDm.out _ ((HD.out W hW).trans h2)⟩)
  have H3 := (show ∀ W, D W → Calls Tryd.prog 14 #[arrV p, arrV q] W fun e w' => e = .returned (.bool (ltB p q)) ∧ D w' from fun W hW => (rless_any W p q LP.out LQ.out).mono fun e w' ⟨h1, h2⟩ => ⟨h1, HDm.out _ ((HD.out W hW).trans h2)⟩)
  have H9 := Lib.hid (show ∀ W, D W → Calls Tryd.prog 15 #[] W fun e w' => e = .returned (.bool true) ∧ D w' from fun W hW => (sure_any W (HP.out.stay (HD.out W hW) (fun x => x)) (Nat.lt_of_lt_of_le HG.out (HD.out W hW).size) (err_stay HE.out (HD.out W hW))).mono fun e w' ⟨h1, h2⟩ => ⟨h1, HDm.out _ ((HD.out W hW).trans h2)⟩)
  unfold arrV at H0 H1 H2 H3 k1 k3 K2
  haveI : Nonempty (InC D) := ⟨⟨_, HN0.out⟩⟩
  cases hpq : ltB p q <;> cases hqp : ltB q p
  all_goals rw [hpq] at H0 H3
  all_goals rw [hqp] at H1
  all_goals try (rw [hpq, hqp] at LB; cases LB)
  · have e := LO.out hpq hqp
    have k2 := K2.out
    rw [show (p == q) = true by rw [e]; simp] at k2
    have H0 := Lib.hid H0
    have H1 := Lib.hid H1
    have H2 := Lib.hid H2
    have H3 := Lib.hid H3
    clear e hpq hqp
    refine wp_region_class D HN0.out (by kernel_rfl) (by kernel_rfl) ?_
    try go_frame
    repeat (first
      | (refine quiet_loadG (by rfl) 25 (.tmp 2) rfl ⟨w.heap.size, 0, none⟩ rfl (.agg (cellsB p).toArray) k1.out ?_; go_frame)
      | (refine quiet_loadG (by rfl) 25 (.tmp 3) rfl ⟨w.heap.size + 1, 0, none⟩ rfl (.agg (cellsB q).toArray) k3.out ?_; go_frame)
      | (go_big_quiet_step ((first
          | with_reducible exact calls_class H0.out
          | with_reducible exact calls_class H1.out
          | with_reducible exact calls_class H2.out
          | with_reducible exact calls_class H3.out
          | with_reducible exact calls_class H9.out))))
    refine wpQuiet_nil ?_
    rintro W ⟨i, rfl⟩
    have hs := HD.out _ i.h
    clear k1 k2 k3 K2
    generalize i.w = w9 at *
    go_wp2
    go_ret
    exact ⟨rfl, HST.out.trans hs⟩
  all_goals
    have H0 := Lib.hid H0
    have H1 := Lib.hid H1
    have H2 := Lib.hid H2
    have H3 := Lib.hid H3
    clear hpq hqp
    refine wp_region_class D HN0.out (by kernel_rfl) (by kernel_rfl) ?_
    try go_frame
    repeat (first
      | (refine quiet_loadG (by rfl) 25 (.tmp 2) rfl ⟨w.heap.size, 0, none⟩ rfl (.agg (cellsB p).toArray) k1.out ?_; go_frame)
      | (refine quiet_loadG (by rfl) 25 (.tmp 3) rfl ⟨w.heap.size + 1, 0, none⟩ rfl (.agg (cellsB q).toArray) k3.out ?_; go_frame)
      | (go_big_quiet_step ((first
          | with_reducible exact calls_class H0.out
          | with_reducible exact calls_class H1.out
          | with_reducible exact calls_class H2.out
          | with_reducible exact calls_class H3.out
          | with_reducible exact calls_class H9.out))))
    refine wpQuiet_nil ?_
    rintro W ⟨i, rfl⟩
    have hs := HD.out _ i.h
    clear k1 k3 K2
    generalize i.w = w9 at *
    go_wp2
    go_ret
    exact ⟨rfl, HST.out.trans hs⟩
end Go.Proofs.YtljhfccaoncjeaaDoor.Fg
