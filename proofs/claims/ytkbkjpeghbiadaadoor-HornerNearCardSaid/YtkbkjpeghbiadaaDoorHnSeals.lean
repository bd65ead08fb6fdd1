/-
  HornerSeals' walk.
-/
import Derived.Test.YtkbkjpeghbiadaaDoorHnE
import Derived.Test.YtkbkjpeghbiadaaDoorHnJoins
namespace Go.Proofs.YtkbkjpeghbiadaaDoor.Hn
open Go.RowKit
set_option maxRecDepth 100000

theorem open_seal (b : List UInt8) : openB (sealB b) = .ok b := by
  have hn : (sealB b).length = b.length + 4 := length_sealB b
  rw [open_form hn]
  have h1 : (sealB b).take b.length = b := by simp [sealB]
  have h2 : (sealB b).drop b.length = tailB (moreN 1 b) := by simp [sealB]
  rw [h1, h2, if_pos rfl]
theorem code_seal (b : List UInt8) : codeB (sealB b) = 0 := by unfold codeB; rw [open_seal]
theorem body_seal (b : List UInt8) : bodyB (sealB b) = b := by unfold bodyB; rw [open_seal]
theorem errO_zero : errO 0 = .nilIface := rfl
theorem open_err {b : List UInt8} {c : Nat} (h : openB b = .error c) : c ≠ 0 := by
  unfold openB at h
  split at h
  · cases h; decide
  · split at h
    · cases h
    · cases h; decide

/-- Open, as the document's. -/
theorem open_code (x : Value) (b : List UInt8) (w : World) (hx : Slc w x b) (hlen : b.length ≤ 140737488355328) :
    Calls Tryd.prog 7 #[x] w fun e w' => (∃ v, e = .returned (.tuple #[v, errO (codeB b)]) ∧ Slc w' v (bodyB b)) ∧ Stay (fun _ => False) w w' := by
  refine (open_any x b w hx hlen).mono fun e w' ⟨h, hs⟩ => ⟨?_, hs⟩
  unfold codeB bodyB
  cases hb : openB b with
  | error c =>
    rw [hb] at h
    refine ⟨_, ?_, (Owns.nil 0 w').slc⟩
    unfold errO
    rw [if_neg (open_err hb)]
    exact h
  | ok r =>
    rw [hb] at h
    obtain ⟨v, he, ho⟩ := h
    exact ⟨v, he, ho.slc⟩

set_option maxHeartbeats 4000000 in
theorem seals_walk (b : List UInt8) (x : Value) (w : World) (hg : ErrCell w) (hx : Slc w x b) (hlen : b.length ≤ 140737488355328) :
    Calls Tryd.prog 3 #[x] w fun e w' => e = .returned (.bool true) ∧ Stay (fun _ => False) w w' := by
  have HX := Lib.hid hx
  have HG := Lib.hid hg
  obtain ⟨a0, ca, rfl, _⟩ := hx
  clear hg
  by_cases hl : (20000 : Int) < (b.length : Int)
  · go_enter Tryd.func3, Tryd.ntmps3
    go_wp2_with fail
    refine (sure_any _).mono ?_
    rintro e w1 ⟨rfl, hs1⟩
    go_wp2
    go_ret
    exact ⟨rfl, hs1⟩
  · go_enter Tryd.func3, Tryd.ntmps3
    go_wp2_with fail
    refine (open_code _ b _ HX.out hlen).mono ?_
    rintro e w1 ⟨⟨x1, rfl, hx1⟩, hs1⟩
    go_wp2_with fail
    refine (ropen_any _ b _ (HX.out.stay0 hs1) hlen).mono ?_
    rintro e w2 ⟨⟨y1, rfl, hy1⟩, hs2⟩
    have hx2 := hx1.stay0 hs2
    have hs12 := hs1.trans hs2
    clear hx1 hs1 hs2
    go_wp2_with fail
    refine (seal_any _ b _ (HX.out.stay0 hs12) (by omega)).mono ?_
    rintro e w3 ⟨s1, rfl, ho3, hs3⟩
    have hx3 := hx2.stay0 hs3
    have hy3 := hy1.stay0 hs3
    have hs13 := hs12.trans hs3
    have hsl3 := ho3.slc
    clear hx2 hy1 hs12 hs3 ho3
    go_wp2_with fail
    refine (open_code _ (sealB b) _ hsl3 (by rw [length_sealB]; omega)).mono ?_
    rintro e w4 ⟨⟨z1, he, hz4⟩, hs4⟩
    rw [code_seal, errO_zero] at he
    rw [body_seal] at hz4
    subst he
    have hs14 := hs13.trans hs4
    have hsl4 := hsl3.stay0 hs4
    have hx4 := hx3.stay0 hs4
    have hy4 := hy3.stay0 hs4
    have hb4 := HX.out.stay0 hs14
    clear hs13 hsl3 hx3 hy3 hs4
    have HSL4 := Lib.hid hsl4
    have HX4 := Lib.hid hx4
    have HY4 := Lib.hid hy4
    have HZ4 := Lib.hid hz4
    have HB4 := Lib.hid hb4
    have HT4 := Lib.hid hs14
    have hcs := conv_slc (hsl4.stay0 (Stay.drew (w := w4)))
    unfold strV at hcs
    clear hsl4 hx4 hy4 hz4 hb4 hs14
    go_wp2_with fail
    refine wp_region_any (by kernel_rfl) ?_
    change wpAny _ _ _ _ _ _ _ (World.drew _)
    refine wpAny_take (i := 0) (v := ?_) rfl (by kernel_rfl) (by kernel_rfl) (by kernel_rfl) (fun _ _ _ h => h) (Or.inl ⟨by rfl, ?_⟩) ?_
    rotate_left
    · intro w
      go_simp
      with_reducible rfl
    refine wpAny_take (i := 2) (v := ?_) rfl (by kernel_rfl) (by kernel_rfl) (by kernel_rfl) (fun _ _ _ h => h) (Or.inl ⟨by rfl, ?_⟩) ?_
    rotate_left
    · intro w
      go_simp
      with_reducible rfl
    refine wpAny_ready (rs := [1, 3]) (by kernel_rfl) (by simp) (AllReady.cons rfl (fun K hK => ?_) (AllReady.cons rfl (fun K hK => ?_) AllReady.nil))
    · go_simp
      refine hK _ _ ?_
      clear hK K
      refine wpAny_ready (rs := [3]) (by kernel_rfl) (by simp) (AllReady.cons rfl (fun K hK => ?_) AllReady.nil)
      go_simp
      go_wp2_with (go_at_call 10; refine (rseal_any _ b _ (HB4.out.stay0 Stay.drew) (by omega)).mono ?_; rintro e w5 ⟨v5, rfl, ho5, hs5⟩; have HS5 := Lib.hid ((Stay.drew (X := fun _ => False) (w := w4)).trans hs5); have HV5 := Lib.hid ho5.slc; clear ho5 hs5)
      clear hcs
      obtain ⟨D, hDd⟩ : ∃ D : World → Prop, D = Stay (fun _ => False) w5 := ⟨_, rfl⟩
      have HD := Lib.hid (show ∀ W, D W → Stay (fun _ => False) w5 W by intro W h; rw [hDd] at h; exact h)
      have HDm := Lib.hid (show ∀ W, Stay (fun _ => False) w5 W → D W by intro W h; rw [hDd]; exact h)
      clear hDd
      have HN0 := Lib.hid (HDm.out _ (Stay.refl _ _))
      have kv := fun i : InC D => conv_slc (HV5.out.stay0 (HD.out _ i.h))
      have kx := fun i : InC D => conv_slc (HX4.out.stay0 (HS5.out.trans (HD.out _ i.h)))
      have ky := fun i : InC D => conv_slc (HY4.out.stay0 (HS5.out.trans (HD.out _ i.h)))
      have kz := fun i : InC D => conv_slc (HZ4.out.stay0 (HS5.out.trans (HD.out _ i.h)))
      have kb := fun i : InC D => conv_slc (HB4.out.stay0 (HS5.out.trans (HD.out _ i.h)))
      unfold strV at kv kx ky kz kb
      have H1 := Lib.hid (show ∀ W, D W → Calls Tryd.prog 11 #[errO (codeB b)] W fun e w' => e = .returned (.int .i64 ((codeB b : Nat) : Int)) ∧ D w' from fun W h => (num_o (codeB b) W (HG.out.stay0 (HT4.out.trans (HS5.out.trans (HD.out W h))))).mono fun e w' ⟨h1, h2⟩ => ⟨h1, HDm.out _ ((HD.out W h).trans h2)⟩)
      have H2 := Lib.hid (show ∀ W, D W → Calls Tryd.prog 6 #[] W fun e w' => e = .returned (.bool true) ∧ D w' from fun W h => (sure_any W).mono fun e w' ⟨h1, h2⟩ => ⟨h1, HDm.out _ ((HD.out W h).trans h2)⟩)
      haveI : Nonempty (InC D) := ⟨⟨_, HN0.out⟩⟩
      refine wpAny_class D 4 rfl rfl (by kernel_rfl) (by kernel_rfl) HN0.out ?_
      simp only [List.drop_succ_cons, List.drop_zero]
      repeat (go_big_quiet_step ((first
        | with_reducible exact calls_class H1.out
        | with_reducible exact calls_class H2.out)))
      refine wpQuiet_nil ?_
      rintro W ⟨i, rfl⟩
      have hst := HD.out _ i.h
      clear kv kx ky kz kb
      generalize i.w = w9 at *
      go_wp2
      go_ret
      exact ⟨rfl, HT4.out.trans (HS5.out.trans hst)⟩
    · go_simp
      go_wp2_with (go_at_call 10; refine (rseal_any _ b _ (HB4.out.stay0 Stay.drew) (by omega)).mono ?_; rintro e w5 ⟨v5, rfl, ho5, hs5⟩; have HS5 := Lib.hid ((Stay.drew (X := fun _ => False) (w := w4)).trans hs5); have HV5 := Lib.hid ho5.slc; clear ho5 hs5)
      clear hcs
      obtain ⟨D, hDd⟩ : ∃ D : World → Prop, D = Stay (fun _ => False) w5 := ⟨_, rfl⟩
      have HD := Lib.hid (show ∀ W, D W → Stay (fun _ => False) w5 W by intro W h; rw [hDd] at h; exact h)
      have HDm := Lib.hid (show ∀ W, Stay (fun _ => False) w5 W → D W by intro W h; rw [hDd]; exact h)
      clear hDd
      have HN0 := Lib.hid (HDm.out _ (Stay.refl _ _))
      have kv := fun i : InC D => conv_slc (HV5.out.stay0 (HD.out _ i.h))
      have kx := fun i : InC D => conv_slc (HX4.out.stay0 (HS5.out.trans (HD.out _ i.h)))
      have ky := fun i : InC D => conv_slc (HY4.out.stay0 (HS5.out.trans (HD.out _ i.h)))
      have kz := fun i : InC D => conv_slc (HZ4.out.stay0 (HS5.out.trans (HD.out _ i.h)))
      have kb := fun i : InC D => conv_slc (HB4.out.stay0 (HS5.out.trans (HD.out _ i.h)))
      have ks := fun i : InC D => conv_slc (HSL4.out.stay0 (HS5.out.trans (HD.out _ i.h)))
      unfold strV at ks kv kx ky kz kb
      have H1 := Lib.hid (show ∀ W, D W → Calls Tryd.prog 11 #[errO (codeB b)] W fun e w' => e = .returned (.int .i64 ((codeB b : Nat) : Int)) ∧ D w' from fun W h => (num_o (codeB b) W (HG.out.stay0 (HT4.out.trans (HS5.out.trans (HD.out W h))))).mono fun e w' ⟨h1, h2⟩ => ⟨h1, HDm.out _ ((HD.out W h).trans h2)⟩)
      have H2 := Lib.hid (show ∀ W, D W → Calls Tryd.prog 6 #[] W fun e w' => e = .returned (.bool true) ∧ D w' from fun W h => (sure_any W).mono fun e w' ⟨h1, h2⟩ => ⟨h1, HDm.out _ ((HD.out W h).trans h2)⟩)
      haveI : Nonempty (InC D) := ⟨⟨_, HN0.out⟩⟩
      refine wpAny_class1 D 1 4 rfl (by kernel_rfl) (by kernel_rfl) rfl rfl (by kernel_rfl) (by kernel_rfl) HN0.out ?_
      simp only [List.getElem_toArray, List.getElem_cons_succ, List.getElem_cons_zero, List.drop_succ_cons, List.drop_zero]
      go_big_quiet_step (fail)
      refine wpQuiet_nil ?_
      repeat (go_big_quiet_step ((first
        | with_reducible exact calls_class H1.out
        | with_reducible exact calls_class H2.out)))
      refine wpQuiet_nil ?_
      rintro W ⟨i, rfl⟩
      have hst := HD.out _ i.h
      clear kv ks kx ky kz kb
      generalize i.w = w9 at *
      go_wp2
      go_ret
      exact ⟨rfl, HT4.out.trans (HS5.out.trans hst)⟩

end Go.Proofs.YtkbkjpeghbiadaaDoor.Hn
