/-
  FingerSame, walked.
-/
import Derived.Test.YtljhfccaoncjeaaDoorFgE
namespace Go.Proofs.YtljhfccaoncjeaaDoor.Fg
open Go.RowKit Ke
set_option maxRecDepth 100000

theorem eq_blk (w : World) (p q : List UInt8) (hp : p.length = 64) (hq : q.length = 64) : (Op.equalIn 10000 23 (arrV p) (arrV q)).run Tryd.prog w = .ok (p == q) w :=
  run_equalIn_bytes (P := Tryd.prog) w 9998 23 5 64 Tryd.underlying23 Tryd.underlying5 size_u8 p q hp hq
theorem str_lt (p q : List UInt8) : Op.bytesLess (ByteArray.toList ⟨p.toArray⟩) (ByteArray.toList ⟨q.toArray⟩) = ltB p q := by
  rw [Lib.toList_data, Lib.toList_data]
  exact less_eq p q
theorem code_zero {j : Nat} (h : j < 4) : errB (codeB (j : Int)) = .nilIface := by
  have : j = 0 ∨ j = 1 ∨ j = 2 ∨ j = 3 := by omega
  rcases this with rfl | rfl | rfl | rfl <;> rfl

set_option maxHeartbeats 4000000 in
theorem same_walk (w : World) (a b : List UInt8) (hla : a.length = 64) (hlb : b.length = 64) (hp : PathAt w) (hg : 2 < w.heap.size) (he : ErrCell w) :
    Calls Tryd.prog 4 #[.agg (cellsB a).toArray, .agg (cellsB b).toArray] w fun e w' => e = .returned (.bool true) ∧ Stay (fun _ => False) w w' := by
  have b1 := BAt.new w 23 a
  have b2 := BAt.new (w.alloc (.cells (cellsB a).toArray 23)) 23 b
  have b1' := b1.stay (Stay.alloc (X := fun _ => False) _ (.cells (cellsB b).toArray 23)) (fun x => x)
  have hst : Stay (fun _ => False) w ((w.alloc (.cells (cellsB a).toArray 23)).alloc (.cells (cellsB b).toArray 23)) := (Stay.alloc _ _).trans (Stay.alloc _ _)
  rw [show (w.alloc (.cells (cellsB a).toArray 23)).heap.size = w.heap.size + 1 by simp] at b2
  obtain ⟨w1, hw1⟩ : ∃ w1, (w.alloc (.cells (cellsB a).toArray 23)).alloc (.cells (cellsB b).toArray 23) = w1 := ⟨_, rfl⟩
  rw [hw1] at b1' b2 hst
  have HST := Lib.hid hst
  have BA := Lib.hid b1'
  have BB := Lib.hid b2
  have HP := Lib.hid (hp.stay hst (fun x => x))
  have HG := Lib.hid (Nat.lt_of_lt_of_le hg hst.size)
  have HE := Lib.hid (err_stay he hst)
  have LA := Lib.hid hla
  have LB := Lib.hid hlb
  clear b1 b2 b1' hst hp hg he hla hlb
  go_enter Tryd.func4, Tryd.ntmps4
  go_wp2
  clear hw1
  go_loopw [5] (fun i wr => ∃ j : Nat, j ≤ 4 ∧ i = .int .i64 (j : Int) ∧ Stay (fun _ => False) w1 wr) (fun i _ => 4 - (intOf i).toNat)
  case atStart => exact ⟨0, by omega, rfl, Stay.refl _ _⟩
  case round =>
    obtain ⟨j, hj, rfl, hst⟩ := hrel
    by_cases hlt : j < 4
    · have q0 : (j : Int) < 4 := by omega
      have HJ := Lib.hid hlt
      have HSR := Lib.hid hst
      have AR := Lib.hid (BA.out.stay hst (fun x => x))
      clear hlt hst
      go_wp2_with (refine arr_64.load rfl (.tmp 2) rfl w.heap.size rfl a LA.out AR.out ?_)
      refine (of_any wr j a LA.out (HP.out.stay HSR.out (fun x => x)) (Nat.lt_of_lt_of_le HG.out HSR.out.size)).mono ?_
      rintro e w2 ⟨rfl, s2⟩
      obtain ⟨h, hh⟩ : ∃ h, printB (j : Int) a = h := ⟨_, rfl⟩
      obtain ⟨g, hgg⟩ : ∃ g, printB (j : Int) b = g := ⟨_, rfl⟩
      have HL := Lib.hid (show h.length = 32 from hh ▸ length_printB _ a)
      have GL := Lib.hid (show g.length = 32 from hgg ▸ length_printB _ b)
      rw [hh, code_zero HJ.out]
      have HH := Lib.hid hh
      have HGG := Lib.hid hgg
      have N2 := Lib.hid (BAt.new w2 25 (List.replicate 32 0))
      have HS2 := Lib.hid (HSR.out.trans s2)
      clear hh hgg s2
      go_wp2_with (first
        | (with_reducible refine arr_32.alloc rfl rfl ?_)
        | (refine arr_32.store rfl (.tmp 6) (.tmp 20) rfl w2.heap.size rfl (List.replicate 32 0) h rfl (by simp) HL.out N2.out ?_; intro w3 h3 s3; have H3 := Lib.hid h3
           have HS3 := Lib.hid (HS2.out.trans (stay_seal (X := fun k => k = w2.heap.size) ((Stay.alloc _ _).trans s3) (fun k e => Nat.le_of_eq e.symm)))
           have B3 := Lib.hid (BB.out.stay HS3.out (fun x => x))
           clear h3 s3)
        | (refine arr_64.load rfl (.tmp 3) rfl (w.heap.size + 1) rfl b LB.out B3.out ?_))
      refine (of_any w3 j b LB.out (HP.out.stay HS3.out (fun x => x)) (Nat.lt_of_lt_of_le HG.out HS3.out.size)).mono ?_
      rintro e w4 ⟨rfl, s4⟩
      rw [HGG.out, code_zero HJ.out]
      have H4 := Lib.hid (H3.out.stay s4 (fun x => x))
      have N4 := Lib.hid (BAt.new w4 25 (List.replicate 32 0))
      have HS4 := Lib.hid (HS3.out.trans s4)
      clear s4
      have HAB : Hid ((a == b) = true ∧ h = g ∨ (a == b) = false) := Lib.hid (by
        by_cases e : a = b
        · exact .inl ⟨by simp [e], by rw [← HH.out, ← HGG.out, e]⟩
        · exact .inr (by simpa using e))
      obtain ⟨v, hv⟩ : ∃ v, (a == b) = v := ⟨_, rfl⟩
      have ke := fun W : World => eq_blk W a b LA.out LB.out
      have kp := fun W : World => eq_prt W h g HL.out GL.out
      have HBOTH := Lib.hid (lt_both h g)
      have HONE := Lib.hid (lt_one (p := h) (q := g))
      rw [hv] at ke HAB
      unfold arrV at ke kp
      have KE := Lib.hid ke
      have KP := Lib.hid kp
      clear hv ke kp
      have hcs : (v = true ∧ h = g) ∨ v = false := HAB.out
      have hxy : (ltB h g = true ∧ ltB g h = false) ∨ (ltB h g = false ∧ ltB g h = true) ∨ (ltB h g = false ∧ ltB g h = false ∧ h = g) := by
        have h1 := HBOTH.out
        have h2 := HONE.out
        cases e1 : ltB h g <;> cases e2 : ltB g h
        · exact .inr (.inr ⟨rfl, rfl, h2 e1 e2⟩)
        · exact .inr (.inl ⟨rfl, rfl⟩)
        · exact .inl ⟨rfl, rfl⟩
        · rw [e1, e2] at h1; cases h1
      have HXY := Lib.hid hxy
      clear hxy
      rcases hcs with ⟨rfl, ehg⟩ | rfl
      all_goals try (have kp : ∀ W : World, (Op.equalIn 10000 25 (.agg (cellsB h).toArray) (.agg (cellsB g).toArray)).run Tryd.prog W = .ok true W := (fun W => by
        have := KP.out W
        rw [show (h == g) = true by rw [ehg]; simp] at this
        exact this); have KPP := Lib.hid kp; clear kp ehg)
      all_goals
        have ke := KE.out
        try have kp := KPP.out
        go_wp2_with (first
          | (with_reducible refine arr_32.alloc rfl rfl ?_)
          | (refine arr_32.store rfl (.tmp 8) (.tmp 26) rfl w4.heap.size rfl (List.replicate 32 0) g rfl (by simp) GL.out N4.out ?_; intro w5 h5 s5; have H5 := Lib.hid h5
             have K5 := Lib.hid (H4.out.stay (stay_seal (X := fun k => k = w4.heap.size) ((Stay.alloc _ _).trans s5) (fun k e => Nat.le_of_eq e.symm)) (fun x => x))
             have HS5 := Lib.hid (HS4.out.trans (stay_seal (X := fun k => k = w4.heap.size) ((Stay.alloc _ _).trans s5) (fun k e => Nat.le_of_eq e.symm)))
             have A5 := Lib.hid (BA.out.stay HS5.out (fun x => x))
             have B5 := Lib.hid (BB.out.stay HS5.out (fun x => x))
             clear h5 s5)
          | (refine loadW arr_64 (by rfl) (.tmp 2) rfl w.heap.size rfl a LA.out A5.out ?_; unfold arrV)
          | (refine loadW arr_64 (by rfl) (.tmp 3) rfl (w.heap.size + 1) rfl b LB.out B5.out ?_; unfold arrV)
          | (refine loadW arr_32 (by rfl) (.tmp 6) rfl w2.heap.size rfl h HL.out K5.out ?_; unfold arrV)
          | (refine loadW arr_32 (by rfl) (.tmp 8) rfl w4.heap.size rfl g GL.out H5.out ?_; unfold arrV))
        obtain ⟨D, hDd⟩ : ∃ D : World → Prop, D = Stay (fun _ => False) w5 := ⟨_, rfl⟩
        have HD := Lib.hid (show ∀ W, D W → Stay (fun _ => False) w5 W by intro W h; rw [hDd] at h; exact h)
        have HDm := Lib.hid (show ∀ W, Stay (fun _ => False) w5 W → D W by intro W h; rw [hDd]; exact h)
        clear hDd ke
        try clear kp
        have HN0 := Lib.hid (HDm.out w5.drew Stay.drew)
        have k1 := Lib.hid (fun i : InC D => arr_32.run_load HL.out (K5.out.stay (HD.out _ i.h) (fun x => x)))
        have k3 := Lib.hid (fun i : InC D => arr_32.run_load GL.out (H5.out.stay (HD.out _ i.h) (fun x => x)))
        have C1 := Lib.hid (show ∀ W, D W → Calls Tryd.prog 13 #[arrV h, arrV g] W fun e w' => e = .returned (.bool (ltB h g)) ∧ D w' from fun W hW => (less_any W h g HL.out GL.out).mono fun e w' ⟨h1, h2⟩ => ⟨h1, HDm.out _ ((HD.out W hW).trans h2)⟩)
        have C2 := Lib.hid (show ∀ W, D W → Calls Tryd.prog 13 #[arrV g, arrV h] W fun e w' => e = .returned (.bool (ltB g h)) ∧ D w' from fun W hW => (less_any W g h GL.out HL.out).mono fun e w' ⟨h1, h2⟩ => ⟨h1, HDm.out _ ((HD.out W hW).trans h2)⟩)
        unfold arrV at C1 C2 k1 k3
        have hne : Nonempty (InC D) := ⟨⟨_, HN0.out⟩⟩
        refine wp_region_class D HN0.out (by kernel_rfl) (by kernel_rfl) ?_
        try go_frame
        repeat (first
          | (refine quiet_loadG (by rfl) 25 (.tmp 6) rfl ⟨w2.heap.size, 0, none⟩ rfl (.agg (cellsB h).toArray) k1.out ?_; go_frame)
          | (refine quiet_loadG (by rfl) 25 (.tmp 8) rfl ⟨w4.heap.size, 0, none⟩ rfl (.agg (cellsB g).toArray) k3.out ?_; go_frame)
          | (go_big_quiet_step ((first
              | with_reducible exact calls_class C1.out
              | with_reducible exact calls_class C2.out))))
        refine wpQuiet_nil ?_
        rintro W ⟨i, rfl⟩
        have hs := HD.out _ i.h
        clear k1 k3 C1 C2 hne
        generalize i.w = w6 at *
        have K6 := Lib.hid (K5.out.stay hs (fun x => x))
        have H6 := Lib.hid (H5.out.stay hs (fun x => x))
        have HS6 := Lib.hid (HS5.out.trans hs)
        clear hs HN0 HD HDm i D
        have kl := less_eq h g
        have z1 : h.toArray.size = 32 := by rw [List.size_toArray]; exact HL.out
        have z2 : h.length = 32 := HL.out
        rcases HXY.out with ⟨e1, e2⟩ | ⟨e1, e2⟩ | ⟨e1, e2, e3⟩
        all_goals
          rw [e1] at kl ⊢
          rw [e2]
          try (have ehg := Lib.hid e3; clear e3)
          clear e1 e2
          go_wp2_with fail
          obtain ⟨D, hDd⟩ : ∃ D : World → Prop, D = Stay (fun _ => False) w6 := ⟨_, rfl⟩
          have HD := Lib.hid (show ∀ W, D W → Stay (fun _ => False) w6 W by intro W h; rw [hDd] at h; exact h)
          have HDm := Lib.hid (show ∀ W, Stay (fun _ => False) w6 W → D W by intro W h; rw [hDd]; exact h)
          clear hDd
          have HN0 := Lib.hid (HDm.out w6.drew Stay.drew)
          have k1 := Lib.hid (fun i : InC D => arr_32.run_load HL.out (K6.out.stay (HD.out _ i.h) (fun x => x)))
          have k3 := Lib.hid (fun i : InC D => arr_32.run_load GL.out (H6.out.stay (HD.out _ i.h) (fun x => x)))
          have C1 := Lib.hid (show ∀ W, D W → Calls Tryd.prog 12 #[arrV h] W fun e w' => e = .returned (strV h) ∧ D w' from fun W hW => (key_any W h HL.out).mono fun e w' ⟨h1, h2⟩ => ⟨h1, HDm.out _ ((HD.out W hW).trans h2)⟩)
          have C2 := Lib.hid (show ∀ W, D W → Calls Tryd.prog 12 #[arrV g] W fun e w' => e = .returned (strV g) ∧ D w' from fun W hW => (key_any W g GL.out).mono fun e w' ⟨h1, h2⟩ => ⟨h1, HDm.out _ ((HD.out W hW).trans h2)⟩)
          have k2 := fun i : InC D => KP.out i.w
          try rw [show (h == g) = true by rw [ehg.out]; simp] at k2
          unfold strV at C1 C2
          unfold arrV at C1 C2 k1 k3
          have hne : Nonempty (InC D) := ⟨⟨_, HN0.out⟩⟩
          refine wp_region_class D HN0.out (by kernel_rfl) (by kernel_rfl) ?_
          try go_frame
          repeat (first
            | (refine quiet_loadG (by rfl) 25 (.tmp 6) rfl ⟨w2.heap.size, 0, none⟩ rfl (.agg (cellsB h).toArray) k1.out ?_; go_frame)
            | (refine quiet_loadG (by rfl) 25 (.tmp 8) rfl ⟨w4.heap.size, 0, none⟩ rfl (.agg (cellsB g).toArray) k3.out ?_; go_frame)
            | (go_big_quiet_step ((first
                | with_reducible exact calls_class C1.out
                | with_reducible exact calls_class C2.out))))
          refine wpQuiet_nil ?_
          rintro W ⟨i, rfl⟩
          have hs := HD.out _ i.h
          clear k1 k2 k3 C1 C2 hne
          generalize i.w = w7 at *
          have HS7 := Lib.hid (HS6.out.trans hs)
          clear hs HN0 HD HDm i D kl z1 z2
          go_wp2
          have hj := HJ.out
          first
            | exact ⟨⟨j + 1, by omega, by go_num, HS7.out⟩, by simp [intOf]; omega⟩
            | (go_round
               case rel => exact ⟨j + 1, by omega, by go_num, HS7.out⟩
               case measure => simp [intOf]; omega)
    · obtain rfl : j = 4 := by omega
      have HS := Lib.hid hst
      clear hst
      go_wp2_with fail
      refine (sure_any wr (HP.out.stay HS.out (fun x => x)) (Nat.lt_of_lt_of_le HG.out HS.out.size) (err_stay HE.out HS.out)).mono ?_
      rintro e w9 ⟨rfl, s9⟩
      go_wp2
      go_ret
      exact ⟨rfl, HST.out.trans (HS.out.trans s9)⟩
end Go.Proofs.YtljhfccaoncjeaaDoor.Fg
