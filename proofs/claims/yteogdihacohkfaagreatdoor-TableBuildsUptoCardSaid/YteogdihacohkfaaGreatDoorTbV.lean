/-
  table's laws: TableBuilds, walked.
-/
import Derived.Test.YteogdihacohkfaaGreatDoorTbU
import Derived.Test.YteogdihacohkfaaGreatDoorTbO
import Derived.Test.YteogdihacohkfaaGreatDoorErrPk
namespace Go.Proofs.YteogdihacohkfaaGreatDoor.Tb
open Go.RowKit
open Pk (stay_seal)
open Me (En EnS EnO Box enC enV norm ltB Sorted getL posN hasB sizeL)
open Pk (spellB bytesB Slc Owns)
set_option maxRecDepth 100000
set_option linter.unusedVariables false

/-- Both Builds, of any arguments: the same bytes or the same error. -/
theorem both (L : List En) (x0 x1 : Int) (hl : L.length ≤ 1000) (hz : sizeL L ≤ 1000000000) : ∃ (D : List UInt8) (f : Nat), D.length ≤ 1048576 ∧ ∀ (W : World) (v : Value), EnS W v L →
    (Calls Tryz.prog 7 #[v, .int .i64 x0, .int .i64 x1] W fun e w' => (∃ u, e = .returned (.tuple #[u, errT f]) ∧ Owns W.heap.size w' u D) ∧ Stay (fun _ => False) W w') ∧
    (Calls Tryz.prog 9 #[v, .int .i64 x0, .int .i64 x1] W fun e w' => (∃ u, e = .returned (.tuple #[u, .int .i64 (f : Int)]) ∧ Owns W.heap.size w' u D) ∧ Stay (fun _ => False) W w') := by
  by_cases hb : L.length = 0 ∨ x0 < 1 ∨ 1000 < x0 ∨ x1 < 1 ∨ 64 < x1
  · refine ⟨[], 1, by decide, fun W v hv => ?_⟩
    obtain ⟨a0, c, rfl⟩ := hv.form
    exact ⟨(build_bad W a0 _ c x0 x1 (by omega) hb).mono (fun e w' h => ⟨⟨_, h.1, Owns.nil _ _⟩, h.2⟩), (rbuild_bad W a0 _ c x0 x1 (by omega) hb).mono (fun e w' h => ⟨⟨_, h.1, Owns.nil _ _⟩, h.2⟩)⟩
  · obtain ⟨p, hp⟩ : ∃ p : Nat, x0 = (p : Int) := ⟨x0.toNat, by omega⟩
    obtain ⟨q, hq⟩ : ∃ q : Nat, x1 = (q : Int) := ⟨x1.toNat, by omega⟩
    subst hp hq
    by_cases hs : Sorted L
    · have hd : ∃ (D : List UInt8) (f : Nat), if (tabB L p q).length ≤ 1048576 then D = tabB L p q ∧ f = 0 else D = [] ∧ f = 2 := by
        by_cases h : (tabB L p q).length ≤ 1048576
        · exact ⟨tabB L p q, 0, by rw [if_pos h]; exact ⟨rfl, rfl⟩⟩
        · exact ⟨[], 2, by rw [if_neg h]; exact ⟨rfl, rfl⟩⟩
      obtain ⟨D, f, hD⟩ := hd
      refine ⟨D, f, ?_, fun W v hv => ⟨build_gen W v L p q D f hv hs (by omega) (by omega) (by omega) (by omega) (by omega) hl hz hD, rbuild_ok W v L p q D f hv hs (by omega) (by omega) (by omega) (by omega) (by omega) hl hz hD⟩⟩
      by_cases h : (tabB L p q).length ≤ 1048576
      · rw [if_pos h] at hD
        rw [hD.1]
        exact h
      · rw [if_neg h] at hD
        rw [hD.1]
        decide
    · refine ⟨[], 41, by decide, fun W v hv => ?_⟩
      exact ⟨(build_order W v L p q hv hs (by omega) (by omega) (by omega) (by omega) (by omega) hl).mono (fun e w' h => ⟨⟨_, h.1, Owns.nil _ _⟩, h.2⟩), (rbuild_order W v L p q hv hs (by omega) (by omega) (by omega) (by omega) (by omega) hl).mono (fun e w' h => ⟨⟨_, h.1, Owns.nil _ _⟩, h.2⟩)⟩

set_option maxHeartbeats 2000000 in
theorem builds_walk (w : World) (x : Value) (L : List En) (x0 x1 : Int) (hE : ErrCell w) (hx : EnS w x L) (hl : L.length ≤ 1048576) (hz : L.length ≤ 300 → sizeL L ≤ 1000000000) :
    Calls Tryz.prog 3 #[x, .agg #[.int .i64 x0, .int .i64 x1]] w fun e w' => e = .returned (.bool true) ∧ Stay (fun _ => False) w w' := by
  have HX := Lib.hid hx
  have HG := Lib.hid hE
  obtain ⟨a0, c, rfl⟩ := hx.form
  obtain ⟨b, hb⟩ : ∃ b, b = w.heap.size := ⟨_, rfl⟩
  obtain ⟨w0, hw0⟩ : ∃ w0, w.alloc (.cells #[.int .i64 x0, .int .i64 x1] 24) = w0 := ⟨_, rfl⟩
  have hzw : w0.heap[b]? = some (.cells #[.int .i64 x0, .int .i64 x1] 24 (0, 0)) := by rw [hb, ← hw0]; exact heap_alloc_new w _
  have q0 : w0.cell? ⟨b, 0, none⟩ = some (.int .i64 x0) := by rw [cell_of_row w0 b 0 _ _ _ hzw]; rfl
  have q1 : w0.cell? ⟨b, 1, none⟩ = some (.int .i64 x1) := by rw [cell_of_row w0 b 1 _ _ _ hzw]; rfl
  have HZ0 := Lib.hid q0
  have HZ1 := Lib.hid q1
  have hs0 : Stay (fun _ => False) w w0 := hw0 ▸ Stay.alloc _ _
  have HSW := Lib.hid hs0
  have HX0 := Lib.hid (HX.out.stay0 hs0)
  have WW := Lib.hid hw0
  have HBW := Lib.hid hb
  have HNL := Lib.hid hl
  have hboth : L.length ≤ 300 → ∃ (D : List UInt8) (f : Nat), _ := fun h => both L x0 x1 (by omega) (hz h)
  have HBO := Lib.hid hboth
  obtain ⟨n, hn⟩ : ∃ n, n = L.length := ⟨_, rfl⟩
  rw [← hn] at HBO hl ⊢
  rw [← hn] at HX0
  have hnm : (n : Int) ≤ 1048576 := by omega
  have HNE := Lib.hid hn
  clear hx hE hw0 hb hs0 hzw hboth hl hz hn
  go_enter Tryz.func3, Tryz.ntmps3
  by_cases h0 : 300 < n
  · have d0 : decide ((300 : Int) < n) = true := decide_eq_true (by omega)
    clear h0 q0 q1
    go_wp2_with fail
    rw [WW.out]
    refine (sure_any w0).mono ?_
    rintro e w8 ⟨rfl, s8⟩
    have HS8 := Lib.hid (HSW.out.trans s8)
    clear s8
    go_wp2
    go_ret
    exact ⟨rfl, HS8.out⟩
  · have d0 : decide ((300 : Int) < n) = false := decide_eq_false (by omega)
    obtain ⟨D, f, hDl, hDD⟩ := HBO.out (by omega)
    have HD := Lib.hid hDD
    have HNS := Lib.hid (show L.length ≤ 1000000 by rw [← HNE.out]; omega)
    clear h0 hDD
    have q0' : (World.alloc w (.cells #[.int .i64 x0, .int .i64 x1] 24)).cell? ⟨w.heap.size, 1, none⟩ = some (.int .i64 x1) := by rw [WW.out, ← HBW.out]; exact q1
    clear q0 q1
    by_cases h1 : 0 < n
    · have d1 : decide ((0 : Int) < n) = true := decide_eq_true (by omega)
      by_cases h2 : 0 < x1
      · have d2 : decide ((0 : Int) < x1) = true := decide_eq_true h2
        clear h2
        by_cases h3 : x1 ≤ 64
        · have d3 : decide (x1 ≤ (64 : Int)) = true := decide_eq_true h3
          clear h3
          cases d4 : decide ((5000 : Int) < wrap64 (x1 * (n : Int))) with
          | true =>
            go_wp2_with fail
            rw [WW.out]
            refine (sure_any w0).mono ?_
            rintro e w8 ⟨rfl, s8⟩
            have HS8 := Lib.hid (HSW.out.trans s8)
            clear s8
            go_wp2
            go_ret
            exact ⟨rfl, HS8.out⟩
          | false =>
            go_wp2
            rw [WW.out, ← HBW.out]
            refine wp_region_held (S := Stay (fun _ => False) w0.drew) (by kernel_rfl) ?_
            change wpAnyH _ _ _ _ _ _ _ _ (World.drew _)
            have hst : Stay (fun _ => False) w0 w0.drew := Stay.drew
            refine wpAnyH_takeL (i := 0) (v := .slice a0 n c) #[true, false, false, false, false, false, false, false, false, false, false, false] rfl (by kernel_rfl) (by kernel_rfl) (by kernel_rfl) (fun _ _ _ h => h) (by kernel_rfl) (Stay.refl _ _) (Or.inl ⟨by rfl, fun W hW => ?_⟩) ?_
            · go_simp
            conv => arg 8; simp [Act.put]
            refine wpAnyH_takeL (i := 2) (v := .pointer (some ⟨b, 0, none⟩)) #[true, false, true, false, false, false, false, false, false, false, false, false] rfl (by kernel_rfl) (by kernel_rfl) (by kernel_rfl) (fun _ _ _ h => h) (by kernel_rfl) (Stay.refl _ _) (Or.inl ⟨by rfl, fun W hW => ?_⟩) ?_
            · go_simp
            conv => arg 8; simp [Act.put]
            refine wpAnyH_takeL (i := 3) (v := .int .i64 x0) #[true, false, true, true, false, false, false, false, false, false, false, false] rfl (by kernel_rfl) (by kernel_rfl) (by kernel_rfl) (fun _ _ _ h => h) (by kernel_rfl) (Stay.refl _ _) (Or.inl ⟨by rfl, fun W hW => ?_⟩) ?_
            · have kc := (hst.trans hW).cell HZ0.out (fun x => x)
              go_simp
            conv => arg 8; simp [Act.put]
            refine wpAnyH_takeL (i := 4) (v := .pointer (some ⟨b, 1, none⟩)) #[true, false, true, true, true, false, false, false, false, false, false, false] rfl (by kernel_rfl) (by kernel_rfl) (by kernel_rfl) (fun _ _ _ h => h) (by kernel_rfl) (Stay.refl _ _) (Or.inl ⟨by rfl, fun W hW => ?_⟩) ?_
            · go_simp
            conv => arg 8; simp [Act.put]
            refine wpAnyH_takeL (i := 5) (v := .int .i64 x1) #[true, false, true, true, true, true, false, false, false, false, false, false] rfl (by kernel_rfl) (by kernel_rfl) (by kernel_rfl) (fun _ _ _ h => h) (by kernel_rfl) (Stay.refl _ _) (Or.inl ⟨by rfl, fun W hW => ?_⟩) ?_
            · have kc := (hst.trans hW).cell HZ1.out (fun x => x)
              go_simp
            conv => arg 8; simp [Act.put]
            refine wpAnyH_one #[true, true, true, true, true, true, false, false, false, false, false, false] (i := 1) rfl (by kernel_rfl) (by kernel_rfl) (fun K hK => ?_)
            go_simp
            go_wp2_with (go_at_call 8; refine (Me.own_any w0.drew _ L (HX0.out.stay0 hst) HNS.out).mono ?_; rintro e z1 ⟨v4, rfl, ho4, s⟩; have HE4 := Lib.hid ho4.ens; clear ho4)
            replace hst := hst.trans s
            refine hK _ _ s ?_
            clear hK
            conv => arg 8; simp [Act.put]
            refine wpAnyH_narrow (S' := Stay (fun _ => False) z1) (fun _ h => s.trans h) _ _ _ _ ?_
            clear s
            refine wpAnyH_one #[true, true, true, true, true, true, true, false, false, false, false, false] (i := 6) rfl (by kernel_rfl) (by kernel_rfl) (fun K hK => ?_)
            go_simp
            go_wp2_with (go_at_call 7; refine ((HD.out z1 v4 HE4.out).1).mono ?_; rintro e z2 ⟨⟨v5, rfl, ho5⟩, s⟩; have H5 := Lib.hid ho5.slc; obtain ⟨a5, c5, rfl⟩ := ho5.form; clear ho5)
            replace hst := hst.trans s
            refine hK _ _ s ?_
            clear hK
            conv => arg 8; simp [Act.put]
            refine wpAnyH_narrow (S' := Stay (fun _ => False) z2) (fun _ h => s.trans h) _ _ _ _ ?_
            clear s
            refine wpAnyH_takeL (i := 7) (v := .tuple #[.slice a5 D.length c5, errT f]) #[true, true, true, true, true, true, true, true, false, false, false, false] rfl (by kernel_rfl) (by kernel_rfl) (by kernel_rfl) (fun _ _ _ h => h) (by kernel_rfl) (Stay.refl _ _) (Or.inl ⟨by rfl, fun W hW => ?_⟩) ?_
            · go_simp
            conv => arg 8; simp [Act.put]
            refine wpAnyH_takeL (i := 8) (v := .slice a5 D.length c5) #[true, true, true, true, true, true, true, true, true, false, false, false] rfl (by kernel_rfl) (by kernel_rfl) (by kernel_rfl) (fun _ _ _ h => h) (by kernel_rfl) (Stay.refl _ _) (Or.inl ⟨by rfl, fun W hW => ?_⟩) ?_
            · go_simp
            conv => arg 8; simp [Act.put]
            refine wpAnyH_takeL (i := 9) (v := errT f) #[true, true, true, true, true, true, true, true, true, true, false, false] rfl (by kernel_rfl) (by kernel_rfl) (by kernel_rfl) (fun _ _ _ h => h) (by kernel_rfl) (Stay.refl _ _) (Or.inl ⟨by rfl, fun W hW => ?_⟩) ?_
            · go_simp
            conv => arg 8; simp [Act.put]
            refine wpAnyH_takeL (i := 10) (v := .slice a5 D.length c5) #[true, true, true, true, true, true, true, true, true, true, true, false] rfl (by kernel_rfl) (by kernel_rfl) (by kernel_rfl) (fun _ _ _ h => h) (by kernel_rfl) (Stay.refl _ _) (Or.inl ⟨by rfl, fun W hW => ?_⟩) ?_
            · go_simp
            conv => arg 8; simp [Act.put]
            refine wpAnyH_takeL (i := 11) (v := errT f) #[true, true, true, true, true, true, true, true, true, true, true, true] rfl (by kernel_rfl) (by kernel_rfl) (by kernel_rfl) (fun _ _ _ h => h) (by kernel_rfl) (Stay.refl _ _) (Or.inl ⟨by rfl, fun W hW => ?_⟩) ?_
            · go_simp
            conv => arg 8; simp [Act.put]
            refine wpAnyH_done (by kernel_rfl) ?_ _
            have HS5 := Lib.hid (HSW.out.trans hst)
            have HXR := Lib.hid (HX0.out.stay0 hst)
            have r0 := hst.cell HZ0.out (fun x => x)
            have r1 := hst.cell HZ1.out (fun x => x)
            generalize z2 = w5 at *
            clear hst HE4
            go_wp2_with fail
            refine (HD.out w5 _ HXR.out).2.mono ?_
            rintro e w6 ⟨⟨v6, rfl, ho6⟩, s6⟩
            have H6 := Lib.hid ho6.slc
            obtain ⟨a6, c6, rfl⟩ := ho6.form
            have H56 := Lib.hid (H5.out.stay0 s6)
            have HS6 := Lib.hid (HS5.out.trans s6)
            have HG6 := Lib.hid (Pk.ErrCell.stay0 HG.out HS6.out)
            clear r0 r1 s6 ho6 H5
            have cv1 := Pk.conv_slc H56.out
            have cv2 := Pk.conv_slc H6.out
            unfold Pk.strV at cv1 cv2
            go_wp2_with fail
            refine (Pk.num_any f w6 HG6.out (errT f) rfl).mono ?_
            rintro e w7 ⟨rfl, s7⟩
            have HS7 := Lib.hid (HS6.out.trans s7)
            clear s7 cv1 cv2
            go_wp2_with fail
            refine (sure_any w7).mono ?_
            rintro e w8 ⟨rfl, s8⟩
            have HS8 := Lib.hid (HS7.out.trans s8)
            clear s8
            go_wp2
            go_ret
            exact ⟨rfl, HS8.out⟩
        · have d3 : decide (x1 ≤ (64 : Int)) = false := decide_eq_false h3
          clear h3
          go_wp2
          rw [WW.out, ← HBW.out]
          refine wp_region_held (S := Stay (fun _ => False) w0.drew) (by kernel_rfl) ?_
          change wpAnyH _ _ _ _ _ _ _ _ (World.drew _)
          have hst : Stay (fun _ => False) w0 w0.drew := Stay.drew
          refine wpAnyH_takeL (i := 0) (v := .slice a0 n c) #[true, false, false, false, false, false, false, false, false, false, false, false] rfl (by kernel_rfl) (by kernel_rfl) (by kernel_rfl) (fun _ _ _ h => h) (by kernel_rfl) (Stay.refl _ _) (Or.inl ⟨by rfl, fun W hW => ?_⟩) ?_
          · go_simp
          conv => arg 8; simp [Act.put]
          refine wpAnyH_takeL (i := 2) (v := .pointer (some ⟨b, 0, none⟩)) #[true, false, true, false, false, false, false, false, false, false, false, false] rfl (by kernel_rfl) (by kernel_rfl) (by kernel_rfl) (fun _ _ _ h => h) (by kernel_rfl) (Stay.refl _ _) (Or.inl ⟨by rfl, fun W hW => ?_⟩) ?_
          · go_simp
          conv => arg 8; simp [Act.put]
          refine wpAnyH_takeL (i := 3) (v := .int .i64 x0) #[true, false, true, true, false, false, false, false, false, false, false, false] rfl (by kernel_rfl) (by kernel_rfl) (by kernel_rfl) (fun _ _ _ h => h) (by kernel_rfl) (Stay.refl _ _) (Or.inl ⟨by rfl, fun W hW => ?_⟩) ?_
          · have kc := (hst.trans hW).cell HZ0.out (fun x => x)
            go_simp
          conv => arg 8; simp [Act.put]
          refine wpAnyH_takeL (i := 4) (v := .pointer (some ⟨b, 1, none⟩)) #[true, false, true, true, true, false, false, false, false, false, false, false] rfl (by kernel_rfl) (by kernel_rfl) (by kernel_rfl) (fun _ _ _ h => h) (by kernel_rfl) (Stay.refl _ _) (Or.inl ⟨by rfl, fun W hW => ?_⟩) ?_
          · go_simp
          conv => arg 8; simp [Act.put]
          refine wpAnyH_takeL (i := 5) (v := .int .i64 x1) #[true, false, true, true, true, true, false, false, false, false, false, false] rfl (by kernel_rfl) (by kernel_rfl) (by kernel_rfl) (fun _ _ _ h => h) (by kernel_rfl) (Stay.refl _ _) (Or.inl ⟨by rfl, fun W hW => ?_⟩) ?_
          · have kc := (hst.trans hW).cell HZ1.out (fun x => x)
            go_simp
          conv => arg 8; simp [Act.put]
          refine wpAnyH_one #[true, true, true, true, true, true, false, false, false, false, false, false] (i := 1) rfl (by kernel_rfl) (by kernel_rfl) (fun K hK => ?_)
          go_simp
          go_wp2_with (go_at_call 8; refine (Me.own_any w0.drew _ L (HX0.out.stay0 hst) HNS.out).mono ?_; rintro e z1 ⟨v4, rfl, ho4, s⟩; have HE4 := Lib.hid ho4.ens; clear ho4)
          replace hst := hst.trans s
          refine hK _ _ s ?_
          clear hK
          conv => arg 8; simp [Act.put]
          refine wpAnyH_narrow (S' := Stay (fun _ => False) z1) (fun _ h => s.trans h) _ _ _ _ ?_
          clear s
          refine wpAnyH_one #[true, true, true, true, true, true, true, false, false, false, false, false] (i := 6) rfl (by kernel_rfl) (by kernel_rfl) (fun K hK => ?_)
          go_simp
          go_wp2_with (go_at_call 7; refine ((HD.out z1 v4 HE4.out).1).mono ?_; rintro e z2 ⟨⟨v5, rfl, ho5⟩, s⟩; have H5 := Lib.hid ho5.slc; obtain ⟨a5, c5, rfl⟩ := ho5.form; clear ho5)
          replace hst := hst.trans s
          refine hK _ _ s ?_
          clear hK
          conv => arg 8; simp [Act.put]
          refine wpAnyH_narrow (S' := Stay (fun _ => False) z2) (fun _ h => s.trans h) _ _ _ _ ?_
          clear s
          refine wpAnyH_takeL (i := 7) (v := .tuple #[.slice a5 D.length c5, errT f]) #[true, true, true, true, true, true, true, true, false, false, false, false] rfl (by kernel_rfl) (by kernel_rfl) (by kernel_rfl) (fun _ _ _ h => h) (by kernel_rfl) (Stay.refl _ _) (Or.inl ⟨by rfl, fun W hW => ?_⟩) ?_
          · go_simp
          conv => arg 8; simp [Act.put]
          refine wpAnyH_takeL (i := 8) (v := .slice a5 D.length c5) #[true, true, true, true, true, true, true, true, true, false, false, false] rfl (by kernel_rfl) (by kernel_rfl) (by kernel_rfl) (fun _ _ _ h => h) (by kernel_rfl) (Stay.refl _ _) (Or.inl ⟨by rfl, fun W hW => ?_⟩) ?_
          · go_simp
          conv => arg 8; simp [Act.put]
          refine wpAnyH_takeL (i := 9) (v := errT f) #[true, true, true, true, true, true, true, true, true, true, false, false] rfl (by kernel_rfl) (by kernel_rfl) (by kernel_rfl) (fun _ _ _ h => h) (by kernel_rfl) (Stay.refl _ _) (Or.inl ⟨by rfl, fun W hW => ?_⟩) ?_
          · go_simp
          conv => arg 8; simp [Act.put]
          refine wpAnyH_takeL (i := 10) (v := .slice a5 D.length c5) #[true, true, true, true, true, true, true, true, true, true, true, false] rfl (by kernel_rfl) (by kernel_rfl) (by kernel_rfl) (fun _ _ _ h => h) (by kernel_rfl) (Stay.refl _ _) (Or.inl ⟨by rfl, fun W hW => ?_⟩) ?_
          · go_simp
          conv => arg 8; simp [Act.put]
          refine wpAnyH_takeL (i := 11) (v := errT f) #[true, true, true, true, true, true, true, true, true, true, true, true] rfl (by kernel_rfl) (by kernel_rfl) (by kernel_rfl) (fun _ _ _ h => h) (by kernel_rfl) (Stay.refl _ _) (Or.inl ⟨by rfl, fun W hW => ?_⟩) ?_
          · go_simp
          conv => arg 8; simp [Act.put]
          refine wpAnyH_done (by kernel_rfl) ?_ _
          have HS5 := Lib.hid (HSW.out.trans hst)
          have HXR := Lib.hid (HX0.out.stay0 hst)
          have r0 := hst.cell HZ0.out (fun x => x)
          have r1 := hst.cell HZ1.out (fun x => x)
          generalize z2 = w5 at *
          clear hst HE4
          go_wp2_with fail
          refine (HD.out w5 _ HXR.out).2.mono ?_
          rintro e w6 ⟨⟨v6, rfl, ho6⟩, s6⟩
          have H6 := Lib.hid ho6.slc
          obtain ⟨a6, c6, rfl⟩ := ho6.form
          have H56 := Lib.hid (H5.out.stay0 s6)
          have HS6 := Lib.hid (HS5.out.trans s6)
          have HG6 := Lib.hid (Pk.ErrCell.stay0 HG.out HS6.out)
          clear r0 r1 s6 ho6 H5
          have cv1 := Pk.conv_slc H56.out
          have cv2 := Pk.conv_slc H6.out
          unfold Pk.strV at cv1 cv2
          go_wp2_with fail
          refine (Pk.num_any f w6 HG6.out (errT f) rfl).mono ?_
          rintro e w7 ⟨rfl, s7⟩
          have HS7 := Lib.hid (HS6.out.trans s7)
          clear s7 cv1 cv2
          go_wp2_with fail
          refine (sure_any w7).mono ?_
          rintro e w8 ⟨rfl, s8⟩
          have HS8 := Lib.hid (HS7.out.trans s8)
          clear s8
          go_wp2
          go_ret
          exact ⟨rfl, HS8.out⟩
      · have d2 : decide ((0 : Int) < x1) = false := decide_eq_false h2
        clear h2
        go_wp2
        rw [WW.out, ← HBW.out]
        refine wp_region_held (S := Stay (fun _ => False) w0.drew) (by kernel_rfl) ?_
        change wpAnyH _ _ _ _ _ _ _ _ (World.drew _)
        have hst : Stay (fun _ => False) w0 w0.drew := Stay.drew
        refine wpAnyH_takeL (i := 0) (v := .slice a0 n c) #[true, false, false, false, false, false, false, false, false, false, false, false] rfl (by kernel_rfl) (by kernel_rfl) (by kernel_rfl) (fun _ _ _ h => h) (by kernel_rfl) (Stay.refl _ _) (Or.inl ⟨by rfl, fun W hW => ?_⟩) ?_
        · go_simp
        conv => arg 8; simp [Act.put]
        refine wpAnyH_takeL (i := 2) (v := .pointer (some ⟨b, 0, none⟩)) #[true, false, true, false, false, false, false, false, false, false, false, false] rfl (by kernel_rfl) (by kernel_rfl) (by kernel_rfl) (fun _ _ _ h => h) (by kernel_rfl) (Stay.refl _ _) (Or.inl ⟨by rfl, fun W hW => ?_⟩) ?_
        · go_simp
        conv => arg 8; simp [Act.put]
        refine wpAnyH_takeL (i := 3) (v := .int .i64 x0) #[true, false, true, true, false, false, false, false, false, false, false, false] rfl (by kernel_rfl) (by kernel_rfl) (by kernel_rfl) (fun _ _ _ h => h) (by kernel_rfl) (Stay.refl _ _) (Or.inl ⟨by rfl, fun W hW => ?_⟩) ?_
        · have kc := (hst.trans hW).cell HZ0.out (fun x => x)
          go_simp
        conv => arg 8; simp [Act.put]
        refine wpAnyH_takeL (i := 4) (v := .pointer (some ⟨b, 1, none⟩)) #[true, false, true, true, true, false, false, false, false, false, false, false] rfl (by kernel_rfl) (by kernel_rfl) (by kernel_rfl) (fun _ _ _ h => h) (by kernel_rfl) (Stay.refl _ _) (Or.inl ⟨by rfl, fun W hW => ?_⟩) ?_
        · go_simp
        conv => arg 8; simp [Act.put]
        refine wpAnyH_takeL (i := 5) (v := .int .i64 x1) #[true, false, true, true, true, true, false, false, false, false, false, false] rfl (by kernel_rfl) (by kernel_rfl) (by kernel_rfl) (fun _ _ _ h => h) (by kernel_rfl) (Stay.refl _ _) (Or.inl ⟨by rfl, fun W hW => ?_⟩) ?_
        · have kc := (hst.trans hW).cell HZ1.out (fun x => x)
          go_simp
        conv => arg 8; simp [Act.put]
        refine wpAnyH_one #[true, true, true, true, true, true, false, false, false, false, false, false] (i := 1) rfl (by kernel_rfl) (by kernel_rfl) (fun K hK => ?_)
        go_simp
        go_wp2_with (go_at_call 8; refine (Me.own_any w0.drew _ L (HX0.out.stay0 hst) HNS.out).mono ?_; rintro e z1 ⟨v4, rfl, ho4, s⟩; have HE4 := Lib.hid ho4.ens; clear ho4)
        replace hst := hst.trans s
        refine hK _ _ s ?_
        clear hK
        conv => arg 8; simp [Act.put]
        refine wpAnyH_narrow (S' := Stay (fun _ => False) z1) (fun _ h => s.trans h) _ _ _ _ ?_
        clear s
        refine wpAnyH_one #[true, true, true, true, true, true, true, false, false, false, false, false] (i := 6) rfl (by kernel_rfl) (by kernel_rfl) (fun K hK => ?_)
        go_simp
        go_wp2_with (go_at_call 7; refine ((HD.out z1 v4 HE4.out).1).mono ?_; rintro e z2 ⟨⟨v5, rfl, ho5⟩, s⟩; have H5 := Lib.hid ho5.slc; obtain ⟨a5, c5, rfl⟩ := ho5.form; clear ho5)
        replace hst := hst.trans s
        refine hK _ _ s ?_
        clear hK
        conv => arg 8; simp [Act.put]
        refine wpAnyH_narrow (S' := Stay (fun _ => False) z2) (fun _ h => s.trans h) _ _ _ _ ?_
        clear s
        refine wpAnyH_takeL (i := 7) (v := .tuple #[.slice a5 D.length c5, errT f]) #[true, true, true, true, true, true, true, true, false, false, false, false] rfl (by kernel_rfl) (by kernel_rfl) (by kernel_rfl) (fun _ _ _ h => h) (by kernel_rfl) (Stay.refl _ _) (Or.inl ⟨by rfl, fun W hW => ?_⟩) ?_
        · go_simp
        conv => arg 8; simp [Act.put]
        refine wpAnyH_takeL (i := 8) (v := .slice a5 D.length c5) #[true, true, true, true, true, true, true, true, true, false, false, false] rfl (by kernel_rfl) (by kernel_rfl) (by kernel_rfl) (fun _ _ _ h => h) (by kernel_rfl) (Stay.refl _ _) (Or.inl ⟨by rfl, fun W hW => ?_⟩) ?_
        · go_simp
        conv => arg 8; simp [Act.put]
        refine wpAnyH_takeL (i := 9) (v := errT f) #[true, true, true, true, true, true, true, true, true, true, false, false] rfl (by kernel_rfl) (by kernel_rfl) (by kernel_rfl) (fun _ _ _ h => h) (by kernel_rfl) (Stay.refl _ _) (Or.inl ⟨by rfl, fun W hW => ?_⟩) ?_
        · go_simp
        conv => arg 8; simp [Act.put]
        refine wpAnyH_takeL (i := 10) (v := .slice a5 D.length c5) #[true, true, true, true, true, true, true, true, true, true, true, false] rfl (by kernel_rfl) (by kernel_rfl) (by kernel_rfl) (fun _ _ _ h => h) (by kernel_rfl) (Stay.refl _ _) (Or.inl ⟨by rfl, fun W hW => ?_⟩) ?_
        · go_simp
        conv => arg 8; simp [Act.put]
        refine wpAnyH_takeL (i := 11) (v := errT f) #[true, true, true, true, true, true, true, true, true, true, true, true] rfl (by kernel_rfl) (by kernel_rfl) (by kernel_rfl) (fun _ _ _ h => h) (by kernel_rfl) (Stay.refl _ _) (Or.inl ⟨by rfl, fun W hW => ?_⟩) ?_
        · go_simp
        conv => arg 8; simp [Act.put]
        refine wpAnyH_done (by kernel_rfl) ?_ _
        have HS5 := Lib.hid (HSW.out.trans hst)
        have HXR := Lib.hid (HX0.out.stay0 hst)
        have r0 := hst.cell HZ0.out (fun x => x)
        have r1 := hst.cell HZ1.out (fun x => x)
        generalize z2 = w5 at *
        clear hst HE4
        go_wp2_with fail
        refine (HD.out w5 _ HXR.out).2.mono ?_
        rintro e w6 ⟨⟨v6, rfl, ho6⟩, s6⟩
        have H6 := Lib.hid ho6.slc
        obtain ⟨a6, c6, rfl⟩ := ho6.form
        have H56 := Lib.hid (H5.out.stay0 s6)
        have HS6 := Lib.hid (HS5.out.trans s6)
        have HG6 := Lib.hid (Pk.ErrCell.stay0 HG.out HS6.out)
        clear r0 r1 s6 ho6 H5
        have cv1 := Pk.conv_slc H56.out
        have cv2 := Pk.conv_slc H6.out
        unfold Pk.strV at cv1 cv2
        go_wp2_with fail
        refine (Pk.num_any f w6 HG6.out (errT f) rfl).mono ?_
        rintro e w7 ⟨rfl, s7⟩
        have HS7 := Lib.hid (HS6.out.trans s7)
        clear s7 cv1 cv2
        go_wp2_with fail
        refine (sure_any w7).mono ?_
        rintro e w8 ⟨rfl, s8⟩
        have HS8 := Lib.hid (HS7.out.trans s8)
        clear s8
        go_wp2
        go_ret
        exact ⟨rfl, HS8.out⟩
    · have d1 : decide ((0 : Int) < n) = false := decide_eq_false (by omega)
      go_wp2
      rw [WW.out, ← HBW.out]
      refine wp_region_held (S := Stay (fun _ => False) w0.drew) (by kernel_rfl) ?_
      change wpAnyH _ _ _ _ _ _ _ _ (World.drew _)
      have hst : Stay (fun _ => False) w0 w0.drew := Stay.drew
      refine wpAnyH_takeL (i := 0) (v := .slice a0 n c) #[true, false, false, false, false, false, false, false, false, false, false, false] rfl (by kernel_rfl) (by kernel_rfl) (by kernel_rfl) (fun _ _ _ h => h) (by kernel_rfl) (Stay.refl _ _) (Or.inl ⟨by rfl, fun W hW => ?_⟩) ?_
      · go_simp
      conv => arg 8; simp [Act.put]
      refine wpAnyH_takeL (i := 2) (v := .pointer (some ⟨b, 0, none⟩)) #[true, false, true, false, false, false, false, false, false, false, false, false] rfl (by kernel_rfl) (by kernel_rfl) (by kernel_rfl) (fun _ _ _ h => h) (by kernel_rfl) (Stay.refl _ _) (Or.inl ⟨by rfl, fun W hW => ?_⟩) ?_
      · go_simp
      conv => arg 8; simp [Act.put]
      refine wpAnyH_takeL (i := 3) (v := .int .i64 x0) #[true, false, true, true, false, false, false, false, false, false, false, false] rfl (by kernel_rfl) (by kernel_rfl) (by kernel_rfl) (fun _ _ _ h => h) (by kernel_rfl) (Stay.refl _ _) (Or.inl ⟨by rfl, fun W hW => ?_⟩) ?_
      · have kc := (hst.trans hW).cell HZ0.out (fun x => x)
        go_simp
      conv => arg 8; simp [Act.put]
      refine wpAnyH_takeL (i := 4) (v := .pointer (some ⟨b, 1, none⟩)) #[true, false, true, true, true, false, false, false, false, false, false, false] rfl (by kernel_rfl) (by kernel_rfl) (by kernel_rfl) (fun _ _ _ h => h) (by kernel_rfl) (Stay.refl _ _) (Or.inl ⟨by rfl, fun W hW => ?_⟩) ?_
      · go_simp
      conv => arg 8; simp [Act.put]
      refine wpAnyH_takeL (i := 5) (v := .int .i64 x1) #[true, false, true, true, true, true, false, false, false, false, false, false] rfl (by kernel_rfl) (by kernel_rfl) (by kernel_rfl) (fun _ _ _ h => h) (by kernel_rfl) (Stay.refl _ _) (Or.inl ⟨by rfl, fun W hW => ?_⟩) ?_
      · have kc := (hst.trans hW).cell HZ1.out (fun x => x)
        go_simp
      conv => arg 8; simp [Act.put]
      refine wpAnyH_one #[true, true, true, true, true, true, false, false, false, false, false, false] (i := 1) rfl (by kernel_rfl) (by kernel_rfl) (fun K hK => ?_)
      go_simp
      go_wp2_with (go_at_call 8; refine (Me.own_any w0.drew _ L (HX0.out.stay0 hst) HNS.out).mono ?_; rintro e z1 ⟨v4, rfl, ho4, s⟩; have HE4 := Lib.hid ho4.ens; clear ho4)
      replace hst := hst.trans s
      refine hK _ _ s ?_
      clear hK
      conv => arg 8; simp [Act.put]
      refine wpAnyH_narrow (S' := Stay (fun _ => False) z1) (fun _ h => s.trans h) _ _ _ _ ?_
      clear s
      refine wpAnyH_one #[true, true, true, true, true, true, true, false, false, false, false, false] (i := 6) rfl (by kernel_rfl) (by kernel_rfl) (fun K hK => ?_)
      go_simp
      go_wp2_with (go_at_call 7; refine ((HD.out z1 v4 HE4.out).1).mono ?_; rintro e z2 ⟨⟨v5, rfl, ho5⟩, s⟩; have H5 := Lib.hid ho5.slc; obtain ⟨a5, c5, rfl⟩ := ho5.form; clear ho5)
      replace hst := hst.trans s
      refine hK _ _ s ?_
      clear hK
      conv => arg 8; simp [Act.put]
      refine wpAnyH_narrow (S' := Stay (fun _ => False) z2) (fun _ h => s.trans h) _ _ _ _ ?_
      clear s
      refine wpAnyH_takeL (i := 7) (v := .tuple #[.slice a5 D.length c5, errT f]) #[true, true, true, true, true, true, true, true, false, false, false, false] rfl (by kernel_rfl) (by kernel_rfl) (by kernel_rfl) (fun _ _ _ h => h) (by kernel_rfl) (Stay.refl _ _) (Or.inl ⟨by rfl, fun W hW => ?_⟩) ?_
      · go_simp
      conv => arg 8; simp [Act.put]
      refine wpAnyH_takeL (i := 8) (v := .slice a5 D.length c5) #[true, true, true, true, true, true, true, true, true, false, false, false] rfl (by kernel_rfl) (by kernel_rfl) (by kernel_rfl) (fun _ _ _ h => h) (by kernel_rfl) (Stay.refl _ _) (Or.inl ⟨by rfl, fun W hW => ?_⟩) ?_
      · go_simp
      conv => arg 8; simp [Act.put]
      refine wpAnyH_takeL (i := 9) (v := errT f) #[true, true, true, true, true, true, true, true, true, true, false, false] rfl (by kernel_rfl) (by kernel_rfl) (by kernel_rfl) (fun _ _ _ h => h) (by kernel_rfl) (Stay.refl _ _) (Or.inl ⟨by rfl, fun W hW => ?_⟩) ?_
      · go_simp
      conv => arg 8; simp [Act.put]
      refine wpAnyH_takeL (i := 10) (v := .slice a5 D.length c5) #[true, true, true, true, true, true, true, true, true, true, true, false] rfl (by kernel_rfl) (by kernel_rfl) (by kernel_rfl) (fun _ _ _ h => h) (by kernel_rfl) (Stay.refl _ _) (Or.inl ⟨by rfl, fun W hW => ?_⟩) ?_
      · go_simp
      conv => arg 8; simp [Act.put]
      refine wpAnyH_takeL (i := 11) (v := errT f) #[true, true, true, true, true, true, true, true, true, true, true, true] rfl (by kernel_rfl) (by kernel_rfl) (by kernel_rfl) (fun _ _ _ h => h) (by kernel_rfl) (Stay.refl _ _) (Or.inl ⟨by rfl, fun W hW => ?_⟩) ?_
      · go_simp
      conv => arg 8; simp [Act.put]
      refine wpAnyH_done (by kernel_rfl) ?_ _
      have HS5 := Lib.hid (HSW.out.trans hst)
      have HXR := Lib.hid (HX0.out.stay0 hst)
      have r0 := hst.cell HZ0.out (fun x => x)
      have r1 := hst.cell HZ1.out (fun x => x)
      generalize z2 = w5 at *
      clear hst HE4
      go_wp2_with fail
      refine (HD.out w5 _ HXR.out).2.mono ?_
      rintro e w6 ⟨⟨v6, rfl, ho6⟩, s6⟩
      have H6 := Lib.hid ho6.slc
      obtain ⟨a6, c6, rfl⟩ := ho6.form
      have H56 := Lib.hid (H5.out.stay0 s6)
      have HS6 := Lib.hid (HS5.out.trans s6)
      have HG6 := Lib.hid (Pk.ErrCell.stay0 HG.out HS6.out)
      clear r0 r1 s6 ho6 H5
      have cv1 := Pk.conv_slc H56.out
      have cv2 := Pk.conv_slc H6.out
      unfold Pk.strV at cv1 cv2
      go_wp2_with fail
      refine (Pk.num_any f w6 HG6.out (errT f) rfl).mono ?_
      rintro e w7 ⟨rfl, s7⟩
      have HS7 := Lib.hid (HS6.out.trans s7)
      clear s7 cv1 cv2
      go_wp2_with fail
      refine (sure_any w7).mono ?_
      rintro e w8 ⟨rfl, s8⟩
      have HS8 := Lib.hid (HS7.out.trans s8)
      clear s8
      go_wp2
      go_ret
      exact ⟨rfl, HS8.out⟩

end Go.Proofs.YteogdihacohkfaaGreatDoor.Tb
