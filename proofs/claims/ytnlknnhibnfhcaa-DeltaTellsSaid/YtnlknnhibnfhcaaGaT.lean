import Derived.Test.YtnlknnhibnfhcaaHeldS
import Derived.Test.YtnlknnhibnfhcaaDeX
import Derived.Test.YtnlknnhibnfhcaaDeY
import Derived.Test.YtnlknnhibnfhcaaDeN
import Derived.Test.YtnlknnhibnfhcaaDeW
import Derived.Test.YtnlknnhibnfhcaaDeA
import Derived.Test.YtnlknnhibnfhcaaPkOpen
import Derived.Laws.IdiomArrays
import Derived.OpenShut
import Derived.Test.YtnlknnhibnfhcaaLaw
import Derived.JoinedOf
import Derived.ChangeVars
import Derived.SizedLaws
/-
  A region that draws, held against a state: the state narrowed behind a call.
-/
namespace Go.Proofs.Ytnlknnhibnfhcaa
open Go.RowKit
set_option maxRecDepth 100000

/-- What S asks may be narrowed where one stands. -/
theorem wpAnyH_narrow {P : Program} {ops : Array Oper} {Q : Exit → Act → World → Prop} {md : Region.Mode} {S S' : World → Prop} (hSS : ∀ w, S' w → S w) : ∀ (fuel : Nat) (listed : Array Bool) (a : Act) (w : World), wpAnyH P md ops Q S' fuel listed a w → wpAnyH P md ops Q S fuel listed a w
  | 0, _, _, _, h => h
  | fuel + 1, _, _, _, h => ⟨h.1, fun i hi => wpOp_mono (fun a' w' h' => ⟨hSS _ h'.1, wpAnyH_narrow hSS fuel _ a' w' h'.2⟩) (h.2 i hi)⟩

end Go.Proofs.Ytnlknnhibnfhcaa

/-
  delta's laws: DeltaTells, walked.
-/
namespace Go.Proofs.Ytnlknnhibnfhcaa.De
open Go.RowKit Pk
set_option maxRecDepth 100000

set_option maxHeartbeats 8000000 in
theorem tells_walk (w : World) (a b : List UInt8) (z : Int) (ha : a.length = 64) (hb : b.length = 64) (z1 : -9223372036854775808 ≤ z) (z2 : z ≤ 9223372036854775807) :
    Calls Try.prog 3 #[arrV a, arrV b, .int .i64 z] w fun e w' => e = .returned (.bool true) ∧ Stay (fun _ => False) w w' := by
  have H1 := Lib.hid ((BAt.new w 23 a).stay0 (Stay.alloc _ (.cells (cellsB b).toArray 23)))
  have H2 := Lib.hid (BAt.new (w.alloc (.cells (cellsB a).toArray 23)) 23 b)
  have HS := Lib.hid ((Stay.alloc (X := fun _ => False) w (.cells (cellsB a).toArray 23)).trans (Stay.alloc _ (.cells (cellsB b).toArray 23)))
  have HA := Lib.hid ha
  have HB := Lib.hid hb
  clear ha hb
  unfold arrV
  go_enter Try.func3, Try.ntmps3
  go_wp2_with (first
    | (refine arr_64.load rfl (.tmp 3) rfl w.heap.size rfl a HA.out H1.out ?_)
    | (refine arr_64.load rfl (.tmp 4) rfl (w.heap.size + 1) rfl b HB.out (by simpa using H2.out) ?_))
  have H2' := H2.out
  rw [show (w.alloc (.cells (cellsB a).toArray 23)).heap.size = w.heap.size + 1 by simp] at H2'
  obtain ⟨w0, hw0⟩ : ∃ w0, (w.alloc (.cells (cellsB a).toArray 23)).alloc (.cells (cellsB b).toArray 23) = w0 := ⟨_, rfl⟩
  rw [hw0] at H1 HS H2' ⊢
  have K1 := Lib.hid H1.out
  have K2 := Lib.hid H2'
  clear H1 H2 H2' hw0
  refine (match_any w0 a b z HA.out HB.out).mono ?_
  rintro e w1 ⟨rfl, hs1⟩
  have K11 := Lib.hid (K1.out.stay0 hs1)
  have K21 := Lib.hid (K2.out.stay0 hs1)
  have HS1 := Lib.hid (HS.out.trans hs1)
  have HC := Lib.hid (rmatch_any w1 a b z HA.out HB.out z1 z2)
  clear hs1
  generalize matchN a b z = M at *
  obtain ⟨f, n⟩ := M
  unfold natV
  go_wp2_with (first
    | (refine arr_64.load rfl (.tmp 3) rfl w.heap.size rfl a HA.out K11.out ?_)
    | (refine arr_64.load rfl (.tmp 4) rfl (w.heap.size + 1) rfl b HB.out K21.out ?_))
  refine HC.out.mono ?_
  rintro e w2 ⟨rfl, hs2⟩
  have HS2 := Lib.hid (HS1.out.trans hs2)
  have K12 := Lib.hid (K11.out.stay0 hs2)
  have K22 := Lib.hid (K21.out.stay0 hs2)
  have HOL := Lib.hid (ops_len HA.out HB.out).2
  have HOL1 := Lib.hid (ops_len HA.out HB.out).1
  obtain ⟨ON, hON⟩ : ∃ ON, ON = opsN a b := ⟨_, rfl⟩
  rw [← hON] at HOL HOL1
  obtain ⟨N, hN⟩ : ∃ N, N = encodeN (opsN a b) := ⟨_, rfl⟩
  have HN := Lib.hid hN
  have HON := Lib.hid hON
  clear hs2 hN hON
  unfold natV
  go_wp2_with (first
    | (refine arr_64.load rfl (.tmp 3) rfl w.heap.size rfl a HA.out K12.out ?_)
    | (refine arr_64.load rfl (.tmp 4) rfl (w.heap.size + 1) rfl b HB.out K22.out ?_))
  refine (rops_any w2 a b HA.out HB.out).mono ?_
  rintro e w3 ⟨xr, rfl, ⟨LR, hLR, hvR⟩, hs3⟩
  obtain ⟨ra, rc, rfl⟩ := hvR.form
  have hLN : LR.length ≤ 64 := by rw [← List.length_map (f := Po.p), hLR, ← HON.out]; exact HOL1.out
  have HLN := Lib.hid hLN
  have HLR := Lib.hid hLR
  have HVR := Lib.hid hvR
  have K13 := Lib.hid (K12.out.stay0 hs3)
  have K23 := Lib.hid (K22.out.stay0 hs3)
  have HS3 := Lib.hid (HS2.out.trans hs3)
  rw [HON.out] at HOL
  clear hs3 hLR hvR hLN
  go_wp2_with fail
  refine wp_region_held (S := Stay (fun _ => False) w3.drew) (by kernel_rfl) ?_
  change wpAnyH _ _ _ _ _ _ _ _ (World.drew _)
  have hst : Stay (fun _ => False) w3 w3.drew := Stay.drew
  refine wpAnyH_takeL (i := 0) (v := .int .i64 (f : Int)) #[true, false, false, false, false, false, false, false, false, false, false, false, false, false, false, false, false, false, false, false, false, false, false, false, false, false, false, false, false] rfl (by kernel_rfl) (by kernel_rfl) (by kernel_rfl) (fun _ _ _ h => h) (by kernel_rfl) (Stay.refl _ _) (Or.inl ⟨by rfl, fun W hW => ?_⟩) ?_
  · go_simp
  conv => arg 8; simp [Act.put]
  refine wpAnyH_takeL (i := 1) (v := .int .i64 (f : Int)) #[true, true, false, false, false, false, false, false, false, false, false, false, false, false, false, false, false, false, false, false, false, false, false, false, false, false, false, false, false] rfl (by kernel_rfl) (by kernel_rfl) (by kernel_rfl) (fun _ _ _ h => h) (by kernel_rfl) (Stay.refl _ _) (Or.inl ⟨by rfl, fun W hW => ?_⟩) ?_
  · go_simp
  conv => arg 8; simp [Act.put]
  refine wpAnyH_takeL (i := 2) (v := .bool true) #[true, true, true, false, false, false, false, false, false, false, false, false, false, false, false, false, false, false, false, false, false, false, false, false, false, false, false, false, false] rfl (by kernel_rfl) (by kernel_rfl) (by kernel_rfl) (fun _ _ _ h => h) (by kernel_rfl) (Stay.refl _ _) (Or.inl ⟨by rfl, fun W hW => ?_⟩) ?_
  · go_simp
  conv => arg 8; simp [Act.put]
  refine wpAnyH_takeL (i := 3) (v := .bool true) #[true, true, true, true, false, false, false, false, false, false, false, false, false, false, false, false, false, false, false, false, false, false, false, false, false, false, false, false, false] rfl (by kernel_rfl) (by kernel_rfl) (by kernel_rfl) (fun _ _ _ h => h) (by kernel_rfl) (Stay.refl _ _) (Or.inl ⟨by rfl, fun W hW => ?_⟩) ?_
  · go_simp
  conv => arg 8; simp [Act.put]
  refine wpAnyH_takeL (i := 4) (v := .int .i64 (n : Int)) #[true, true, true, true, true, false, false, false, false, false, false, false, false, false, false, false, false, false, false, false, false, false, false, false, false, false, false, false, false] rfl (by kernel_rfl) (by kernel_rfl) (by kernel_rfl) (fun _ _ _ h => h) (by kernel_rfl) (Stay.refl _ _) (Or.inl ⟨by rfl, fun W hW => ?_⟩) ?_
  · go_simp
  conv => arg 8; simp [Act.put]
  refine wpAnyH_takeL (i := 5) (v := .int .i64 (n : Int)) #[true, true, true, true, true, true, false, false, false, false, false, false, false, false, false, false, false, false, false, false, false, false, false, false, false, false, false, false, false] rfl (by kernel_rfl) (by kernel_rfl) (by kernel_rfl) (fun _ _ _ h => h) (by kernel_rfl) (Stay.refl _ _) (Or.inl ⟨by rfl, fun W hW => ?_⟩) ?_
  · go_simp
  conv => arg 8; simp [Act.put]
  refine wpAnyH_takeL (i := 6) (v := .bool true) #[true, true, true, true, true, true, true, false, false, false, false, false, false, false, false, false, false, false, false, false, false, false, false, false, false, false, false, false, false] rfl (by kernel_rfl) (by kernel_rfl) (by kernel_rfl) (fun _ _ _ h => h) (by kernel_rfl) (Stay.refl _ _) (Or.inl ⟨by rfl, fun W hW => ?_⟩) ?_
  · go_simp
  conv => arg 8; simp [Act.put]
  refine wpAnyH_takeL (i := 7) (v := .bool true) #[true, true, true, true, true, true, true, true, false, false, false, false, false, false, false, false, false, false, false, false, false, false, false, false, false, false, false, false, false] rfl (by kernel_rfl) (by kernel_rfl) (by kernel_rfl) (fun _ _ _ h => h) (by kernel_rfl) (Stay.refl _ _) (Or.inl ⟨by rfl, fun W hW => ?_⟩) ?_
  · go_simp
  conv => arg 8; simp [Act.put]
  refine wpAnyH_takeL (i := 8) (v := .bool true) #[true, true, true, true, true, true, true, true, true, false, false, false, false, false, false, false, false, false, false, false, false, false, false, false, false, false, false, false, false] rfl (by kernel_rfl) (by kernel_rfl) (by kernel_rfl) (fun _ _ _ h => h) (by kernel_rfl) (Stay.refl _ _) (Or.inl ⟨by rfl, fun W hW => ?_⟩) ?_
  · go_simp
  conv => arg 8; simp [Act.put]
  refine wpAnyH_takeL (i := 9) #[true, true, true, true, true, true, true, true, true, true, false, false, false, false, false, false, false, false, false, false, false, false, false, false, false, false, false, false, false] rfl (by kernel_rfl) (by kernel_rfl) (by kernel_rfl) (fun _ _ _ h => h) (by kernel_rfl) (Stay.refl _ _) (yieldsIf_load rfl 23 (.tmp 3) rfl ⟨w.heap.size, 0, none⟩ rfl _ (fun W hW => arr_64.run_load HA.out (K13.out.stay0 (hst.trans hW)))) ?_
  conv => arg 8; simp [Act.put]
  refine wpAnyH_takeL (i := 10) #[true, true, true, true, true, true, true, true, true, true, true, false, false, false, false, false, false, false, false, false, false, false, false, false, false, false, false, false, false] rfl (by kernel_rfl) (by kernel_rfl) (by kernel_rfl) (fun _ _ _ h => h) (by kernel_rfl) (Stay.refl _ _) (yieldsIf_load rfl 23 (.tmp 4) rfl ⟨w.heap.size + 1, 0, none⟩ rfl _ (fun W hW => arr_64.run_load HB.out (K23.out.stay0 (hst.trans hW)))) ?_
  conv => arg 8; simp [Act.put]
  refine wpAnyH_takeL (i := 12) (v := .slice ra LR.length rc) #[true, true, true, true, true, true, true, true, true, true, true, false, true, false, false, false, false, false, false, false, false, false, false, false, false, false, false, false, false] rfl (by kernel_rfl) (by kernel_rfl) (by kernel_rfl) (fun _ _ _ h => h) (by kernel_rfl) (Stay.refl _ _) (Or.inl ⟨by rfl, fun W hW => ?_⟩) ?_
  · go_simp
  conv => arg 8; simp [Act.put]
  refine wpAnyH_one #[true, true, true, true, true, true, true, true, true, true, true, true, true, false, false, false, false, false, false, false, false, false, false, false, false, false, false, false, false] (i := 11) rfl (by kernel_rfl) (by kernel_rfl) (fun K hK => ?_)
  go_simp
  go_wp2_with (go_at_call 11; refine (ops_any w3.drew a b HA.out HB.out).mono ?_; rintro e z1 ⟨x1, rfl, ⟨L1, hL1, hv1⟩, s⟩; obtain ⟨a1, c1, rfl⟩ := hv1.form; have HL1 := Lib.hid hL1; have HV1 := Lib.hid hv1; clear hL1 hv1)
  replace hst := hst.trans s
  refine hK _ _ s ?_
  clear hK
  conv => arg 8; simp [Act.put]
  refine wpAnyH_narrow (S' := Stay (fun _ => False) z1) (fun _ h => s.trans h) _ _ _ _ ?_
  clear s
  refine wpAnyH_one #[true, true, true, true, true, true, true, true, true, true, true, true, true, true, false, false, false, false, false, false, false, false, false, false, false, false, false, false, false] (i := 13) rfl (by kernel_rfl) (by kernel_rfl) (fun K hK => ?_)
  go_simp
  go_wp2_with (go_at_call 10; refine (same_any z1 _ _ L1 LR HV1.out (HVR.out.stay0 hst) (HL1.out.trans HLR.out.symm)).mono ?_; rintro e z2 ⟨rfl, s⟩)
  replace hst := hst.trans s
  refine hK _ _ s ?_
  clear hK
  conv => arg 8; simp [Act.put]
  refine wpAnyH_narrow (S' := Stay (fun _ => False) z2) (fun _ h => s.trans h) _ _ _ _ ?_
  clear s
  refine wpAnyH_takeL (i := 14) (v := .bool true) #[true, true, true, true, true, true, true, true, true, true, true, true, true, true, true, false, false, false, false, false, false, false, false, false, false, false, false, false, false] rfl (by kernel_rfl) (by kernel_rfl) (by kernel_rfl) (fun _ _ _ h => h) (by kernel_rfl) (Stay.refl _ _) (Or.inl ⟨by rfl, fun W hW => ?_⟩) ?_
  · go_simp
  conv => arg 8; simp [Act.put]
  refine wpAnyH_takeL (i := 15) (v := .bool true) #[true, true, true, true, true, true, true, true, true, true, true, true, true, true, true, true, false, false, false, false, false, false, false, false, false, false, false, false, false] rfl (by kernel_rfl) (by kernel_rfl) (by kernel_rfl) (fun _ _ _ h => h) (by kernel_rfl) (Stay.refl _ _) (Or.inl ⟨by rfl, fun W hW => ?_⟩) ?_
  · go_simp
  conv => arg 8; simp [Act.put]
  refine wpAnyH_takeL (i := 16) #[true, true, true, true, true, true, true, true, true, true, true, true, true, true, true, true, true, false, false, false, false, false, false, false, false, false, false, false, false] rfl (by kernel_rfl) (by kernel_rfl) (by kernel_rfl) (fun _ _ _ h => h) (by kernel_rfl) (Stay.refl _ _) (yieldsIf_load rfl 23 (.tmp 3) rfl ⟨w.heap.size, 0, none⟩ rfl _ (fun W hW => arr_64.run_load HA.out (K13.out.stay0 (hst.trans hW)))) ?_
  conv => arg 8; simp [Act.put]
  refine wpAnyH_takeL (i := 17) #[true, true, true, true, true, true, true, true, true, true, true, true, true, true, true, true, true, true, false, false, false, false, false, false, false, false, false, false, false] rfl (by kernel_rfl) (by kernel_rfl) (by kernel_rfl) (fun _ _ _ h => h) (by kernel_rfl) (Stay.refl _ _) (yieldsIf_load rfl 23 (.tmp 4) rfl ⟨w.heap.size + 1, 0, none⟩ rfl _ (fun W hW => arr_64.run_load HB.out (K23.out.stay0 (hst.trans hW)))) ?_
  conv => arg 8; simp [Act.put]
  refine wpAnyH_takeL (i := 20) (v := .slice ra LR.length rc) #[true, true, true, true, true, true, true, true, true, true, true, true, true, true, true, true, true, true, false, false, true, false, false, false, false, false, false, false, false] rfl (by kernel_rfl) (by kernel_rfl) (by kernel_rfl) (fun _ _ _ h => h) (by kernel_rfl) (Stay.refl _ _) (Or.inl ⟨by rfl, fun W hW => ?_⟩) ?_
  · go_simp
  conv => arg 8; simp [Act.put]
  refine wpAnyH_one #[true, true, true, true, true, true, true, true, true, true, true, true, true, true, true, true, true, true, true, false, true, false, false, false, false, false, false, false, false] (i := 18) rfl (by kernel_rfl) (by kernel_rfl) (fun K hK => ?_)
  go_simp
  go_wp2_with (go_at_call 12; refine (diff_any z2 a b HA.out HB.out).mono ?_; rintro e z3 ⟨x2, rfl, how2, s⟩; rw [← HN.out] at how2; obtain ⟨a2, c2, rfl⟩ := how2.form; have HO2 := Lib.hid how2.slc; clear how2)
  replace hst := hst.trans s
  refine hK _ _ s ?_
  clear hK
  conv => arg 8; simp [Act.put]
  refine wpAnyH_narrow (S' := Stay (fun _ => False) z3) (fun _ h => s.trans h) _ _ _ _ ?_
  clear s
  refine wpAnyH_takeL (i := 19) (v := .string ⟨N.toArray⟩) #[true, true, true, true, true, true, true, true, true, true, true, true, true, true, true, true, true, true, true, true, true, false, false, false, false, false, false, false, false] rfl (by kernel_rfl) (by kernel_rfl) (by kernel_rfl) (fun _ _ _ h => h) (by kernel_rfl) (Stay.refl _ _) (Or.inl ⟨by rfl, fun W hW => ?_⟩) ?_
  · have cv := conv_slc (HO2.out.stay0 hW)
    unfold strV at cv
    go_simp
  conv => arg 8; simp [Act.put]
  refine wpAnyH_one #[true, true, true, true, true, true, true, true, true, true, true, true, true, true, true, true, true, true, true, true, true, true, false, false, false, false, false, false, false] (i := 21) rfl (by kernel_rfl) (by kernel_rfl) (fun K hK => ?_)
  go_simp
  go_wp2_with (go_at_call 13; refine (rencode_any z3 _ LR (HVR.out.stay0 hst) (by rw [HLR.out]; have := HOL.out; omega) (by have := HLN.out; omega)).mono ?_; rintro e z4 ⟨x3, rfl, how3, s⟩; rw [HLR.out, ← HN.out] at how3; obtain ⟨a3, c3, rfl⟩ := how3.form; have HO3 := Lib.hid how3.slc; clear how3)
  replace hst := hst.trans s
  refine hK _ _ s ?_
  clear hK
  conv => arg 8; simp [Act.put]
  refine wpAnyH_narrow (S' := Stay (fun _ => False) z4) (fun _ h => s.trans h) _ _ _ _ ?_
  clear s
  refine wpAnyH_takeL (i := 22) (v := .string ⟨N.toArray⟩) #[true, true, true, true, true, true, true, true, true, true, true, true, true, true, true, true, true, true, true, true, true, true, true, false, false, false, false, false, false] rfl (by kernel_rfl) (by kernel_rfl) (by kernel_rfl) (fun _ _ _ h => h) (by kernel_rfl) (Stay.refl _ _) (Or.inl ⟨by rfl, fun W hW => ?_⟩) ?_
  · have cv := conv_slc (HO3.out.stay0 hW)
    unfold strV at cv
    go_simp
  conv => arg 8; simp [Act.put]
  refine wpAnyH_takeL (i := 23) (v := .bool true) #[true, true, true, true, true, true, true, true, true, true, true, true, true, true, true, true, true, true, true, true, true, true, true, true, false, false, false, false, false] rfl (by kernel_rfl) (by kernel_rfl) (by kernel_rfl) (fun _ _ _ h => h) (by kernel_rfl) (Stay.refl _ _) (Or.inl ⟨by rfl, fun W hW => ?_⟩) ?_
  · go_simp
  conv => arg 8; simp [Act.put]
  refine wpAnyH_takeL (i := 24) (v := .bool true) #[true, true, true, true, true, true, true, true, true, true, true, true, true, true, true, true, true, true, true, true, true, true, true, true, true, false, false, false, false] rfl (by kernel_rfl) (by kernel_rfl) (by kernel_rfl) (fun _ _ _ h => h) (by kernel_rfl) (Stay.refl _ _) (Or.inl ⟨by rfl, fun W hW => ?_⟩) ?_
  · go_simp
  conv => arg 8; simp [Act.put]
  refine wpAnyH_takeL (i := 25) (v := .bool true) #[true, true, true, true, true, true, true, true, true, true, true, true, true, true, true, true, true, true, true, true, true, true, true, true, true, true, false, false, false] rfl (by kernel_rfl) (by kernel_rfl) (by kernel_rfl) (fun _ _ _ h => h) (by kernel_rfl) (Stay.refl _ _) (Or.inl ⟨by rfl, fun W hW => ?_⟩) ?_
  · go_simp
  conv => arg 8; simp [Act.put]
  refine wpAnyH_one #[true, true, true, true, true, true, true, true, true, true, true, true, true, true, true, true, true, true, true, true, true, true, true, true, true, true, true, false, false] (i := 26) rfl (by kernel_rfl) (by kernel_rfl) (fun K hK => ?_)
  go_simp
  go_wp2_with (go_at_call 14; refine (sure_any z4).mono ?_; rintro e z5 ⟨rfl, s⟩)
  replace hst := hst.trans s
  refine hK _ _ s ?_
  clear hK
  conv => arg 8; simp [Act.put]
  refine wpAnyH_narrow (S' := Stay (fun _ => False) z5) (fun _ h => s.trans h) _ _ _ _ ?_
  clear s
  refine wpAnyH_takeL (i := 27) (v := .bool true) #[true, true, true, true, true, true, true, true, true, true, true, true, true, true, true, true, true, true, true, true, true, true, true, true, true, true, true, true, false] rfl (by kernel_rfl) (by kernel_rfl) (by kernel_rfl) (fun _ _ _ h => h) (by kernel_rfl) (Stay.refl _ _) (Or.inl ⟨by rfl, fun W hW => ?_⟩) ?_
  · go_simp
  conv => arg 8; simp [Act.put]
  refine wpAnyH_takeL (i := 28) (v := .bool true) #[true, true, true, true, true, true, true, true, true, true, true, true, true, true, true, true, true, true, true, true, true, true, true, true, true, true, true, true, true] rfl (by kernel_rfl) (by kernel_rfl) (by kernel_rfl) (fun _ _ _ h => h) (by kernel_rfl) (Stay.refl _ _) (Or.inl ⟨by rfl, fun W hW => ?_⟩) ?_
  · go_simp
  conv => arg 8; simp [Act.put]
  refine wpAnyH_done (by kernel_rfl) ?_ _
  go_wp2
  go_ret
  exact ⟨rfl, HS3.out.trans hst⟩
end Go.Proofs.Ytnlknnhibnfhcaa.De

/-
  delta's laws: their arguments opened: blocks.
-/
namespace Go.Proofs.Ytnlknnhibnfhcaa
open Go.ChangeShapes Go.WideShapes Go.ChangeAt Go.RowKit Go.Deep Pk
set_option maxRecDepth 100000

theorem De.i64_wf {x : Int} (h : (Lit.int .i64 x).wf = true) : -9223372036854775808 ≤ x ∧ x ≤ 9223372036854775807 := by
  have e1 : IntKind.i64.min = -9223372036854775808 := by decide
  have e2 : IntKind.i64.max = 9223372036854775807 := by decide
  simp only [Lit.wf, e1, e2, Bool.and_eq_true, decide_eq_true_eq] at h
  exact h
theorem cells_b64 : Try.prog.cellsOf 23 = 64 := by kernel_rfl
section
variable {H : Type} {enc : TypeId × Value → H}
theorem open_blk {w : World} {base b0 : Nat} {r : Reach} {v : Value} {d : DataW H} {p : List MemPlace} (hv : Value.okWide Try.prog w r b0 23 v) (h : DataW.Trod enc Try.prog w base (fun _ => true) true 23 v d p) :
    ∃ l : List UInt8, l.length = 64 ∧ v = arrV l := by
  obtain ⟨cs, rfl, hsz⟩ : ∃ cs, v = .agg cs ∧ cs.size = Try.prog.cellsOf 23 := by
    have := hv
    simp only [Value.okWide, Try.underlying23] at this
    obtain ⟨cs, e, hs, _⟩ := this
    exact ⟨cs, e, hs⟩
  rw [cells_b64] at hsz
  obtain ⟨fuel, hf⟩ := h
  obtain ⟨xs, m, _, hx, hl, hxl, hall⟩ := DataW.trod_array Try.underlying23 hf
  obtain ⟨B, hB⟩ := choose_lt (α := UInt8) (n := 64) (p := fun i b => cs[i]? = some (byteV b)) (fun i hi => by
    have hi' := hall i hi
    obtain ⟨b, hb⟩ : ∃ b, xs[i]? = some b := ⟨_, List.getElem?_eq_getElem (by omega)⟩
    rw [hb, Pk.cells5, Nat.mul_one] at hi'
    obtain ⟨z, hcz, _, wz⟩ := DataW.trod_int Try.underlying5 hi'
    obtain ⟨c, hc⟩ := Pk.byte_of_wf wz
    refine ⟨c, ?_⟩
    have := congrArg (·[0]?) hcz
    rw [← hc]
    simpa [List.getElem?_take, List.getElem?_drop, Value.cells] using this)
  refine ⟨(List.range 64).map B, by simp, ?_⟩
  unfold arrV
  congr 1
  apply Array.ext_getElem?
  intro i
  by_cases hi : i < 64
  · rw [hB i hi]
    simp [cellsB, hi]
  · rw [Array.getElem?_eq_none (by omega), Array.getElem?_eq_none (by simp [cellsB]; omega)]

end
end Go.Proofs.Ytnlknnhibnfhcaa

/-
  DeltaTells answers true for every input, and each argument reads afterwards as it read before. No condition.
-/
namespace Go.Proofs.Ytnlknnhibnfhcaa
open Go.ChangeShapes Go.WideShapes Go.ChangeAt Go.RowKit
set_option maxRecDepth 100000

theorem deltaTells_lifted (os : Os) (started : os.Started) (H : Type) (enc : TypeId × Value → H) :
    ReturnsInHanded {} Try.checked os 3 .any (Rows.deltaTellsSpec.pre6 enc Try.prog Try.f3 Rows.deltaTellsRow.domain false) (Rows.deltaTellsSpec.post enc Try.prog Try.f3 false true false false) := by
  refine returnsInHanded_of_change_sized (C := Try.checked) Try.own started (by kernel_rfl) Try.func3
    (ChangeSpec.witness6 (enc := enc) (C := Try.checked) false ⟨#[], #[.agg (cellsB (List.replicate 64 0)).toArray, .agg (cellsB (List.replicate 64 0)).toArray, .int .i64 0], []⟩ 8 (by kernel_rfl) (by kernel_rfl) (by kernel_rfl) (by kernel_rfl)) ?_
  intro W base args ds gs before hval0 hW _ hsz _
  have hval : ∀ (j : Nat) t v, Try.f3.params[j]? = some t → args[j]? = some v → Value.okWide Try.prog W .any base t v := hval0
  have hW' := hW
  obtain ⟨p, q, hA0, hV, rfl, hfz, hnd⟩ := hW
  have hA : DataW.TrodAll enc Try.prog W 0 (fun _ => true) true Try.f3.params.toList args.toList ds p := hA0
  have hAk := hA
  rw [Try.params3] at hA hval
  obtain ⟨v0, v1, v2, d0, d1, d2, p0, p1, p2, rfl, rfl, rfl, h0, h1, h2⟩ := trodAll_three hA
  obtain ⟨rfl, rfl⟩ := trodVars_none hV
  obtain ⟨l0, hl0, rfl⟩ := open_blk (hval 0 23 v0 rfl rfl) h0
  obtain ⟨l1, hl1, rfl⟩ := open_blk (hval 1 23 v1 rfl rfl) h1
  obtain ⟨z2, rfl, rfl, rfl, wz2⟩ := open_int Try.underlying3 (hval 2 3 v2 rfl rfl) h2
  clear hA0 hval0
  simp only [List.append_nil] at hW' hAk
  refine (De.tells_walk W l0 l1 z2 hl0 hl1 (De.i64_wf wz2).1 (De.i64_wf wz2).2).mono fun e W' ⟨he, hs⟩ => ?_
  subst he
  exact ⟨_, rfl, law_post Try.laidOut hW' hAk (fun t ht => by
      rw [Try.params3] at ht
      simp at ht
      rcases ht with rfl | rfl <;> exact ⟨by kernel_rfl, of_decide_eq_true (by kernel_rfl)⟩) rfl rfl rfl rfl (by kernel_rfl) Try.underlying4 (hs.toBelow (Nat.le_refl _) (fun _ x => x.elim))⟩

theorem deltaTells_holds : Rows.DeltaTellsSaid :=
  OpenClaim.holds_of_wide 3 Try.f3 rfl rfl rfl rfl rfl rfl rfl ⟨rfl, rfl, rfl, rfl, rfl⟩ rfl rfl rfl rfl rfl (by kernel_rfl) Try.func3 (by kernel_rfl)
    (of_decide_eq_true (by kernel_rfl)) (by unfold Func.isWrapper; rw [if_neg (of_decide_eq_false (by kernel_rfl))]; exact ⟨rfl, rfl⟩)
    (fun os started H enc _ => deltaTells_lifted os started H enc)
end Go.Proofs.Ytnlknnhibnfhcaa

