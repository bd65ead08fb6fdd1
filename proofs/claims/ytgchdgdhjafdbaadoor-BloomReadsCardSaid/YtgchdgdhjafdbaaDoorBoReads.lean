/-
  BloomReads' walk.
-/
import Derived.Test.YtgchdgdhjafdbaaDoorBoX
import Derived.Test.YtgchdgdhjafdbaaDoorDeNar
namespace Go.Proofs.YtgchdgdhjafdbaaDoor.Bo
open Go.RowKit Pk
set_option maxRecDepth 100000

theorem full_st (w : World) (p g q : Nat) (B : List Bool) (h : FAt w p g q B) :
    Calls Tryd.prog 15 #[.pointer (some ⟨p, 0, none⟩)] w fun e w' => e = .returned (.int .i64 (fullB B : Nat)) ∧ Stay (fun _ => False) w w' :=
  (full_any w p g q B h).mono fun _ _ ⟨h1, h2⟩ => ⟨h1, h2 ▸ Stay.refl _ _⟩

set_option maxHeartbeats 4000000 in
theorem reads_walk (w : World) (x : Value) (b : List UInt8) (hg : ErrCell w) (hx : Slc w x b) (hlen : b.length ≤ 140737488355328) :
    Calls Tryd.prog 5 #[x] w fun e w' => e = .returned (.bool true) ∧ Stay (fun _ => False) w w' := by
  have HX0 := Lib.hid hx
  have HG := Lib.hid hg
  obtain ⟨xa, xc, rfl, _⟩ := hx
  clear hg
  go_enter Tryd.func5, Tryd.ntmps5
  go_wp2_with fail
  refine (decode_any w _ b HX0.out hlen).mono ?_
  rintro e w1 ⟨hr1, hs1⟩
  unfold DecRet at hr1
  by_cases hgood : goodB b = true
  · rw [if_pos hgood] at hr1
    obtain ⟨p, g, rfl, hp, hg2, hf⟩ := hr1
    have hgd := good_of hgood
    have HENC := Lib.hid (show encB (decK b).1 (decBits b) = b from hgd.enc)
    have HLO := Lib.hid (show 1 ≤ (decBits b).length by rw [decBits_len]; exact hgd.n1)
    have HHI := Lib.hid (show (decBits b).length ≤ 1048576 by rw [decBits_len]; exact Good.nle)
    have HGO := Lib.hid hgood
    clear hgd hgood
    go_wp2_with fail
    refine (rdecode_any w1 _ b (HX0.out.stay0 hs1) hlen).mono ?_
    rintro e w2 ⟨hr2, hs2⟩
    unfold RDecRet at hr2
    rw [if_pos HGO.out] at hr2
    obtain ⟨u, rfl, hto⟩ := hr2
    obtain ⟨ua, uc, rfl⟩ := hto.form
    generalize decBits b = B at *
    generalize (decK b).1 = k at *
    unfold RV
    obtain ⟨m, hm⟩ : ∃ m, m = B.length := ⟨_, rfl⟩
    rw [← hm] at hto ⊢
    have hz2 := hs2.size
    have hp2 := hf.plt
    have hg3 := hf.glt
    obtain ⟨wz, hwz⟩ : ∃ wz, wz = w2.alloc (.cells #[.int .i64 (k : Int), .slice ua m uc] 33) := ⟨_, rfl⟩
    obtain ⟨gr, hgr⟩ : ∃ gr, gr = w2.heap.size := ⟨_, rfl⟩
    have hsz : Stay (fun _ => False) w2 wz := hwz ▸ Stay.alloc _ _
    have HSZ := Lib.hid (show Stay (fun _ => False) w wz from (hs1.trans hs2).trans hsz)
    have HF := Lib.hid (hf.stay0 (hs2.trans hsz))
    have HTO := Lib.hid (hto.stay0 hsz)
    have HRF := Lib.hid (show RfAt wz gr k (.slice ua m uc) by rw [hwz, hgr]; exact heap_alloc_new w2 _)
    have HX := Lib.hid (HX0.out.stay0 HSZ.out)
    have HG2 := Lib.hid (ErrCell.stay0 HG.out HSZ.out)
    have HWZ := Lib.hid hwz
    have HGR := Lib.hid hgr
    clear hs1 hs2 hsz hf hto hwz hgr hz2 hp2 hg3 hm
    go_wp2_with fail
    rw [← HWZ.out, ← HGR.out]
    refine (num_of 0 wz HG2.out _ rfl).mono ?_
    rintro e w3 ⟨rfl, hs3⟩
    have HF := Lib.hid (HF.out.stay0 hs3)
    have HTO := Lib.hid (HTO.out.stay0 hs3)
    have HRF := Lib.hid (HRF.out.stay0 hs3)
    have HX := Lib.hid (HX.out.stay0 hs3)
    have HSZ := Lib.hid (HSZ.out.trans hs3)
    clear hs3 HG2 HG HX0 HWZ
    generalize w3 = wz at *
    go_wp2
    refine wp_region_held (S := Stay (fun _ => False) wz.drew) (by kernel_rfl) ?_
    change wpAnyH _ _ _ _ _ _ _ _ (World.drew _)
    have hst : Stay (fun _ => False) wz wz.drew := Stay.drew
    refine wpAnyH_takeL (i := 0) (v := .int .i64 0) #[true, false, false, false, false, false, false, false, false, false, false, false, false, false, false, false, false, false, false, false, false] rfl (by kernel_rfl) (by kernel_rfl) (by kernel_rfl) (fun _ _ _ h => h) (by kernel_rfl) (Stay.refl _ _) (Or.inl ⟨by rfl, fun W hW => ?_⟩) ?_
    · go_simp
    conv => arg 8; simp [Act.put]
    refine wpAnyH_takeL (i := 1) (v := .bool false) #[true, true, false, false, false, false, false, false, false, false, false, false, false, false, false, false, false, false, false, false, false] rfl (by kernel_rfl) (by kernel_rfl) (by kernel_rfl) (fun _ _ _ h => h) (by kernel_rfl) (Stay.refl _ _) (Or.inl ⟨by rfl, fun W hW => ?_⟩) ?_
    · go_simp
    conv => arg 8; simp [Act.put]
    refine wpAnyH_takeL (i := 2) (v := .bool false) #[true, true, true, false, false, false, false, false, false, false, false, false, false, false, false, false, false, false, false, false, false] rfl (by kernel_rfl) (by kernel_rfl) (by kernel_rfl) (fun _ _ _ h => h) (by kernel_rfl) (Stay.refl _ _) (Or.inl ⟨by rfl, fun W hW => ?_⟩) ?_
    · go_simp
    conv => arg 8; simp [Act.put]
    refine wpAnyH_takeL (i := 3) (v := .pointer (some ⟨p, 0, none⟩)) #[true, true, true, true, false, false, false, false, false, false, false, false, false, false, false, false, false, false, false, false, false] rfl (by kernel_rfl) (by kernel_rfl) (by kernel_rfl) (fun _ _ _ h => h) (by kernel_rfl) (Stay.refl _ _) (Or.inl ⟨by rfl, fun W hW => ?_⟩) ?_
    · go_simp
    conv => arg 8; simp [Act.put]
    refine wpAnyH_takeL (i := 6) (v := .slice xa b.length xc) #[true, true, true, true, false, false, true, false, false, false, false, false, false, false, false, false, false, false, false, false, false] rfl (by kernel_rfl) (by kernel_rfl) (by kernel_rfl) (fun _ _ _ h => h) (by kernel_rfl) (Stay.refl _ _) (Or.inl ⟨by rfl, fun W hW => ?_⟩) ?_
    · go_simp
    conv => arg 8; simp [Act.put]
    refine wpAnyH_takeL (i := 7) (v := .string ⟨b.toArray⟩) #[true, true, true, true, false, false, true, true, false, false, false, false, false, false, false, false, false, false, false, false, false] rfl (by kernel_rfl) (by kernel_rfl) (by kernel_rfl) (fun _ _ _ h => h) (by kernel_rfl) (Stay.refl _ _) (Or.inl ⟨by rfl, fun W hW => ?_⟩) ?_
    · have cv := conv_slc (HX.out.stay0 (hst.trans hW))
      unfold strV at cv
      go_simp
    conv => arg 8; simp [Act.put]
    refine wpAnyH_one #[true, true, true, true, true, false, true, true, false, false, false, false, false, false, false, false, false, false, false, false, false] (i := 4) rfl (by kernel_rfl) (by kernel_rfl) (fun K hK => ?_)
    go_simp
    go_wp2_with (go_at_call 11; refine (encode_any wz.drew p g _ _ (HF.out.stay0 hst)).mono ?_; rintro e z1 ⟨x5, rfl, how5, s⟩; rw [HENC.out] at how5; obtain ⟨a5, c5, rfl⟩ := how5.form; have HO5 := Lib.hid how5.slc; clear how5)
    replace hst := hst.trans s
    refine hK _ _ s ?_
    clear hK
    conv => arg 8; simp [Act.put]
    refine wpAnyH_narrow (S' := Stay (fun _ => False) z1) (fun _ h => s.trans h) _ _ _ _ ?_
    clear s
    refine wpAnyH_takeL (i := 5) (v := .string ⟨b.toArray⟩) #[true, true, true, true, true, true, true, true, false, false, false, false, false, false, false, false, false, false, false, false, false] rfl (by kernel_rfl) (by kernel_rfl) (by kernel_rfl) (fun _ _ _ h => h) (by kernel_rfl) (Stay.refl _ _) (Or.inl ⟨by rfl, fun W hW => ?_⟩) ?_
    · have cv := conv_slc (HO5.out.stay0 hW)
      unfold strV at cv
      go_simp
    conv => arg 8; simp [Act.put]
    refine wpAnyH_takeL (i := 8) (v := .bool true) #[true, true, true, true, true, true, true, true, true, false, false, false, false, false, false, false, false, false, false, false, false] rfl (by kernel_rfl) (by kernel_rfl) (by kernel_rfl) (fun _ _ _ h => h) (by kernel_rfl) (Stay.refl _ _) (Or.inl ⟨by rfl, fun W hW => ?_⟩) ?_
    · go_simp
    conv => arg 8; simp [Act.put]
    refine wpAnyH_takeL (i := 9) (v := .bool true) #[true, true, true, true, true, true, true, true, true, true, false, false, false, false, false, false, false, false, false, false, false] rfl (by kernel_rfl) (by kernel_rfl) (by kernel_rfl) (fun _ _ _ h => h) (by kernel_rfl) (Stay.refl _ _) (Or.inl ⟨by rfl, fun W hW => ?_⟩) ?_
    · go_simp
    conv => arg 8; simp [Act.put]
    refine wpAnyH_takeL (i := 10) (v := .pointer (some ⟨p, 0, none⟩)) #[true, true, true, true, true, true, true, true, true, true, true, false, false, false, false, false, false, false, false, false, false] rfl (by kernel_rfl) (by kernel_rfl) (by kernel_rfl) (fun _ _ _ h => h) (by kernel_rfl) (Stay.refl _ _) (Or.inl ⟨by rfl, fun W hW => ?_⟩) ?_
    · go_simp
    conv => arg 8; simp [Act.put]
    refine wpAnyH_takeL (i := 12) #[true, true, true, true, true, true, true, true, true, true, true, false, true, false, false, false, false, false, false, false, false] rfl (by kernel_rfl) (by kernel_rfl) (by kernel_rfl) (fun _ _ _ h => h) (by kernel_rfl) (Stay.refl _ _) (yieldsIf_load rfl 33 (.tmp 5) rfl ⟨gr, 0, none⟩ rfl _ (fun W hW => (HRF.out.stay0 (hst.trans hW)).run)) ?_
    conv => arg 8; simp [Act.put]
    refine wpAnyH_one #[true, true, true, true, true, true, true, true, true, true, true, true, true, false, false, false, false, false, false, false, false] (i := 11) rfl (by kernel_rfl) (by kernel_rfl) (fun K hK => ?_)
    go_simp
    go_wp2_with (go_at_call 15; refine (full_st z1 p g _ _ (HF.out.stay0 hst)).mono ?_; rintro e z2 ⟨rfl, s⟩)
    replace hst := hst.trans s
    refine hK _ _ s ?_
    clear hK
    conv => arg 8; simp [Act.put]
    refine wpAnyH_narrow (S' := Stay (fun _ => False) z2) (fun _ h => s.trans h) _ _ _ _ ?_
    clear s
    refine wpAnyH_one #[true, true, true, true, true, true, true, true, true, true, true, true, true, true, false, false, false, false, false, false, false] (i := 13) rfl (by kernel_rfl) (by kernel_rfl) (fun K hK => ?_)
    go_simp
    go_wp2_with (go_at_call 22; refine (rfull_any z2 _ _ _ _ (HTO.out.stay0 hst) HLO.out HHI.out).mono ?_; rintro e z3 ⟨rfl, s⟩)
    replace hst := hst.trans s
    refine hK _ _ s ?_
    clear hK
    conv => arg 8; simp [Act.put]
    refine wpAnyH_narrow (S' := Stay (fun _ => False) z3) (fun _ h => s.trans h) _ _ _ _ ?_
    clear s
    refine wpAnyH_takeL (i := 14) (v := .bool true) #[true, true, true, true, true, true, true, true, true, true, true, true, true, true, true, false, false, false, false, false, false] rfl (by kernel_rfl) (by kernel_rfl) (by kernel_rfl) (fun _ _ _ h => h) (by kernel_rfl) (Stay.refl _ _) (Or.inl ⟨by rfl, fun W hW => ?_⟩) ?_
    · go_simp
    conv => arg 8; simp [Act.put]
    refine wpAnyH_takeL (i := 15) (v := .bool true) #[true, true, true, true, true, true, true, true, true, true, true, true, true, true, true, true, false, false, false, false, false] rfl (by kernel_rfl) (by kernel_rfl) (by kernel_rfl) (fun _ _ _ h => h) (by kernel_rfl) (Stay.refl _ _) (Or.inl ⟨by rfl, fun W hW => ?_⟩) ?_
    · go_simp
    conv => arg 8; simp [Act.put]
    refine wpAnyH_takeL (i := 16) (v := .bool true) #[true, true, true, true, true, true, true, true, true, true, true, true, true, true, true, true, true, false, false, false, false] rfl (by kernel_rfl) (by kernel_rfl) (by kernel_rfl) (fun _ _ _ h => h) (by kernel_rfl) (Stay.refl _ _) (Or.inl ⟨by rfl, fun W hW => ?_⟩) ?_
    · go_simp
    conv => arg 8; simp [Act.put]
    refine wpAnyH_takeL (i := 17) (v := .bool true) #[true, true, true, true, true, true, true, true, true, true, true, true, true, true, true, true, true, true, false, false, false] rfl (by kernel_rfl) (by kernel_rfl) (by kernel_rfl) (fun _ _ _ h => h) (by kernel_rfl) (Stay.refl _ _) (Or.inl ⟨by rfl, fun W hW => ?_⟩) ?_
    · go_simp
    conv => arg 8; simp [Act.put]
    refine wpAnyH_one #[true, true, true, true, true, true, true, true, true, true, true, true, true, true, true, true, true, true, true, false, false] (i := 18) rfl (by kernel_rfl) (by kernel_rfl) (fun K hK => ?_)
    go_simp
    go_wp2_with (go_at_call 17; refine (sure_any z3).mono ?_; rintro e z4 ⟨rfl, s⟩)
    replace hst := hst.trans s
    refine hK _ _ s ?_
    clear hK
    conv => arg 8; simp [Act.put]
    refine wpAnyH_narrow (S' := Stay (fun _ => False) z4) (fun _ h => s.trans h) _ _ _ _ ?_
    clear s
    refine wpAnyH_takeL (i := 19) (v := .bool true) #[true, true, true, true, true, true, true, true, true, true, true, true, true, true, true, true, true, true, true, true, false] rfl (by kernel_rfl) (by kernel_rfl) (by kernel_rfl) (fun _ _ _ h => h) (by kernel_rfl) (Stay.refl _ _) (Or.inl ⟨by rfl, fun W hW => ?_⟩) ?_
    · go_simp
    conv => arg 8; simp [Act.put]
    refine wpAnyH_takeL (i := 20) (v := .bool true) #[true, true, true, true, true, true, true, true, true, true, true, true, true, true, true, true, true, true, true, true, true] rfl (by kernel_rfl) (by kernel_rfl) (by kernel_rfl) (fun _ _ _ h => h) (by kernel_rfl) (Stay.refl _ _) (Or.inl ⟨by rfl, fun W hW => ?_⟩) ?_
    · go_simp
    conv => arg 8; simp [Act.put]
    refine wpAnyH_done (by kernel_rfl) ?_ _
    go_wp2
    go_ret
    exact ⟨rfl, HSZ.out.trans hst⟩
  · have HGO := Lib.hid hgood
    rw [if_neg hgood] at hr1
    subst hr1
    clear hgood
    go_wp2_with fail
    refine (rdecode_any w1 _ b (HX0.out.stay0 hs1) hlen).mono ?_
    rintro e w2 ⟨hr2, hs2⟩
    unfold RDecRet at hr2
    rw [if_neg HGO.out] at hr2
    subst hr2
    unfold RV
    obtain ⟨wz, hwz⟩ : ∃ wz, wz = w2.alloc (.cells #[.int .i64 0, .slice none 0 0] 33) := ⟨_, rfl⟩
    have HSZ := Lib.hid (show Stay (fun _ => False) w wz from (hs1.trans hs2).trans (hwz ▸ Stay.alloc _ _))
    have HG2 := Lib.hid (ErrCell.stay0 HG.out HSZ.out)
    have HWZ := Lib.hid hwz
    clear hs1 hs2 hwz
    unfold Hn.errI
    go_wp2_with fail
    rw [← HWZ.out]
    refine (num_of 3 wz HG2.out _ rfl).mono ?_
    rintro e w3 ⟨rfl, hs3⟩
    have HSZ := Lib.hid (HSZ.out.trans hs3)
    clear hs3 HG2 HG HX0 HWZ
    generalize w3 = wz at *
    go_wp2
    refine wp_region_held (S := Stay (fun _ => False) wz.drew) (by kernel_rfl) ?_
    change wpAnyH _ _ _ _ _ _ _ _ (World.drew _)
    have hst : Stay (fun _ => False) wz wz.drew := Stay.drew
    refine wpAnyH_takeL (i := 0) (v := .int .i64 3) #[true, false, false, false, false, false, false, false, false, false, false, false, false, false, false, false, false, false, false, false, false] rfl (by kernel_rfl) (by kernel_rfl) (by kernel_rfl) (fun _ _ _ h => h) (by kernel_rfl) (Stay.refl _ _) (Or.inl ⟨by rfl, fun W hW => ?_⟩) ?_
    · go_simp
    conv => arg 8; simp [Act.put]
    refine wpAnyH_takeL (i := 1) (v := .bool true) #[true, true, false, false, false, false, false, false, false, false, false, false, false, false, false, false, false, false, false, false, false] rfl (by kernel_rfl) (by kernel_rfl) (by kernel_rfl) (fun _ _ _ h => h) (by kernel_rfl) (Stay.refl _ _) (Or.inl ⟨by rfl, fun W hW => ?_⟩) ?_
    · go_simp
    conv => arg 8; simp [Act.put]
    refine wpAnyH_takeL (i := 2) (v := .bool true) #[true, true, true, false, false, false, false, false, false, false, false, false, false, false, false, false, false, false, false, false, false] rfl (by kernel_rfl) (by kernel_rfl) (by kernel_rfl) (fun _ _ _ h => h) (by kernel_rfl) (Stay.refl _ _) (Or.inl ⟨by rfl, fun W hW => ?_⟩) ?_
    · go_simp
    conv => arg 8; simp [Act.put]
    refine wpAnyH_takeL (i := 3) (v := undef) #[true, true, true, true, false, false, false, false, false, false, false, false, false, false, false, false, false, false, false, false, false] rfl (by kernel_rfl) (by kernel_rfl) (by kernel_rfl) (fun _ _ _ h => h) (by kernel_rfl) (Stay.refl _ _) (Or.inr ⟨by rfl, rfl⟩) ?_
    conv => arg 8; simp [Act.put]
    refine wpAnyH_takeL (i := 6) (v := undef) #[true, true, true, true, false, false, true, false, false, false, false, false, false, false, false, false, false, false, false, false, false] rfl (by kernel_rfl) (by kernel_rfl) (by kernel_rfl) (fun _ _ _ h => h) (by kernel_rfl) (Stay.refl _ _) (Or.inr ⟨by rfl, rfl⟩) ?_
    conv => arg 8; simp [Act.put]
    refine wpAnyH_takeL (i := 4) (v := undef) #[true, true, true, true, true, false, true, false, false, false, false, false, false, false, false, false, false, false, false, false, false] rfl (by kernel_rfl) (by kernel_rfl) (by kernel_rfl) (fun _ _ _ h => h) (by kernel_rfl) (Stay.refl _ _) (Or.inr ⟨by rfl, rfl⟩) ?_
    conv => arg 8; simp [Act.put]
    refine wpAnyH_takeL (i := 5) (v := undef) #[true, true, true, true, true, true, true, false, false, false, false, false, false, false, false, false, false, false, false, false, false] rfl (by kernel_rfl) (by kernel_rfl) (by kernel_rfl) (fun _ _ _ h => h) (by kernel_rfl) (Stay.refl _ _) (Or.inr ⟨by rfl, rfl⟩) ?_
    conv => arg 8; simp [Act.put]
    refine wpAnyH_takeL (i := 7) (v := undef) #[true, true, true, true, true, true, true, true, false, false, false, false, false, false, false, false, false, false, false, false, false] rfl (by kernel_rfl) (by kernel_rfl) (by kernel_rfl) (fun _ _ _ h => h) (by kernel_rfl) (Stay.refl _ _) (Or.inr ⟨by rfl, rfl⟩) ?_
    conv => arg 8; simp [Act.put]
    refine wpAnyH_takeL (i := 8) (v := undef) #[true, true, true, true, true, true, true, true, true, false, false, false, false, false, false, false, false, false, false, false, false] rfl (by kernel_rfl) (by kernel_rfl) (by kernel_rfl) (fun _ _ _ h => h) (by kernel_rfl) (Stay.refl _ _) (Or.inr ⟨by rfl, rfl⟩) ?_
    conv => arg 8; simp [Act.put]
    refine wpAnyH_takeL (i := 9) (v := undef) #[true, true, true, true, true, true, true, true, true, true, false, false, false, false, false, false, false, false, false, false, false] rfl (by kernel_rfl) (by kernel_rfl) (by kernel_rfl) (fun _ _ _ h => h) (by kernel_rfl) (Stay.refl _ _) (Or.inr ⟨by rfl, rfl⟩) ?_
    conv => arg 8; simp [Act.put]
    refine wpAnyH_takeL (i := 10) (v := undef) #[true, true, true, true, true, true, true, true, true, true, true, false, false, false, false, false, false, false, false, false, false] rfl (by kernel_rfl) (by kernel_rfl) (by kernel_rfl) (fun _ _ _ h => h) (by kernel_rfl) (Stay.refl _ _) (Or.inr ⟨by rfl, rfl⟩) ?_
    conv => arg 8; simp [Act.put]
    refine wpAnyH_takeL (i := 11) (v := undef) #[true, true, true, true, true, true, true, true, true, true, true, true, false, false, false, false, false, false, false, false, false] rfl (by kernel_rfl) (by kernel_rfl) (by kernel_rfl) (fun _ _ _ h => h) (by kernel_rfl) (Stay.refl _ _) (Or.inr ⟨by rfl, rfl⟩) ?_
    conv => arg 8; simp [Act.put]
    refine wpAnyH_takeL (i := 12) (v := undef) #[true, true, true, true, true, true, true, true, true, true, true, true, true, false, false, false, false, false, false, false, false] rfl (by kernel_rfl) (by kernel_rfl) (by kernel_rfl) (fun _ _ _ h => h) (by kernel_rfl) (Stay.refl _ _) (Or.inr ⟨by rfl, rfl⟩) ?_
    conv => arg 8; simp [Act.put]
    refine wpAnyH_takeL (i := 13) (v := undef) #[true, true, true, true, true, true, true, true, true, true, true, true, true, true, false, false, false, false, false, false, false] rfl (by kernel_rfl) (by kernel_rfl) (by kernel_rfl) (fun _ _ _ h => h) (by kernel_rfl) (Stay.refl _ _) (Or.inr ⟨by rfl, rfl⟩) ?_
    conv => arg 8; simp [Act.put]
    refine wpAnyH_takeL (i := 14) (v := undef) #[true, true, true, true, true, true, true, true, true, true, true, true, true, true, true, false, false, false, false, false, false] rfl (by kernel_rfl) (by kernel_rfl) (by kernel_rfl) (fun _ _ _ h => h) (by kernel_rfl) (Stay.refl _ _) (Or.inr ⟨by rfl, rfl⟩) ?_
    conv => arg 8; simp [Act.put]
    refine wpAnyH_takeL (i := 15) (v := undef) #[true, true, true, true, true, true, true, true, true, true, true, true, true, true, true, true, false, false, false, false, false] rfl (by kernel_rfl) (by kernel_rfl) (by kernel_rfl) (fun _ _ _ h => h) (by kernel_rfl) (Stay.refl _ _) (Or.inr ⟨by rfl, rfl⟩) ?_
    conv => arg 8; simp [Act.put]
    refine wpAnyH_takeL (i := 16) (v := .bool true) #[true, true, true, true, true, true, true, true, true, true, true, true, true, true, true, true, true, false, false, false, false] rfl (by kernel_rfl) (by kernel_rfl) (by kernel_rfl) (fun _ _ _ h => h) (by kernel_rfl) (Stay.refl _ _) (Or.inl ⟨by rfl, fun W hW => ?_⟩) ?_
    · go_simp
    conv => arg 8; simp [Act.put]
    refine wpAnyH_takeL (i := 17) (v := .bool true) #[true, true, true, true, true, true, true, true, true, true, true, true, true, true, true, true, true, true, false, false, false] rfl (by kernel_rfl) (by kernel_rfl) (by kernel_rfl) (fun _ _ _ h => h) (by kernel_rfl) (Stay.refl _ _) (Or.inl ⟨by rfl, fun W hW => ?_⟩) ?_
    · go_simp
    conv => arg 8; simp [Act.put]
    refine wpAnyH_one #[true, true, true, true, true, true, true, true, true, true, true, true, true, true, true, true, true, true, true, false, false] (i := 18) rfl (by kernel_rfl) (by kernel_rfl) (fun K hK => ?_)
    go_simp
    go_wp2_with (go_at_call 17; refine (sure_any wz.drew).mono ?_; rintro e z1 ⟨rfl, s⟩)
    replace hst := hst.trans s
    refine hK _ _ s ?_
    clear hK
    conv => arg 8; simp [Act.put]
    refine wpAnyH_narrow (S' := Stay (fun _ => False) z1) (fun _ h => s.trans h) _ _ _ _ ?_
    clear s
    refine wpAnyH_takeL (i := 19) (v := .bool true) #[true, true, true, true, true, true, true, true, true, true, true, true, true, true, true, true, true, true, true, true, false] rfl (by kernel_rfl) (by kernel_rfl) (by kernel_rfl) (fun _ _ _ h => h) (by kernel_rfl) (Stay.refl _ _) (Or.inl ⟨by rfl, fun W hW => ?_⟩) ?_
    · go_simp
    conv => arg 8; simp [Act.put]
    refine wpAnyH_takeL (i := 20) (v := .bool true) #[true, true, true, true, true, true, true, true, true, true, true, true, true, true, true, true, true, true, true, true, true] rfl (by kernel_rfl) (by kernel_rfl) (by kernel_rfl) (fun _ _ _ h => h) (by kernel_rfl) (Stay.refl _ _) (Or.inl ⟨by rfl, fun W hW => ?_⟩) ?_
    · go_simp
    conv => arg 8; simp [Act.put]
    refine wpAnyH_done (by kernel_rfl) ?_ _
    go_wp2
    go_ret
    exact ⟨rfl, HSZ.out.trans hst⟩

end Go.Proofs.YtgchdgdhjafdbaaDoor.Bo

