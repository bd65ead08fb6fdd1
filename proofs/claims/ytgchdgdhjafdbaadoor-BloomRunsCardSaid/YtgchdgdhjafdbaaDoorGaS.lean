import Derived.Test.YtgchdgdhjafdbaaDoorGaR
import Derived.Test.YtgchdgdhjafdbaaDoorBoRunsA
import Derived.Test.YtgchdgdhjafdbaaDoorBoRunsB
import Derived.Test.YtgchdgdhjafdbaaDoorErrPk
import Derived.Test.YtgchdgdhjafdbaaDoorCards
import Derived.Test.YtgchdgdhjafdbaaDoorTie
import Derived.SevenTiedAt
/-
  BloomRuns' walk, where New refuses the size and Decode takes the bytes.
-/
namespace Go.Proofs.YtgchdgdhjafdbaaDoor.Bo
open Go.RowKit Pk
set_option maxRecDepth 100000

set_option maxHeartbeats 16000000 in
theorem runs_no_good (w : World) (x0 x1 : Int) (h00 : -9223372036854775808 ≤ x0) (h01 : x0 ≤ 9223372036854775807) (h10 : -9223372036854775808 ≤ x1) (h11 : x1 ≤ 9223372036854775807) (hbad : x0 < 1 ∨ 1048576 < x0 ∨ x1 < 1 ∨ 16 < x1) (a0 : Option Addr) (c : Nat) (ks : List (List UInt8)) (x : Value) (b : List UInt8) (hg : ErrCell w) (hb : Slc w x b) (hlen : b.length ≤ 140737488355328) (hgood : goodB b = true) :
    Calls Tryd.prog 3 #[.agg #[.int .i64 x0, .int .i64 x1], .slice a0 ks.length c, x] w fun e w' => e = .returned (.bool true) ∧ Stay (fun _ => False) w w' := by
  have HBD := Lib.hid hbad
  clear hbad
  have HB0 := Lib.hid hb
  have HGO := Lib.hid hgood
  obtain ⟨xa, xc, rfl, _⟩ := hb
  obtain ⟨w0, hw0⟩ : ∃ w0, w0 = w.alloc (.cells #[.int .i64 x0, .int .i64 x1] 23) := ⟨_, rfl⟩
  have hs0 : Stay (fun _ => False) w w0 := hw0 ▸ Stay.alloc w _
  have HZ0 := Lib.hid (show SzAt w0 w.heap.size x0 x1 from hw0 ▸ heap_alloc_new w _)
  have HS0 := Lib.hid hs0
  have HG := Lib.hid (ErrCell.stay0 hg hs0)
  have HW0 := Lib.hid hw0
  clear hg hw0 hs0 hgood
  go_enter Tryd.func3, Tryd.ntmps3
  go_wp2_with fail
  rw [← HW0.out]
  refine (new_bad x0 x1 w0 h00 h01 h10 h11 HBD.out).mono ?_
  rintro e w1 ⟨rfl, hst⟩
  have hst1 : Stay (fun _ => False) w0 w1 := hst ▸ Stay.refl _ _
  unfold Hn.errI
  clear hst
  have hzz := HZ0.out.stay0 hst1
  have b0 := hzz.c0
  have b1 := hzz.c1
  have HS1 := Lib.hid (HS0.out.trans hst1)
  have HG1 := Lib.hid (ErrCell.stay0 HG.out hst1)
  clear hst1 hzz HW0
  go_wp2_with fail
  refine (rnew_bad x0 x1 w1 h00 h01 h10 h11 HBD.out).mono ?_
  rintro e w2 ⟨rfl, hst2⟩
  unfold RV
  obtain ⟨gr, hgr⟩ : ∃ gr, gr = w2.heap.size := ⟨_, rfl⟩
  obtain ⟨w3, hw3⟩ : ∃ w3, w3 = w2.alloc (.cells #[.int .i64 0, .slice none 0 0] 33) := ⟨_, rfl⟩
  have hst3 : Stay (fun _ => False) w2 w3 := hw3 ▸ Stay.alloc _ _
  have hz3 : w3.heap.size = gr + 1 := by rw [hw3, hgr]; simp
  have hz12 := hst2.size
  have HS3 := Lib.hid (HS1.out.trans (hst2.trans hst3))
  have HG3 := Lib.hid (ErrCell.stay0 HG1.out (hst2.trans hst3))
  have HW3 := Lib.hid hw3
  have HGR := Lib.hid hgr
  clear hst2 hst3 hw3 hgr b0 b1 HS1 HG1 HG hz3 hz12
  go_wp2_with fail
  rw [← HW3.out, ← HGR.out]
  refine (decode_any w3 _ b (HB0.out.stay0 HS3.out) hlen).mono ?_
  rintro e w4 ⟨hr4, hst4⟩
  unfold DecRet at hr4
  rw [if_pos HGO.out] at hr4
  obtain ⟨px, gx, rfl, hpx, hgx, hfx⟩ := hr4
  have HFX4 := Lib.hid hfx
  clear hpx hgx hfx
  go_wp2_with fail
  refine (rdecode_any w4 _ b (HB0.out.stay0 (HS3.out.trans hst4)) hlen).mono ?_
  rintro e w5 ⟨hr5, hst5⟩
  unfold RDecRet at hr5
  rw [if_pos HGO.out] at hr5
  obtain ⟨y, rfl, hty⟩ := hr5
  obtain ⟨ya, yc, rfl⟩ := hty.form
  have hgd := good_of HGO.out
  have HEN := Lib.hid (show encB (decK b).1 (decBits b) = b from hgd.enc)
  have HYL := Lib.hid (show 1 ≤ (decBits b).length by rw [decBits_len]; exact hgd.n1)
  have HYH := Lib.hid (show (decBits b).length ≤ 1048576 by rw [decBits_len]; exact Good.nle)
  have HKH := Lib.hid (show (decK b).1 ≤ 16 from Good.kle)
  clear hgd HGO
  generalize decBits b = DB at *
  generalize (decK b).1 = kk at *
  obtain ⟨ym, hym⟩ : ∃ ym, ym = DB.length := ⟨_, rfl⟩
  rw [← hym] at hty ⊢
  clear hym
  unfold RV
  obtain ⟨gy, hgy⟩ : ∃ gy, gy = w5.heap.size := ⟨_, rfl⟩
  obtain ⟨wz, hwz⟩ : ∃ wz, wz = w5.alloc (.cells #[.int .i64 (kk : Int), .slice ya ym yc] 33) := ⟨_, rfl⟩
  have hstz : Stay (fun _ => False) w5 wz := hwz ▸ Stay.alloc _ _
  have hst3z := (hst4.trans hst5).trans hstz
  have HSZ := Lib.hid (HS3.out.trans hst3z)
  have HGZ := Lib.hid (ErrCell.stay0 HG3.out hst3z)
  have HWZ := Lib.hid hwz
  have HGY := Lib.hid hgy
  have HFX := Lib.hid (HFX4.out.stay0 (hst5.trans hstz))
  have HTY := Lib.hid (hty.stay0 hstz)
  have HRY := Lib.hid (show RfAt wz gy kk (.slice ya ym yc) by rw [hwz, hgy]; exact heap_alloc_new w5 _)
  clear hty HFX4
  clear hst4 hst5 hstz hst3z hwz hgy HS3 HG3 HB0 HW3 HGR
  go_wp2
  rw [← HWZ.out, ← HGY.out]
  refine wp_region_held (S := Stay (fun _ => False) wz.drew) (by kernel_rfl) ?_
  change wpAnyH _ _ _ _ _ _ _ _ (World.drew _)
  have hst : Stay (fun _ => False) wz wz.drew := Stay.drew
  refine wpAnyH_takeL (i := 0) (v := .iface 55 (.int .i64 1)) #[true, false, false, false, false, false, false, false, false, false, false, false, false, false, false, false, false, false, false, false, false, false, false, false, false, false, false, false, false, false] rfl (by kernel_rfl) (by kernel_rfl) (by kernel_rfl) (fun _ _ _ h => h) (by kernel_rfl) (Stay.refl _ _) (Or.inl ⟨by rfl, fun W hW => ?_⟩) ?_
  · go_simp
  conv => arg 8; simp [Act.put]
  refine wpAnyH_takeL (i := 2) (v := .int .i64 1) #[true, false, true, false, false, false, false, false, false, false, false, false, false, false, false, false, false, false, false, false, false, false, false, false, false, false, false, false, false, false] rfl (by kernel_rfl) (by kernel_rfl) (by kernel_rfl) (fun _ _ _ h => h) (by kernel_rfl) (Stay.refl _ _) (Or.inl ⟨by rfl, fun W hW => ?_⟩) ?_
  · go_simp
  conv => arg 8; simp [Act.put]
  refine wpAnyH_one #[true, true, true, false, false, false, false, false, false, false, false, false, false, false, false, false, false, false, false, false, false, false, false, false, false, false, false, false, false, false] (i := 1) rfl (by kernel_rfl) (by kernel_rfl) (fun K hK => ?_)
  go_simp
  go_wp2_with (go_at_call 10; refine (num_of 1 wz.drew (ErrCell.stay0 HGZ.out hst) _ rfl).mono ?_; rintro e z1 ⟨rfl, s⟩)
  replace hst := hst.trans s
  refine hK _ _ s ?_
  clear hK
  conv => arg 8; simp [Act.put]
  refine wpAnyH_narrow (S' := Stay (fun _ => False) z1) (fun _ h => s.trans h) _ _ _ _ ?_
  clear s
  refine wpAnyH_takeL (i := 3) (v := .bool false) #[true, true, true, true, false, false, false, false, false, false, false, false, false, false, false, false, false, false, false, false, false, false, false, false, false, false, false, false, false, false] rfl (by kernel_rfl) (by kernel_rfl) (by kernel_rfl) (fun _ _ _ h => h) (by kernel_rfl) (Stay.refl _ _) (Or.inl ⟨by rfl, fun W hW => ?_⟩) ?_
  · go_simp
  conv => arg 8; simp [Act.put]
  refine wpAnyH_takeL (i := 4) (v := .bool false) #[true, true, true, true, true, false, false, false, false, false, false, false, false, false, false, false, false, false, false, false, false, false, false, false, false, false, false, false, false, false] rfl (by kernel_rfl) (by kernel_rfl) (by kernel_rfl) (fun _ _ _ h => h) (by kernel_rfl) (Stay.refl _ _) (Or.inl ⟨by rfl, fun W hW => ?_⟩) ?_
  · go_simp
  conv => arg 8; simp [Act.put]
  refine wpAnyH_takeL (i := 5) (v := .nilIface) #[true, true, true, true, true, true, false, false, false, false, false, false, false, false, false, false, false, false, false, false, false, false, false, false, false, false, false, false, false, false] rfl (by kernel_rfl) (by kernel_rfl) (by kernel_rfl) (fun _ _ _ h => h) (by kernel_rfl) (Stay.refl _ _) (Or.inl ⟨by rfl, fun W hW => ?_⟩) ?_
  · go_simp
  conv => arg 8; simp [Act.put]
  refine wpAnyH_takeL (i := 7) (v := .int .i64 0) #[true, true, true, true, true, true, false, true, false, false, false, false, false, false, false, false, false, false, false, false, false, false, false, false, false, false, false, false, false, false] rfl (by kernel_rfl) (by kernel_rfl) (by kernel_rfl) (fun _ _ _ h => h) (by kernel_rfl) (Stay.refl _ _) (Or.inl ⟨by rfl, fun W hW => ?_⟩) ?_
  · go_simp
  conv => arg 8; simp [Act.put]
  refine wpAnyH_one #[true, true, true, true, true, true, true, true, false, false, false, false, false, false, false, false, false, false, false, false, false, false, false, false, false, false, false, false, false, false] (i := 6) rfl (by kernel_rfl) (by kernel_rfl) (fun K hK => ?_)
  go_simp
  go_wp2_with (go_at_call 10; refine (num_of 0 z1 (ErrCell.stay0 HGZ.out hst) _ rfl).mono ?_; rintro e z2 ⟨rfl, s⟩)
  replace hst := hst.trans s
  refine hK _ _ s ?_
  clear hK
  conv => arg 8; simp [Act.put]
  refine wpAnyH_narrow (S' := Stay (fun _ => False) z2) (fun _ h => s.trans h) _ _ _ _ ?_
  clear s
  refine wpAnyH_takeL (i := 8) (v := .bool false) #[true, true, true, true, true, true, true, true, true, false, false, false, false, false, false, false, false, false, false, false, false, false, false, false, false, false, false, false, false, false] rfl (by kernel_rfl) (by kernel_rfl) (by kernel_rfl) (fun _ _ _ h => h) (by kernel_rfl) (Stay.refl _ _) (Or.inl ⟨by rfl, fun W hW => ?_⟩) ?_
  · go_simp
  conv => arg 8; simp [Act.put]
  refine wpAnyH_takeL (i := 9) (v := .bool false) #[true, true, true, true, true, true, true, true, true, true, false, false, false, false, false, false, false, false, false, false, false, false, false, false, false, false, false, false, false, false] rfl (by kernel_rfl) (by kernel_rfl) (by kernel_rfl) (fun _ _ _ h => h) (by kernel_rfl) (Stay.refl _ _) (Or.inl ⟨by rfl, fun W hW => ?_⟩) ?_
  · go_simp
  conv => arg 8; simp [Act.put]
  refine wpAnyH_takeL (i := 10) (v := .bool false) #[true, true, true, true, true, true, true, true, true, true, true, false, false, false, false, false, false, false, false, false, false, false, false, false, false, false, false, false, false, false] rfl (by kernel_rfl) (by kernel_rfl) (by kernel_rfl) (fun _ _ _ h => h) (by kernel_rfl) (Stay.refl _ _) (Or.inl ⟨by rfl, fun W hW => ?_⟩) ?_
  · go_simp
  conv => arg 8; simp [Act.put]
  refine wpAnyH_takeL (i := 11) (v := .pointer (some ⟨px, 0, none⟩)) #[true, true, true, true, true, true, true, true, true, true, true, true, false, false, false, false, false, false, false, false, false, false, false, false, false, false, false, false, false, false] rfl (by kernel_rfl) (by kernel_rfl) (by kernel_rfl) (fun _ _ _ h => h) (by kernel_rfl) (Stay.refl _ _) (Or.inl ⟨by rfl, fun W hW => ?_⟩) ?_
  · go_simp
  conv => arg 8; simp [Act.put]
  refine wpAnyH_takeL (i := 13) (v := .int .i64 0) #[true, true, true, true, true, true, true, true, true, true, true, true, false, true, false, false, false, false, false, false, false, false, false, false, false, false, false, false, false, false] rfl (by kernel_rfl) (by kernel_rfl) (by kernel_rfl) (fun _ _ _ h => h) (by kernel_rfl) (Stay.refl _ _) (Or.inl ⟨by rfl, fun W hW => ?_⟩) ?_
  · go_simp
  conv => arg 8; simp [Act.put]
  refine wpAnyH_takeL (i := 12) (v := .bool false) #[true, true, true, true, true, true, true, true, true, true, true, true, true, true, false, false, false, false, false, false, false, false, false, false, false, false, false, false, false, false] rfl (by kernel_rfl) (by kernel_rfl) (by kernel_rfl) (fun _ _ _ h => h) (by kernel_rfl) (Stay.refl _ _) (Or.inl ⟨by rfl, fun W hW => ?_⟩) ?_
  · go_simp
  conv => arg 8; simp [Act.put]
  refine wpAnyH_takeL (i := 14) (v := .bool false) #[true, true, true, true, true, true, true, true, true, true, true, true, true, true, true, false, false, false, false, false, false, false, false, false, false, false, false, false, false, false] rfl (by kernel_rfl) (by kernel_rfl) (by kernel_rfl) (fun _ _ _ h => h) (by kernel_rfl) (Stay.refl _ _) (Or.inl ⟨by rfl, fun W hW => ?_⟩) ?_
  · go_simp
  conv => arg 8; simp [Act.put]
  refine wpAnyH_takeL (i := 15) (v := .bool false) #[true, true, true, true, true, true, true, true, true, true, true, true, true, true, true, true, false, false, false, false, false, false, false, false, false, false, false, false, false, false] rfl (by kernel_rfl) (by kernel_rfl) (by kernel_rfl) (fun _ _ _ h => h) (by kernel_rfl) (Stay.refl _ _) (Or.inl ⟨by rfl, fun W hW => ?_⟩) ?_
  · go_simp
  conv => arg 8; simp [Act.put]
  refine wpAnyH_takeL (i := 16) (v := .bool false) #[true, true, true, true, true, true, true, true, true, true, true, true, true, true, true, true, true, false, false, false, false, false, false, false, false, false, false, false, false, false] rfl (by kernel_rfl) (by kernel_rfl) (by kernel_rfl) (fun _ _ _ h => h) (by kernel_rfl) (Stay.refl _ _) (Or.inl ⟨by rfl, fun W hW => ?_⟩) ?_
  · go_simp
  conv => arg 8; simp [Act.put]
  refine wpAnyH_takeL (i := 17) (v := .bool false) #[true, true, true, true, true, true, true, true, true, true, true, true, true, true, true, true, true, true, false, false, false, false, false, false, false, false, false, false, false, false] rfl (by kernel_rfl) (by kernel_rfl) (by kernel_rfl) (fun _ _ _ h => h) (by kernel_rfl) (Stay.refl _ _) (Or.inl ⟨by rfl, fun W hW => ?_⟩) ?_
  · go_simp
  conv => arg 8; simp [Act.put]
  refine wpAnyH_takeL (i := 18) (v := .int .i64 0) #[true, true, true, true, true, true, true, true, true, true, true, true, true, true, true, true, true, true, true, false, false, false, false, false, false, false, false, false, false, false] rfl (by kernel_rfl) (by kernel_rfl) (by kernel_rfl) (fun _ _ _ h => h) (by kernel_rfl) (Stay.refl _ _) (Or.inl ⟨by rfl, fun W hW => ?_⟩) ?_
  · go_simp
  conv => arg 8; simp [Act.put]
  refine wpAnyH_takeL (i := 19) (v := .bool true) #[true, true, true, true, true, true, true, true, true, true, true, true, true, true, true, true, true, true, true, true, false, false, false, false, false, false, false, false, false, false] rfl (by kernel_rfl) (by kernel_rfl) (by kernel_rfl) (fun _ _ _ h => h) (by kernel_rfl) (Stay.refl _ _) (Or.inl ⟨by rfl, fun W hW => ?_⟩) ?_
  · go_simp
  conv => arg 8; simp [Act.put]
  refine wpAnyH_takeL (i := 20) (v := .bool true) #[true, true, true, true, true, true, true, true, true, true, true, true, true, true, true, true, true, true, true, true, true, false, false, false, false, false, false, false, false, false] rfl (by kernel_rfl) (by kernel_rfl) (by kernel_rfl) (fun _ _ _ h => h) (by kernel_rfl) (Stay.refl _ _) (Or.inl ⟨by rfl, fun W hW => ?_⟩) ?_
  · go_simp
  conv => arg 8; simp [Act.put]
  refine wpAnyH_takeL (i := 21) (v := .pointer (some ⟨px, 0, none⟩)) #[true, true, true, true, true, true, true, true, true, true, true, true, true, true, true, true, true, true, true, true, true, true, false, false, false, false, false, false, false, false] rfl (by kernel_rfl) (by kernel_rfl) (by kernel_rfl) (fun _ _ _ h => h) (by kernel_rfl) (Stay.refl _ _) (Or.inl ⟨by rfl, fun W hW => ?_⟩) ?_
  · go_simp
  conv => arg 8; simp [Act.put]
  refine wpAnyH_takeL (i := 24) #[true, true, true, true, true, true, true, true, true, true, true, true, true, true, true, true, true, true, true, true, true, true, false, false, true, false, false, false, false, false] rfl (by kernel_rfl) (by kernel_rfl) (by kernel_rfl) (fun _ _ _ h => h) (by kernel_rfl) (Stay.refl _ _) (yieldsIf_load rfl 33 (.tmp 13) rfl ⟨gy, 0, none⟩ rfl _ (fun W hW => (HRY.out.stay0 (hst.trans hW)).run)) ?_
  conv => arg 8; simp [Act.put]
  refine wpAnyH_one #[true, true, true, true, true, true, true, true, true, true, true, true, true, true, true, true, true, true, true, true, true, true, true, false, true, false, false, false, false, false] (i := 22) rfl (by kernel_rfl) (by kernel_rfl) (fun K hK => ?_)
  go_simp
  go_wp2_with (go_at_call 11; refine (encode_any z2 px gx kk DB (HFX.out.stay0 hst)).mono ?_; rintro e z3 ⟨x5, rfl, how5, s⟩; rw [HEN.out] at how5; obtain ⟨a5, c5, rfl⟩ := how5.form; have HO5 := Lib.hid how5.slc; clear how5)
  replace hst := hst.trans s
  refine hK _ _ s ?_
  clear hK
  conv => arg 8; simp [Act.put]
  refine wpAnyH_narrow (S' := Stay (fun _ => False) z3) (fun _ h => s.trans h) _ _ _ _ ?_
  clear s
  refine wpAnyH_takeL (i := 23) (v := .string ⟨b.toArray⟩) #[true, true, true, true, true, true, true, true, true, true, true, true, true, true, true, true, true, true, true, true, true, true, true, true, true, false, false, false, false, false] rfl (by kernel_rfl) (by kernel_rfl) (by kernel_rfl) (fun _ _ _ h => h) (by kernel_rfl) (Stay.refl _ _) (Or.inl ⟨by rfl, fun W hW => ?_⟩) ?_
  · have cv := conv_slc (HO5.out.stay0 hW)
    unfold strV at cv
    go_simp
  conv => arg 8; simp [Act.put]
  refine wpAnyH_one #[true, true, true, true, true, true, true, true, true, true, true, true, true, true, true, true, true, true, true, true, true, true, true, true, true, true, false, false, false, false] (i := 25) rfl (by kernel_rfl) (by kernel_rfl) (fun K hK => ?_)
  go_simp
  go_wp2_with (go_at_call 12; refine (rencode_any z3 kk _ DB _ (HTY.out.stay0 hst) HYL.out HYH.out HKH.out).mono ?_; rintro e z4 ⟨x6, rfl, how6, s⟩; rw [HEN.out] at how6; obtain ⟨a6, c6, rfl⟩ := how6.form; have HO6 := Lib.hid how6.slc; clear how6)
  replace hst := hst.trans s
  refine hK _ _ s ?_
  clear hK
  conv => arg 8; simp [Act.put]
  refine wpAnyH_narrow (S' := Stay (fun _ => False) z4) (fun _ h => s.trans h) _ _ _ _ ?_
  clear s
  refine wpAnyH_takeL (i := 26) (v := .string ⟨b.toArray⟩) #[true, true, true, true, true, true, true, true, true, true, true, true, true, true, true, true, true, true, true, true, true, true, true, true, true, true, true, false, false, false] rfl (by kernel_rfl) (by kernel_rfl) (by kernel_rfl) (fun _ _ _ h => h) (by kernel_rfl) (Stay.refl _ _) (Or.inl ⟨by rfl, fun W hW => ?_⟩) ?_
  · have cv := conv_slc (HO6.out.stay0 hW)
    unfold strV at cv
    go_simp
  conv => arg 8; simp [Act.put]
  refine wpAnyH_takeL (i := 27) (v := .bool false) #[true, true, true, true, true, true, true, true, true, true, true, true, true, true, true, true, true, true, true, true, true, true, true, true, true, true, true, true, false, false] rfl (by kernel_rfl) (by kernel_rfl) (by kernel_rfl) (fun _ _ _ h => h) (by kernel_rfl) (Stay.refl _ _) (Or.inl ⟨by rfl, fun W hW => ?_⟩) ?_
  · go_simp
  conv => arg 8; simp [Act.put]
  refine wpAnyH_takeL (i := 28) (v := .bool false) #[true, true, true, true, true, true, true, true, true, true, true, true, true, true, true, true, true, true, true, true, true, true, true, true, true, true, true, true, true, false] rfl (by kernel_rfl) (by kernel_rfl) (by kernel_rfl) (fun _ _ _ h => h) (by kernel_rfl) (Stay.refl _ _) (Or.inl ⟨by rfl, fun W hW => ?_⟩) ?_
  · go_simp
  conv => arg 8; simp [Act.put]
  refine wpAnyH_takeL (i := 29) (v := .bool false) #[true, true, true, true, true, true, true, true, true, true, true, true, true, true, true, true, true, true, true, true, true, true, true, true, true, true, true, true, true, true] rfl (by kernel_rfl) (by kernel_rfl) (by kernel_rfl) (fun _ _ _ h => h) (by kernel_rfl) (Stay.refl _ _) (Or.inl ⟨by rfl, fun W hW => ?_⟩) ?_
  · go_simp
  conv => arg 8; simp [Act.put]
  refine wpAnyH_done (by kernel_rfl) ?_ _
  have HSV := Lib.hid (HSZ.out.trans hst)
  clear hst HSZ HGZ HWZ HGY HFX HTY HRY HEN HYL HYH HKH HO5 HO6
  generalize z4 = v0 at *
  go_wp2_with fail
  refine (add_nil _ v0).mono ?_
  rintro e v1 ⟨rfl, rfl⟩
  go_wp2_with fail
  refine (may_nil _ v0).mono ?_
  rintro e v1 ⟨rfl, rfl⟩
  go_wp2_with fail
  refine (full_nil v0).mono ?_
  rintro e v1 ⟨rfl, rfl⟩
  go_wp2_with fail
  refine (encode_nil v0).mono ?_
  rintro e v1 ⟨rfl, rfl⟩
  go_wp2_with fail
  refine (bits_nil _ v0).mono ?_
  rintro e v1 ⟨rfl, rfl⟩
  go_wp2_with fail
  refine (sure_any v0).mono ?_
  rintro e v1 ⟨rfl, hs⟩
  go_wp2
  go_ret
  exact ⟨rfl, HSV.out.trans hs⟩

end Go.Proofs.YtgchdgdhjafdbaaDoor.Bo

/-
  BloomRuns' walk, where New refuses the size and Decode refuses the bytes.
-/
namespace Go.Proofs.YtgchdgdhjafdbaaDoor.Bo
open Go.RowKit Pk
set_option maxRecDepth 100000

set_option maxHeartbeats 16000000 in
theorem runs_no_bad (w : World) (x0 x1 : Int) (h00 : -9223372036854775808 ≤ x0) (h01 : x0 ≤ 9223372036854775807) (h10 : -9223372036854775808 ≤ x1) (h11 : x1 ≤ 9223372036854775807) (hbad : x0 < 1 ∨ 1048576 < x0 ∨ x1 < 1 ∨ 16 < x1) (a0 : Option Addr) (c : Nat) (ks : List (List UInt8)) (x : Value) (b : List UInt8) (hg : ErrCell w) (hb : Slc w x b) (hlen : b.length ≤ 140737488355328) (hgood : goodB b = false) :
    Calls Tryd.prog 3 #[.agg #[.int .i64 x0, .int .i64 x1], .slice a0 ks.length c, x] w fun e w' => e = .returned (.bool true) ∧ Stay (fun _ => False) w w' := by
  have HBD := Lib.hid hbad
  clear hbad
  have HB0 := Lib.hid hb
  have HGO := Lib.hid hgood
  obtain ⟨xa, xc, rfl, _⟩ := hb
  obtain ⟨w0, hw0⟩ : ∃ w0, w0 = w.alloc (.cells #[.int .i64 x0, .int .i64 x1] 23) := ⟨_, rfl⟩
  have hs0 : Stay (fun _ => False) w w0 := hw0 ▸ Stay.alloc w _
  have HZ0 := Lib.hid (show SzAt w0 w.heap.size x0 x1 from hw0 ▸ heap_alloc_new w _)
  have HS0 := Lib.hid hs0
  have HG := Lib.hid (ErrCell.stay0 hg hs0)
  have HW0 := Lib.hid hw0
  clear hg hw0 hs0 hgood
  go_enter Tryd.func3, Tryd.ntmps3
  go_wp2_with fail
  rw [← HW0.out]
  refine (new_bad x0 x1 w0 h00 h01 h10 h11 HBD.out).mono ?_
  rintro e w1 ⟨rfl, hst⟩
  have hst1 : Stay (fun _ => False) w0 w1 := hst ▸ Stay.refl _ _
  unfold Hn.errI
  clear hst
  have hzz := HZ0.out.stay0 hst1
  have b0 := hzz.c0
  have b1 := hzz.c1
  have HS1 := Lib.hid (HS0.out.trans hst1)
  have HG1 := Lib.hid (ErrCell.stay0 HG.out hst1)
  clear hst1 hzz HW0
  go_wp2_with fail
  refine (rnew_bad x0 x1 w1 h00 h01 h10 h11 HBD.out).mono ?_
  rintro e w2 ⟨rfl, hst2⟩
  unfold RV
  obtain ⟨gr, hgr⟩ : ∃ gr, gr = w2.heap.size := ⟨_, rfl⟩
  obtain ⟨w3, hw3⟩ : ∃ w3, w3 = w2.alloc (.cells #[.int .i64 0, .slice none 0 0] 33) := ⟨_, rfl⟩
  have hst3 : Stay (fun _ => False) w2 w3 := hw3 ▸ Stay.alloc _ _
  have hz3 : w3.heap.size = gr + 1 := by rw [hw3, hgr]; simp
  have hz12 := hst2.size
  have HS3 := Lib.hid (HS1.out.trans (hst2.trans hst3))
  have HG3 := Lib.hid (ErrCell.stay0 HG1.out (hst2.trans hst3))
  have HW3 := Lib.hid hw3
  have HGR := Lib.hid hgr
  clear hst2 hst3 hw3 hgr b0 b1 HS1 HG1 HG hz3 hz12
  go_wp2_with fail
  rw [← HW3.out, ← HGR.out]
  refine (decode_any w3 _ b (HB0.out.stay0 HS3.out) hlen).mono ?_
  rintro e w4 ⟨hr4, hst4⟩
  unfold DecRet at hr4
  rw [if_neg (by rw [HGO.out]; decide)] at hr4
  subst hr4
  unfold Hn.errI
  go_wp2_with fail
  refine (rdecode_any w4 _ b (HB0.out.stay0 (HS3.out.trans hst4)) hlen).mono ?_
  rintro e w5 ⟨hr5, hst5⟩
  unfold RDecRet at hr5
  rw [if_neg (by rw [HGO.out]; decide)] at hr5
  subst hr5
  unfold RV
  obtain ⟨gy, hgy⟩ : ∃ gy, gy = w5.heap.size := ⟨_, rfl⟩
  obtain ⟨wz, hwz⟩ : ∃ wz, wz = w5.alloc (.cells #[.int .i64 0, .slice none 0 0] 33) := ⟨_, rfl⟩
  have hstz : Stay (fun _ => False) w5 wz := hwz ▸ Stay.alloc _ _
  have hst3z := (hst4.trans hst5).trans hstz
  have HSZ := Lib.hid (HS3.out.trans hst3z)
  have HGZ := Lib.hid (ErrCell.stay0 HG3.out hst3z)
  have HWZ := Lib.hid hwz
  have HGY := Lib.hid hgy
  clear hst4 hst5 hstz hst3z hwz hgy HS3 HG3 HB0 HW3 HGR
  go_wp2
  rw [← HWZ.out, ← HGY.out]
  refine wp_region_held (S := Stay (fun _ => False) wz.drew) (by kernel_rfl) ?_
  change wpAnyH _ _ _ _ _ _ _ _ (World.drew _)
  have hst : Stay (fun _ => False) wz wz.drew := Stay.drew
  refine wpAnyH_takeL (i := 0) (v := .iface 55 (.int .i64 1)) #[true, false, false, false, false, false, false, false, false, false, false, false, false, false, false, false, false, false, false, false, false, false, false, false, false, false, false, false, false, false] rfl (by kernel_rfl) (by kernel_rfl) (by kernel_rfl) (fun _ _ _ h => h) (by kernel_rfl) (Stay.refl _ _) (Or.inl ⟨by rfl, fun W hW => ?_⟩) ?_
  · go_simp
  conv => arg 8; simp [Act.put]
  refine wpAnyH_takeL (i := 2) (v := .int .i64 1) #[true, false, true, false, false, false, false, false, false, false, false, false, false, false, false, false, false, false, false, false, false, false, false, false, false, false, false, false, false, false] rfl (by kernel_rfl) (by kernel_rfl) (by kernel_rfl) (fun _ _ _ h => h) (by kernel_rfl) (Stay.refl _ _) (Or.inl ⟨by rfl, fun W hW => ?_⟩) ?_
  · go_simp
  conv => arg 8; simp [Act.put]
  refine wpAnyH_one #[true, true, true, false, false, false, false, false, false, false, false, false, false, false, false, false, false, false, false, false, false, false, false, false, false, false, false, false, false, false] (i := 1) rfl (by kernel_rfl) (by kernel_rfl) (fun K hK => ?_)
  go_simp
  go_wp2_with (go_at_call 10; refine (num_of 1 wz.drew (ErrCell.stay0 HGZ.out hst) _ rfl).mono ?_; rintro e z1 ⟨rfl, s⟩)
  replace hst := hst.trans s
  refine hK _ _ s ?_
  clear hK
  conv => arg 8; simp [Act.put]
  refine wpAnyH_narrow (S' := Stay (fun _ => False) z1) (fun _ h => s.trans h) _ _ _ _ ?_
  clear s
  refine wpAnyH_takeL (i := 3) (v := .bool false) #[true, true, true, true, false, false, false, false, false, false, false, false, false, false, false, false, false, false, false, false, false, false, false, false, false, false, false, false, false, false] rfl (by kernel_rfl) (by kernel_rfl) (by kernel_rfl) (fun _ _ _ h => h) (by kernel_rfl) (Stay.refl _ _) (Or.inl ⟨by rfl, fun W hW => ?_⟩) ?_
  · go_simp
  conv => arg 8; simp [Act.put]
  refine wpAnyH_takeL (i := 4) (v := .bool false) #[true, true, true, true, true, false, false, false, false, false, false, false, false, false, false, false, false, false, false, false, false, false, false, false, false, false, false, false, false, false] rfl (by kernel_rfl) (by kernel_rfl) (by kernel_rfl) (fun _ _ _ h => h) (by kernel_rfl) (Stay.refl _ _) (Or.inl ⟨by rfl, fun W hW => ?_⟩) ?_
  · go_simp
  conv => arg 8; simp [Act.put]
  refine wpAnyH_takeL (i := 5) (v := .iface 55 (.int .i64 3)) #[true, true, true, true, true, true, false, false, false, false, false, false, false, false, false, false, false, false, false, false, false, false, false, false, false, false, false, false, false, false] rfl (by kernel_rfl) (by kernel_rfl) (by kernel_rfl) (fun _ _ _ h => h) (by kernel_rfl) (Stay.refl _ _) (Or.inl ⟨by rfl, fun W hW => ?_⟩) ?_
  · go_simp
  conv => arg 8; simp [Act.put]
  refine wpAnyH_takeL (i := 7) (v := .int .i64 3) #[true, true, true, true, true, true, false, true, false, false, false, false, false, false, false, false, false, false, false, false, false, false, false, false, false, false, false, false, false, false] rfl (by kernel_rfl) (by kernel_rfl) (by kernel_rfl) (fun _ _ _ h => h) (by kernel_rfl) (Stay.refl _ _) (Or.inl ⟨by rfl, fun W hW => ?_⟩) ?_
  · go_simp
  conv => arg 8; simp [Act.put]
  refine wpAnyH_one #[true, true, true, true, true, true, true, true, false, false, false, false, false, false, false, false, false, false, false, false, false, false, false, false, false, false, false, false, false, false] (i := 6) rfl (by kernel_rfl) (by kernel_rfl) (fun K hK => ?_)
  go_simp
  go_wp2_with (go_at_call 10; refine (num_of 3 z1 (ErrCell.stay0 HGZ.out hst) _ rfl).mono ?_; rintro e z2 ⟨rfl, s⟩)
  replace hst := hst.trans s
  refine hK _ _ s ?_
  clear hK
  conv => arg 8; simp [Act.put]
  refine wpAnyH_narrow (S' := Stay (fun _ => False) z2) (fun _ h => s.trans h) _ _ _ _ ?_
  clear s
  refine wpAnyH_takeL (i := 8) (v := .bool false) #[true, true, true, true, true, true, true, true, true, false, false, false, false, false, false, false, false, false, false, false, false, false, false, false, false, false, false, false, false, false] rfl (by kernel_rfl) (by kernel_rfl) (by kernel_rfl) (fun _ _ _ h => h) (by kernel_rfl) (Stay.refl _ _) (Or.inl ⟨by rfl, fun W hW => ?_⟩) ?_
  · go_simp
  conv => arg 8; simp [Act.put]
  refine wpAnyH_takeL (i := 9) (v := .bool false) #[true, true, true, true, true, true, true, true, true, true, false, false, false, false, false, false, false, false, false, false, false, false, false, false, false, false, false, false, false, false] rfl (by kernel_rfl) (by kernel_rfl) (by kernel_rfl) (fun _ _ _ h => h) (by kernel_rfl) (Stay.refl _ _) (Or.inl ⟨by rfl, fun W hW => ?_⟩) ?_
  · go_simp
  conv => arg 8; simp [Act.put]
  refine wpAnyH_takeL (i := 10) (v := .bool false) #[true, true, true, true, true, true, true, true, true, true, true, false, false, false, false, false, false, false, false, false, false, false, false, false, false, false, false, false, false, false] rfl (by kernel_rfl) (by kernel_rfl) (by kernel_rfl) (fun _ _ _ h => h) (by kernel_rfl) (Stay.refl _ _) (Or.inl ⟨by rfl, fun W hW => ?_⟩) ?_
  · go_simp
  conv => arg 8; simp [Act.put]
  refine wpAnyH_takeL (i := 11) (v := .pointer none) #[true, true, true, true, true, true, true, true, true, true, true, true, false, false, false, false, false, false, false, false, false, false, false, false, false, false, false, false, false, false] rfl (by kernel_rfl) (by kernel_rfl) (by kernel_rfl) (fun _ _ _ h => h) (by kernel_rfl) (Stay.refl _ _) (Or.inl ⟨by rfl, fun W hW => ?_⟩) ?_
  · go_simp
  conv => arg 8; simp [Act.put]
  refine wpAnyH_takeL (i := 13) (v := .int .i64 3) #[true, true, true, true, true, true, true, true, true, true, true, true, false, true, false, false, false, false, false, false, false, false, false, false, false, false, false, false, false, false] rfl (by kernel_rfl) (by kernel_rfl) (by kernel_rfl) (fun _ _ _ h => h) (by kernel_rfl) (Stay.refl _ _) (Or.inl ⟨by rfl, fun W hW => ?_⟩) ?_
  · go_simp
  conv => arg 8; simp [Act.put]
  refine wpAnyH_takeL (i := 12) (v := .bool true) #[true, true, true, true, true, true, true, true, true, true, true, true, true, true, false, false, false, false, false, false, false, false, false, false, false, false, false, false, false, false] rfl (by kernel_rfl) (by kernel_rfl) (by kernel_rfl) (fun _ _ _ h => h) (by kernel_rfl) (Stay.refl _ _) (Or.inl ⟨by rfl, fun W hW => ?_⟩) ?_
  · go_simp
  conv => arg 8; simp [Act.put]
  refine wpAnyH_takeL (i := 14) (v := .bool true) #[true, true, true, true, true, true, true, true, true, true, true, true, true, true, true, false, false, false, false, false, false, false, false, false, false, false, false, false, false, false] rfl (by kernel_rfl) (by kernel_rfl) (by kernel_rfl) (fun _ _ _ h => h) (by kernel_rfl) (Stay.refl _ _) (Or.inl ⟨by rfl, fun W hW => ?_⟩) ?_
  · go_simp
  conv => arg 8; simp [Act.put]
  refine wpAnyH_takeL (i := 15) (v := .bool false) #[true, true, true, true, true, true, true, true, true, true, true, true, true, true, true, true, false, false, false, false, false, false, false, false, false, false, false, false, false, false] rfl (by kernel_rfl) (by kernel_rfl) (by kernel_rfl) (fun _ _ _ h => h) (by kernel_rfl) (Stay.refl _ _) (Or.inl ⟨by rfl, fun W hW => ?_⟩) ?_
  · go_simp
  conv => arg 8; simp [Act.put]
  refine wpAnyH_takeL (i := 16) (v := .bool false) #[true, true, true, true, true, true, true, true, true, true, true, true, true, true, true, true, true, false, false, false, false, false, false, false, false, false, false, false, false, false] rfl (by kernel_rfl) (by kernel_rfl) (by kernel_rfl) (fun _ _ _ h => h) (by kernel_rfl) (Stay.refl _ _) (Or.inl ⟨by rfl, fun W hW => ?_⟩) ?_
  · go_simp
  conv => arg 8; simp [Act.put]
  refine wpAnyH_takeL (i := 17) (v := .bool false) #[true, true, true, true, true, true, true, true, true, true, true, true, true, true, true, true, true, true, false, false, false, false, false, false, false, false, false, false, false, false] rfl (by kernel_rfl) (by kernel_rfl) (by kernel_rfl) (fun _ _ _ h => h) (by kernel_rfl) (Stay.refl _ _) (Or.inl ⟨by rfl, fun W hW => ?_⟩) ?_
  · go_simp
  conv => arg 8; simp [Act.put]
  refine wpAnyH_takeL (i := 18) (v := .int .i64 3) #[true, true, true, true, true, true, true, true, true, true, true, true, true, true, true, true, true, true, true, false, false, false, false, false, false, false, false, false, false, false] rfl (by kernel_rfl) (by kernel_rfl) (by kernel_rfl) (fun _ _ _ h => h) (by kernel_rfl) (Stay.refl _ _) (Or.inl ⟨by rfl, fun W hW => ?_⟩) ?_
  · go_simp
  conv => arg 8; simp [Act.put]
  refine wpAnyH_takeL (i := 19) (v := .bool false) #[true, true, true, true, true, true, true, true, true, true, true, true, true, true, true, true, true, true, true, true, false, false, false, false, false, false, false, false, false, false] rfl (by kernel_rfl) (by kernel_rfl) (by kernel_rfl) (fun _ _ _ h => h) (by kernel_rfl) (Stay.refl _ _) (Or.inl ⟨by rfl, fun W hW => ?_⟩) ?_
  · go_simp
  conv => arg 8; simp [Act.put]
  refine wpAnyH_takeL (i := 20) (v := .bool false) #[true, true, true, true, true, true, true, true, true, true, true, true, true, true, true, true, true, true, true, true, true, false, false, false, false, false, false, false, false, false] rfl (by kernel_rfl) (by kernel_rfl) (by kernel_rfl) (fun _ _ _ h => h) (by kernel_rfl) (Stay.refl _ _) (Or.inl ⟨by rfl, fun W hW => ?_⟩) ?_
  · go_simp
  conv => arg 8; simp [Act.put]
  refine wpAnyH_takeL (i := 21) (v := undef) #[true, true, true, true, true, true, true, true, true, true, true, true, true, true, true, true, true, true, true, true, true, true, false, false, false, false, false, false, false, false] rfl (by kernel_rfl) (by kernel_rfl) (by kernel_rfl) (fun _ _ _ h => h) (by kernel_rfl) (Stay.refl _ _) (Or.inr ⟨by rfl, rfl⟩) ?_
  conv => arg 8; simp [Act.put]
  refine wpAnyH_takeL (i := 24) (v := undef) #[true, true, true, true, true, true, true, true, true, true, true, true, true, true, true, true, true, true, true, true, true, true, false, false, true, false, false, false, false, false] rfl (by kernel_rfl) (by kernel_rfl) (by kernel_rfl) (fun _ _ _ h => h) (by kernel_rfl) (Stay.refl _ _) (Or.inr ⟨by rfl, rfl⟩) ?_
  conv => arg 8; simp [Act.put]
  refine wpAnyH_takeL (i := 22) (v := undef) #[true, true, true, true, true, true, true, true, true, true, true, true, true, true, true, true, true, true, true, true, true, true, true, false, true, false, false, false, false, false] rfl (by kernel_rfl) (by kernel_rfl) (by kernel_rfl) (fun _ _ _ h => h) (by kernel_rfl) (Stay.refl _ _) (Or.inr ⟨by rfl, rfl⟩) ?_
  conv => arg 8; simp [Act.put]
  refine wpAnyH_takeL (i := 23) (v := undef) #[true, true, true, true, true, true, true, true, true, true, true, true, true, true, true, true, true, true, true, true, true, true, true, true, true, false, false, false, false, false] rfl (by kernel_rfl) (by kernel_rfl) (by kernel_rfl) (fun _ _ _ h => h) (by kernel_rfl) (Stay.refl _ _) (Or.inr ⟨by rfl, rfl⟩) ?_
  conv => arg 8; simp [Act.put]
  refine wpAnyH_takeL (i := 25) (v := undef) #[true, true, true, true, true, true, true, true, true, true, true, true, true, true, true, true, true, true, true, true, true, true, true, true, true, true, false, false, false, false] rfl (by kernel_rfl) (by kernel_rfl) (by kernel_rfl) (fun _ _ _ h => h) (by kernel_rfl) (Stay.refl _ _) (Or.inr ⟨by rfl, rfl⟩) ?_
  conv => arg 8; simp [Act.put]
  refine wpAnyH_takeL (i := 26) (v := undef) #[true, true, true, true, true, true, true, true, true, true, true, true, true, true, true, true, true, true, true, true, true, true, true, true, true, true, true, false, false, false] rfl (by kernel_rfl) (by kernel_rfl) (by kernel_rfl) (fun _ _ _ h => h) (by kernel_rfl) (Stay.refl _ _) (Or.inr ⟨by rfl, rfl⟩) ?_
  conv => arg 8; simp [Act.put]
  refine wpAnyH_takeL (i := 27) (v := undef) #[true, true, true, true, true, true, true, true, true, true, true, true, true, true, true, true, true, true, true, true, true, true, true, true, true, true, true, true, false, false] rfl (by kernel_rfl) (by kernel_rfl) (by kernel_rfl) (fun _ _ _ h => h) (by kernel_rfl) (Stay.refl _ _) (Or.inr ⟨by rfl, rfl⟩) ?_
  conv => arg 8; simp [Act.put]
  refine wpAnyH_takeL (i := 28) (v := .bool false) #[true, true, true, true, true, true, true, true, true, true, true, true, true, true, true, true, true, true, true, true, true, true, true, true, true, true, true, true, true, false] rfl (by kernel_rfl) (by kernel_rfl) (by kernel_rfl) (fun _ _ _ h => h) (by kernel_rfl) (Stay.refl _ _) (Or.inl ⟨by rfl, fun W hW => ?_⟩) ?_
  · go_simp
  conv => arg 8; simp [Act.put]
  refine wpAnyH_takeL (i := 29) (v := .bool false) #[true, true, true, true, true, true, true, true, true, true, true, true, true, true, true, true, true, true, true, true, true, true, true, true, true, true, true, true, true, true] rfl (by kernel_rfl) (by kernel_rfl) (by kernel_rfl) (fun _ _ _ h => h) (by kernel_rfl) (Stay.refl _ _) (Or.inl ⟨by rfl, fun W hW => ?_⟩) ?_
  · go_simp
  conv => arg 8; simp [Act.put]
  refine wpAnyH_done (by kernel_rfl) ?_ _
  have HSV := Lib.hid (HSZ.out.trans hst)
  clear hst HSZ HGZ HWZ HGY
  generalize z2 = v0 at *
  go_wp2_with fail
  refine (add_nil _ v0).mono ?_
  rintro e v1 ⟨rfl, rfl⟩
  go_wp2_with fail
  refine (may_nil _ v0).mono ?_
  rintro e v1 ⟨rfl, rfl⟩
  go_wp2_with fail
  refine (full_nil v0).mono ?_
  rintro e v1 ⟨rfl, rfl⟩
  go_wp2_with fail
  refine (encode_nil v0).mono ?_
  rintro e v1 ⟨rfl, rfl⟩
  go_wp2_with fail
  refine (bits_nil _ v0).mono ?_
  rintro e v1 ⟨rfl, rfl⟩
  go_wp2_with fail
  refine (sure_any v0).mono ?_
  rintro e v1 ⟨rfl, hs⟩
  go_wp2
  go_ret
  exact ⟨rfl, HSV.out.trans hs⟩

end Go.Proofs.YtgchdgdhjafdbaaDoor.Bo

/-
  BloomRuns' walk: all cases.
-/
namespace Go.Proofs.YtgchdgdhjafdbaaDoor.Bo
open Go.RowKit Pk
set_option maxRecDepth 100000

theorem runs_walk (w : World) (x0 x1 : Int) (h00 : -9223372036854775808 ≤ x0) (h01 : x0 ≤ 9223372036854775807) (h10 : -9223372036854775808 ≤ x1) (h11 : x1 ≤ 9223372036854775807) (a0 : Option Addr) (c : Nat) (ks : List (List UInt8)) (x : Value) (b : List UInt8) (hg : ErrCell w) (hx : Keys w a0 ks) (hk : ∀ k ∈ ks, k.length ≤ 140737488351232) (hb : Slc w x b) (hlen : b.length ≤ 140737488355328) :
    Calls Tryd.prog 3 #[.agg #[.int .i64 x0, .int .i64 x1], .slice a0 ks.length c, x] w fun e w' => e = .returned (.bool true) ∧ Stay (fun _ => False) w w' := by
  by_cases hok : 1 ≤ x0 ∧ x0 ≤ 1048576 ∧ 1 ≤ x1 ∧ x1 ≤ 16
  · obtain ⟨s1, s2, q1, q2⟩ := hok
    obtain ⟨s, rfl⟩ : ∃ s : Nat, x0 = (s : Int) := ⟨x0.toNat, by omega⟩
    obtain ⟨q, rfl⟩ : ∃ q : Nat, x1 = (q : Int) := ⟨x1.toNat, by omega⟩
    cases hgo : goodB b
    · exact runs_ok_bad w s q (by omega) (by omega) (by omega) (by omega) a0 c ks x b hg hx hk hb hlen hgo
    · exact runs_ok_good w s q (by omega) (by omega) (by omega) (by omega) a0 c ks x b hg hx hk hb hlen hgo
  · cases hgo : goodB b
    · exact runs_no_bad w x0 x1 h00 h01 h10 h11 (by omega) a0 c ks x b hg hb hlen hgo
    · exact runs_no_good w x0 x1 h00 h01 h10 h11 (by omega) a0 c ks x b hg hb hlen hgo

end Go.Proofs.YtgchdgdhjafdbaaDoor.Bo

/-
  BloomRuns answers true for every input, and each argument reads afterwards as it read before; errors.errorType stands as the program's text lays it (the card ties it).
-/
namespace Go.Proofs.YtgchdgdhjafdbaaDoor
open Go.ChangeShapes Go.WideShapes Go.ChangeAt Go.RowKit
set_option maxRecDepth 100000

theorem bloomRuns_lifted (os : Os) (started : os.Started) (H : Type) (enc : TypeId × Value → H) :
    ReturnsInHanded {} Tryd.checked os 3 .any (fun w args => (Rows.bloomRunsSpec.pre enc Tryd.prog Tryd.f3 [] false w args ∧ laidMetH Tryd.prog Pk.laidErr w) ∧ sizedMet enc Tryd.prog Tryd.f3 (OpenSpec.ofChange Rows.bloomRunsSpec) false w args)
      (Rows.bloomRunsSpec.post enc Tryd.prog Tryd.f3 false true false false) := by
  refine returnsInHanded_of_change_and (C := Tryd.checked) (X := fun w _ => laidMetH Tryd.prog Pk.laidErr w) (fun _ _ _ hh h => h.of_heap hh) Tryd.own started (by kernel_rfl) Tryd.func3
    (ChangeSpec.witness_at (enc := enc) (C := Tryd.checked) (os := os) (X := fun w _ => laidMetH Tryd.prog Pk.laidErr w) false (Pk.laidWorld os) #[.agg #[.int .i64 0, .int .i64 0], .slice none 0 0, .slice none 0 0] 8 rfl (by kernel_rfl) (by kernel_rfl) (by kernel_rfl) (by kernel_rfl) (by kernel_rfl) (Pk.laidWorld_met os _)) ?_
  intro W base args ds gs before hval0 hW _ hsz hL _
  have hval : ∀ (j : Nat) t v, Tryd.f3.params[j]? = some t → args[j]? = some v → Value.okWide Tryd.prog W .any base t v := hval0
  have hW' := hW
  obtain ⟨p, q, hA0, hV0, rfl, hfz, hnd⟩ := hW
  have hA : DataW.TrodAll enc Tryd.prog W 0 (fun _ => true) true Tryd.f3.params.toList args.toList ds p := hA0
  have hAk := hA
  have hV : DataW.TrodVars enc Tryd.prog W (fun _ => true) [] gs q := hV0
  rw [Tryd.params3] at hA hval
  obtain ⟨v0, v1, v2, d0, d1, d2, p0, p1, p2, rfl, rfl, rfl, h0, h1, h2⟩ := trodAll_three hA
  obtain ⟨x00, x01, rfl, wx00, wx01⟩ := Bo.open_size (hval 0 23 v0 rfl rfl) h0
  obtain ⟨a1, m1, c1, rfl⟩ := okWide_slice Tryd.underlying24 (hval 1 24 v1 rfl rfl)
  obtain ⟨ks1, rfl, hx1, hw1⟩ := Bo.open_keys h1
  have hw1 := hw1 (Bo.weights_each hsz (j := 1) (by rw [Tryd.params3]; rfl) rfl)
  obtain ⟨a2, m2, c2, rfl⟩ := okWide_slice Tryd.underlying25 (hval 2 25 v2 rfl rfl)
  obtain ⟨l2, rfl, hx2, hd2⟩ := Pk.open_slc h2
  have hlen2 : l2.length ≤ 140737488355328 := Pk.len_slc hsz (j := 2) (by rw [Tryd.params3]; rfl) rfl hd2
  have hg := Pk.err_of_laid hL
  obtain ⟨rfl, rfl⟩ : gs = [] ∧ q = [] := by
    cases gs with
    | nil => exact ⟨rfl, hV⟩
    | cons g r => exact absurd hV (by intro h; cases h)
  simp only [List.append_nil] at hW' hAk
  refine (Bo.runs_walk W x00 x01 (Bo.i64_of wx00).1 (Bo.i64_of wx00).2 (Bo.i64_of wx01).1 (Bo.i64_of wx01).2 _ _ ks1 _ l2 hg hx1 hw1 hx2 hlen2).mono fun e W' ⟨he, hst⟩ => ?_
  subst he
  exact ⟨_, rfl, law_post Tryd.laidOut hW' hAk (fun t ht => by
      rw [Tryd.params3] at ht
      simp at ht
      rcases ht with rfl | rfl | rfl <;> exact ⟨by kernel_rfl, of_decide_eq_true (by kernel_rfl)⟩) rfl rfl rfl rfl (by kernel_rfl) Tryd.underlying4 (hst.toBelow (Nat.le_refl _) (fun _ x => x.elim))⟩

theorem bloomRuns_row : Rows.BloomRunsSaid :=
  OpenClaim.holds_of_wide 3 Tryd.f3 rfl rfl rfl rfl rfl rfl rfl ⟨rfl, rfl, rfl, rfl, rfl⟩ rfl rfl rfl rfl rfl (by kernel_rfl) Tryd.func3 (by kernel_rfl)
    (of_decide_eq_true (by kernel_rfl)) (by unfold Func.isWrapper; rw [if_neg (of_decide_eq_false (by kernel_rfl))]; exact ⟨rfl, rfl⟩)
    (fun os started H enc _ => bloomRuns_lifted os started H enc)

theorem bloomRuns_holds : Rows.BloomRunsCardSaid :=
  Claim7.holds_tied_plain_at .later [] [.handle] true _ true
    bloomRuns_row (fun _ h => by cases h) (by kernel_rfl) (fun _ h => by cases h) bloomRuns_row_tie rfl ⟨rfl, rfl⟩ (by kernel_rfl) rfl
    (fun f fn hf hfn => by
      obtain rfl : f = 3 := Option.some.inj ((show Tryd.prog.funcNamed "drydock/drydocklaw11.BloomRuns" = some 3 by kernel_rfl).symm.trans hf) |>.symm
      obtain rfl : fn = Tryd.f3 := (Option.some.inj (Tryd.func3.symm.trans hfn)).symm
      exact ⟨by kernel_rfl, fun j t ht => by
        rw [Tryd.params3] at ht
        have h3 : t = 23 ∨ t = 24 ∨ t = 25 := by
          rcases j with _ | _ | _ | j
          · exact .inl (by simpa using ht.symm)
          · exact .inr (.inl (by simpa using ht.symm))
          · exact .inr (.inr (by simpa using ht.symm))
          · simp at ht
        rcases h3 with rfl | rfl | rfl
        · exact (show Tryd.prog.wantsStandIn 23 = false by kernel_rfl)
        · exact (show Tryd.prog.wantsStandIn 24 = false by kernel_rfl)
        · exact (show Tryd.prog.wantsStandIn 25 = false by kernel_rfl)⟩)
    (by kernel_rfl)

end Go.Proofs.YtgchdgdhjafdbaaDoor

