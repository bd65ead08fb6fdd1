/-
  BloomRuns' walk, where New takes the size and Decode refuses the bytes.
-/
import Derived.Test.YtgchdgdhjafdbaaDoorGaR
namespace Go.Proofs.YtgchdgdhjafdbaaDoor.Bo
open Go.RowKit Pk
set_option maxRecDepth 100000

set_option maxHeartbeats 16000000 in
theorem runs_ok_bad (w : World) (s q : Nat) (hs1 : 1 ≤ s) (hs2 : s ≤ 1048576) (hq1 : 1 ≤ q) (hq2 : q ≤ 16) (a0 : Option Addr) (c : Nat) (ks : List (List UInt8)) (x : Value) (b : List UInt8) (hg : ErrCell w) (hx : Keys w a0 ks) (hk : ∀ k ∈ ks, k.length ≤ 140737488351232) (hb : Slc w x b) (hlen : b.length ≤ 140737488355328) (hgood : goodB b = false) :
    Calls Tryd.prog 3 #[.agg #[.int .i64 (s : Int), .int .i64 (q : Int)], .slice a0 ks.length c, x] w fun e w' => e = .returned (.bool true) ∧ Stay (fun _ => False) w w' := by
  have HX := Lib.hid hx
  have HK := Lib.hid hk
  have hkl := hx.1
  have hkl2 : (ks.length : Int) ≤ 9223372036854775807 := by omega
  clear hx hk
  have HB0 := Lib.hid hb
  have HGO := Lib.hid hgood
  obtain ⟨xa, xc, rfl, _⟩ := hb
  obtain ⟨w0, hw0⟩ : ∃ w0, w0 = w.alloc (.cells #[.int .i64 (s : Int), .int .i64 (q : Int)] 23) := ⟨_, rfl⟩
  have hs0 : Stay (fun _ => False) w w0 := hw0 ▸ Stay.alloc w _
  have HZ0 := Lib.hid (show SzAt w0 w.heap.size (s : Int) (q : Int) from hw0 ▸ heap_alloc_new w _)
  have HS0 := Lib.hid hs0
  have HG := Lib.hid (ErrCell.stay0 hg hs0)
  have HW0 := Lib.hid hw0
  clear hg hw0 hs0 hgood
  go_enter Tryd.func3, Tryd.ntmps3
  go_wp2_with fail
  rw [← HW0.out]
  refine (new_any s q w0 hs1 hs2 hq1 hq2).mono ?_
  rintro e w1 ⟨p, g, rfl, hp, hg2, hf, hst1⟩
  have hz0 := HS0.out.size
  have HPG := Lib.hid (show w.heap.size ≤ p ∧ w.heap.size ≤ g by omega)
  have HPL := Lib.hid (show p < w1.heap.size ∧ g < w1.heap.size from ⟨hf.plt, hf.glt⟩)
  have HF1 := Lib.hid hf
  clear hf hp hg2
  have hzz := HZ0.out.stay0 hst1
  have b0 := hzz.c0
  have b1 := hzz.c1
  have HS1 := Lib.hid (HS0.out.trans hst1)
  have HG1 := Lib.hid (ErrCell.stay0 HG.out hst1)
  clear hst1 hzz HW0
  go_wp2_with fail
  refine (rnew_any s q w1 hs1 hs2 hq1 hq2).mono ?_
  rintro e w2 ⟨u, rfl, hto, hst2⟩
  obtain ⟨ua, uc, rfl⟩ := hto.form
  rw [List.length_replicate]
  rw [List.length_replicate] at hto
  unfold RV
  obtain ⟨gr, hgr⟩ : ∃ gr, gr = w2.heap.size := ⟨_, rfl⟩
  obtain ⟨w3, hw3⟩ : ∃ w3, w3 = w2.alloc (.cells #[.int .i64 (q : Int), .slice ua s uc] 33) := ⟨_, rfl⟩
  have hst3 : Stay (fun _ => False) w2 w3 := hw3 ▸ Stay.alloc _ _
  have hz3 : w3.heap.size = gr + 1 := by rw [hw3, hgr]; simp
  have hz12 := hst2.size
  have HS3 := Lib.hid (HS1.out.trans (hst2.trans hst3))
  have HG3 := Lib.hid (ErrCell.stay0 HG1.out (hst2.trans hst3))
  have HW3 := Lib.hid hw3
  have HGR := Lib.hid hgr
  have hgrw : w1.heap.size ≤ gr := by omega
  have HF3 := Lib.hid (HF1.out.stay0 (hst2.trans hst3))
  have HRF3 := Lib.hid (show RfAt w3 gr q (.slice ua s uc) by rw [hw3, hgr]; exact heap_alloc_new w2 _)
  have HTO3 := Lib.hid (hto.stay0 hst3)
  have HUN := Lib.hid (show ∀ k, (Value.slice ua s uc).ownBlock = some k → w1.heap.size ≤ k ∧ k < gr from fun k hk => by have := hto.lt k hk; omega)
  have hzw1 : w.heap.size ≤ w1.heap.size := HS1.out.size
  have HLW := Lib.hid hzw1
  have HGW := Lib.hid hgrw
  clear hto hzw1 hgrw HF1
  clear hst2 hst3 hw3 hgr b0 b1 HS1 HG1 HG hz3 hz12
  go_wp2_with fail
  rw [← HW3.out, ← HGR.out]
  refine (decode_any w3 _ b (HB0.out.stay0 HS3.out) hlen).mono ?_
  rintro e w4 ⟨hr4, hst4⟩
  unfold DecRet at hr4
  rw [if_neg (by rw [HGO.out]; decide)] at hr4
  subst hr4
  unfold Hn.errI
  go_wp2_with fail
  refine (rdecode_any w4 _ b (HB0.out.stay0 (HS3.out.trans hst4)) hlen).mono ?_
  rintro e w5 ⟨hr5, hst5⟩
  unfold RDecRet at hr5
  rw [if_neg (by rw [HGO.out]; decide)] at hr5
  subst hr5
  unfold RV
  obtain ⟨gy, hgy⟩ : ∃ gy, gy = w5.heap.size := ⟨_, rfl⟩
  obtain ⟨wz, hwz⟩ : ∃ wz, wz = w5.alloc (.cells #[.int .i64 0, .slice none 0 0] 33) := ⟨_, rfl⟩
  have hstz : Stay (fun _ => False) w5 wz := hwz ▸ Stay.alloc _ _
  have hst3z := (hst4.trans hst5).trans hstz
  have HSZ := Lib.hid (HS3.out.trans hst3z)
  have HGZ := Lib.hid (ErrCell.stay0 HG3.out hst3z)
  have HWZ := Lib.hid hwz
  have HGY := Lib.hid hgy
  have HF := Lib.hid (HF3.out.stay0 hst3z)
  have HRF := Lib.hid (HRF3.out.stay0 hst3z)
  have HTO := Lib.hid (HTO3.out.stay0 hst3z)
  clear HF3 HRF3 HTO3
  clear hst4 hst5 hstz hst3z hwz hgy HS3 HG3 HB0 HW3 HGR
  go_wp2
  rw [← HWZ.out, ← HGY.out]
  refine wp_region_held (S := Stay (fun _ => False) wz.drew) (by kernel_rfl) ?_
  change wpAnyH _ _ _ _ _ _ _ _ (World.drew _)
  have hst : Stay (fun _ => False) wz wz.drew := Stay.drew
  refine wpAnyH_takeL (i := 0) (v := .nilIface) #[true, false, false, false, false, false, false, false, false, false, false, false, false, false, false, false, false, false, false, false, false, false, false, false, false, false, false, false, false, false] rfl (by kernel_rfl) (by kernel_rfl) (by kernel_rfl) (fun _ _ _ h => h) (by kernel_rfl) (Stay.refl _ _) (Or.inl ⟨by rfl, fun W hW => ?_⟩) ?_
  · go_simp
  conv => arg 8; simp [Act.put]
  refine wpAnyH_takeL (i := 2) (v := .int .i64 0) #[true, false, true, false, false, false, false, false, false, false, false, false, false, false, false, false, false, false, false, false, false, false, false, false, false, false, false, false, false, false] rfl (by kernel_rfl) (by kernel_rfl) (by kernel_rfl) (fun _ _ _ h => h) (by kernel_rfl) (Stay.refl _ _) (Or.inl ⟨by rfl, fun W hW => ?_⟩) ?_
  · go_simp
  conv => arg 8; simp [Act.put]
  refine wpAnyH_one #[true, true, true, false, false, false, false, false, false, false, false, false, false, false, false, false, false, false, false, false, false, false, false, false, false, false, false, false, false, false] (i := 1) rfl (by kernel_rfl) (by kernel_rfl) (fun K hK => ?_)
  go_simp
  go_wp2_with (go_at_call 10; refine (num_of 0 wz.drew (ErrCell.stay0 HGZ.out hst) _ rfl).mono ?_; rintro e z1 ⟨rfl, s⟩)
  replace hst := hst.trans s
  refine hK _ _ s ?_
  clear hK
  conv => arg 8; simp [Act.put]
  refine wpAnyH_narrow (S' := Stay (fun _ => False) z1) (fun _ h => s.trans h) _ _ _ _ ?_
  clear s
  refine wpAnyH_takeL (i := 3) (v := .bool false) #[true, true, true, true, false, false, false, false, false, false, false, false, false, false, false, false, false, false, false, false, false, false, false, false, false, false, false, false, false, false] rfl (by kernel_rfl) (by kernel_rfl) (by kernel_rfl) (fun _ _ _ h => h) (by kernel_rfl) (Stay.refl _ _) (Or.inl ⟨by rfl, fun W hW => ?_⟩) ?_
  · go_simp
  conv => arg 8; simp [Act.put]
  refine wpAnyH_takeL (i := 4) (v := .bool false) #[true, true, true, true, true, false, false, false, false, false, false, false, false, false, false, false, false, false, false, false, false, false, false, false, false, false, false, false, false, false] rfl (by kernel_rfl) (by kernel_rfl) (by kernel_rfl) (fun _ _ _ h => h) (by kernel_rfl) (Stay.refl _ _) (Or.inl ⟨by rfl, fun W hW => ?_⟩) ?_
  · go_simp
  conv => arg 8; simp [Act.put]
  refine wpAnyH_takeL (i := 5) (v := .iface 55 (.int .i64 3)) #[true, true, true, true, true, true, false, false, false, false, false, false, false, false, false, false, false, false, false, false, false, false, false, false, false, false, false, false, false, false] rfl (by kernel_rfl) (by kernel_rfl) (by kernel_rfl) (fun _ _ _ h => h) (by kernel_rfl) (Stay.refl _ _) (Or.inl ⟨by rfl, fun W hW => ?_⟩) ?_
  · go_simp
  conv => arg 8; simp [Act.put]
  refine wpAnyH_takeL (i := 7) (v := .int .i64 3) #[true, true, true, true, true, true, false, true, false, false, false, false, false, false, false, false, false, false, false, false, false, false, false, false, false, false, false, false, false, false] rfl (by kernel_rfl) (by kernel_rfl) (by kernel_rfl) (fun _ _ _ h => h) (by kernel_rfl) (Stay.refl _ _) (Or.inl ⟨by rfl, fun W hW => ?_⟩) ?_
  · go_simp
  conv => arg 8; simp [Act.put]
  refine wpAnyH_one #[true, true, true, true, true, true, true, true, false, false, false, false, false, false, false, false, false, false, false, false, false, false, false, false, false, false, false, false, false, false] (i := 6) rfl (by kernel_rfl) (by kernel_rfl) (fun K hK => ?_)
  go_simp
  go_wp2_with (go_at_call 10; refine (num_of 3 z1 (ErrCell.stay0 HGZ.out hst) _ rfl).mono ?_; rintro e z2 ⟨rfl, s⟩)
  replace hst := hst.trans s
  refine hK _ _ s ?_
  clear hK
  conv => arg 8; simp [Act.put]
  refine wpAnyH_narrow (S' := Stay (fun _ => False) z2) (fun _ h => s.trans h) _ _ _ _ ?_
  clear s
  refine wpAnyH_takeL (i := 8) (v := .bool false) #[true, true, true, true, true, true, true, true, true, false, false, false, false, false, false, false, false, false, false, false, false, false, false, false, false, false, false, false, false, false] rfl (by kernel_rfl) (by kernel_rfl) (by kernel_rfl) (fun _ _ _ h => h) (by kernel_rfl) (Stay.refl _ _) (Or.inl ⟨by rfl, fun W hW => ?_⟩) ?_
  · go_simp
  conv => arg 8; simp [Act.put]
  refine wpAnyH_takeL (i := 9) (v := .bool false) #[true, true, true, true, true, true, true, true, true, true, false, false, false, false, false, false, false, false, false, false, false, false, false, false, false, false, false, false, false, false] rfl (by kernel_rfl) (by kernel_rfl) (by kernel_rfl) (fun _ _ _ h => h) (by kernel_rfl) (Stay.refl _ _) (Or.inl ⟨by rfl, fun W hW => ?_⟩) ?_
  · go_simp
  conv => arg 8; simp [Act.put]
  refine wpAnyH_takeL (i := 10) (v := .bool false) #[true, true, true, true, true, true, true, true, true, true, true, false, false, false, false, false, false, false, false, false, false, false, false, false, false, false, false, false, false, false] rfl (by kernel_rfl) (by kernel_rfl) (by kernel_rfl) (fun _ _ _ h => h) (by kernel_rfl) (Stay.refl _ _) (Or.inl ⟨by rfl, fun W hW => ?_⟩) ?_
  · go_simp
  conv => arg 8; simp [Act.put]
  refine wpAnyH_takeL (i := 11) (v := .pointer none) #[true, true, true, true, true, true, true, true, true, true, true, true, false, false, false, false, false, false, false, false, false, false, false, false, false, false, false, false, false, false] rfl (by kernel_rfl) (by kernel_rfl) (by kernel_rfl) (fun _ _ _ h => h) (by kernel_rfl) (Stay.refl _ _) (Or.inl ⟨by rfl, fun W hW => ?_⟩) ?_
  · go_simp
  conv => arg 8; simp [Act.put]
  refine wpAnyH_takeL (i := 13) (v := .int .i64 3) #[true, true, true, true, true, true, true, true, true, true, true, true, false, true, false, false, false, false, false, false, false, false, false, false, false, false, false, false, false, false] rfl (by kernel_rfl) (by kernel_rfl) (by kernel_rfl) (fun _ _ _ h => h) (by kernel_rfl) (Stay.refl _ _) (Or.inl ⟨by rfl, fun W hW => ?_⟩) ?_
  · go_simp
  conv => arg 8; simp [Act.put]
  refine wpAnyH_takeL (i := 12) (v := .bool true) #[true, true, true, true, true, true, true, true, true, true, true, true, true, true, false, false, false, false, false, false, false, false, false, false, false, false, false, false, false, false] rfl (by kernel_rfl) (by kernel_rfl) (by kernel_rfl) (fun _ _ _ h => h) (by kernel_rfl) (Stay.refl _ _) (Or.inl ⟨by rfl, fun W hW => ?_⟩) ?_
  · go_simp
  conv => arg 8; simp [Act.put]
  refine wpAnyH_takeL (i := 14) (v := .bool true) #[true, true, true, true, true, true, true, true, true, true, true, true, true, true, true, false, false, false, false, false, false, false, false, false, false, false, false, false, false, false] rfl (by kernel_rfl) (by kernel_rfl) (by kernel_rfl) (fun _ _ _ h => h) (by kernel_rfl) (Stay.refl _ _) (Or.inl ⟨by rfl, fun W hW => ?_⟩) ?_
  · go_simp
  conv => arg 8; simp [Act.put]
  refine wpAnyH_takeL (i := 15) (v := .bool false) #[true, true, true, true, true, true, true, true, true, true, true, true, true, true, true, true, false, false, false, false, false, false, false, false, false, false, false, false, false, false] rfl (by kernel_rfl) (by kernel_rfl) (by kernel_rfl) (fun _ _ _ h => h) (by kernel_rfl) (Stay.refl _ _) (Or.inl ⟨by rfl, fun W hW => ?_⟩) ?_
  · go_simp
  conv => arg 8; simp [Act.put]
  refine wpAnyH_takeL (i := 16) (v := .bool false) #[true, true, true, true, true, true, true, true, true, true, true, true, true, true, true, true, true, false, false, false, false, false, false, false, false, false, false, false, false, false] rfl (by kernel_rfl) (by kernel_rfl) (by kernel_rfl) (fun _ _ _ h => h) (by kernel_rfl) (Stay.refl _ _) (Or.inl ⟨by rfl, fun W hW => ?_⟩) ?_
  · go_simp
  conv => arg 8; simp [Act.put]
  refine wpAnyH_takeL (i := 17) (v := .bool false) #[true, true, true, true, true, true, true, true, true, true, true, true, true, true, true, true, true, true, false, false, false, false, false, false, false, false, false, false, false, false] rfl (by kernel_rfl) (by kernel_rfl) (by kernel_rfl) (fun _ _ _ h => h) (by kernel_rfl) (Stay.refl _ _) (Or.inl ⟨by rfl, fun W hW => ?_⟩) ?_
  · go_simp
  conv => arg 8; simp [Act.put]
  refine wpAnyH_takeL (i := 18) (v := .int .i64 3) #[true, true, true, true, true, true, true, true, true, true, true, true, true, true, true, true, true, true, true, false, false, false, false, false, false, false, false, false, false, false] rfl (by kernel_rfl) (by kernel_rfl) (by kernel_rfl) (fun _ _ _ h => h) (by kernel_rfl) (Stay.refl _ _) (Or.inl ⟨by rfl, fun W hW => ?_⟩) ?_
  · go_simp
  conv => arg 8; simp [Act.put]
  refine wpAnyH_takeL (i := 19) (v := .bool false) #[true, true, true, true, true, true, true, true, true, true, true, true, true, true, true, true, true, true, true, true, false, false, false, false, false, false, false, false, false, false] rfl (by kernel_rfl) (by kernel_rfl) (by kernel_rfl) (fun _ _ _ h => h) (by kernel_rfl) (Stay.refl _ _) (Or.inl ⟨by rfl, fun W hW => ?_⟩) ?_
  · go_simp
  conv => arg 8; simp [Act.put]
  refine wpAnyH_takeL (i := 20) (v := .bool false) #[true, true, true, true, true, true, true, true, true, true, true, true, true, true, true, true, true, true, true, true, true, false, false, false, false, false, false, false, false, false] rfl (by kernel_rfl) (by kernel_rfl) (by kernel_rfl) (fun _ _ _ h => h) (by kernel_rfl) (Stay.refl _ _) (Or.inl ⟨by rfl, fun W hW => ?_⟩) ?_
  · go_simp
  conv => arg 8; simp [Act.put]
  refine wpAnyH_takeL (i := 21) (v := undef) #[true, true, true, true, true, true, true, true, true, true, true, true, true, true, true, true, true, true, true, true, true, true, false, false, false, false, false, false, false, false] rfl (by kernel_rfl) (by kernel_rfl) (by kernel_rfl) (fun _ _ _ h => h) (by kernel_rfl) (Stay.refl _ _) (Or.inr ⟨by rfl, rfl⟩) ?_
  conv => arg 8; simp [Act.put]
  refine wpAnyH_takeL (i := 24) (v := undef) #[true, true, true, true, true, true, true, true, true, true, true, true, true, true, true, true, true, true, true, true, true, true, false, false, true, false, false, false, false, false] rfl (by kernel_rfl) (by kernel_rfl) (by kernel_rfl) (fun _ _ _ h => h) (by kernel_rfl) (Stay.refl _ _) (Or.inr ⟨by rfl, rfl⟩) ?_
  conv => arg 8; simp [Act.put]
  refine wpAnyH_takeL (i := 22) (v := undef) #[true, true, true, true, true, true, true, true, true, true, true, true, true, true, true, true, true, true, true, true, true, true, true, false, true, false, false, false, false, false] rfl (by kernel_rfl) (by kernel_rfl) (by kernel_rfl) (fun _ _ _ h => h) (by kernel_rfl) (Stay.refl _ _) (Or.inr ⟨by rfl, rfl⟩) ?_
  conv => arg 8; simp [Act.put]
  refine wpAnyH_takeL (i := 23) (v := undef) #[true, true, true, true, true, true, true, true, true, true, true, true, true, true, true, true, true, true, true, true, true, true, true, true, true, false, false, false, false, false] rfl (by kernel_rfl) (by kernel_rfl) (by kernel_rfl) (fun _ _ _ h => h) (by kernel_rfl) (Stay.refl _ _) (Or.inr ⟨by rfl, rfl⟩) ?_
  conv => arg 8; simp [Act.put]
  refine wpAnyH_takeL (i := 25) (v := undef) #[true, true, true, true, true, true, true, true, true, true, true, true, true, true, true, true, true, true, true, true, true, true, true, true, true, true, false, false, false, false] rfl (by kernel_rfl) (by kernel_rfl) (by kernel_rfl) (fun _ _ _ h => h) (by kernel_rfl) (Stay.refl _ _) (Or.inr ⟨by rfl, rfl⟩) ?_
  conv => arg 8; simp [Act.put]
  refine wpAnyH_takeL (i := 26) (v := undef) #[true, true, true, true, true, true, true, true, true, true, true, true, true, true, true, true, true, true, true, true, true, true, true, true, true, true, true, false, false, false] rfl (by kernel_rfl) (by kernel_rfl) (by kernel_rfl) (fun _ _ _ h => h) (by kernel_rfl) (Stay.refl _ _) (Or.inr ⟨by rfl, rfl⟩) ?_
  conv => arg 8; simp [Act.put]
  refine wpAnyH_takeL (i := 27) (v := undef) #[true, true, true, true, true, true, true, true, true, true, true, true, true, true, true, true, true, true, true, true, true, true, true, true, true, true, true, true, false, false] rfl (by kernel_rfl) (by kernel_rfl) (by kernel_rfl) (fun _ _ _ h => h) (by kernel_rfl) (Stay.refl _ _) (Or.inr ⟨by rfl, rfl⟩) ?_
  conv => arg 8; simp [Act.put]
  refine wpAnyH_takeL (i := 28) (v := .bool false) #[true, true, true, true, true, true, true, true, true, true, true, true, true, true, true, true, true, true, true, true, true, true, true, true, true, true, true, true, true, false] rfl (by kernel_rfl) (by kernel_rfl) (by kernel_rfl) (fun _ _ _ h => h) (by kernel_rfl) (Stay.refl _ _) (Or.inl ⟨by rfl, fun W hW => ?_⟩) ?_
  · go_simp
  conv => arg 8; simp [Act.put]
  refine wpAnyH_takeL (i := 29) (v := .bool false) #[true, true, true, true, true, true, true, true, true, true, true, true, true, true, true, true, true, true, true, true, true, true, true, true, true, true, true, true, true, true] rfl (by kernel_rfl) (by kernel_rfl) (by kernel_rfl) (fun _ _ _ h => h) (by kernel_rfl) (Stay.refl _ _) (Or.inl ⟨by rfl, fun W hW => ?_⟩) ?_
  · go_simp
  conv => arg 8; simp [Act.put]
  refine wpAnyH_done (by kernel_rfl) ?_ _
  have HSV := Lib.hid (HSZ.out.trans hst)
  have HF := Lib.hid (HF.out.stay0 hst)
  have HRF := Lib.hid (HRF.out.stay0 hst)
  have HTO := Lib.hid (HTO.out.stay0 hst)
  clear hst HSZ HGZ HWZ HGY
  generalize z2 = v0 at *
  go_wp2
  go_loopw [16] (fun i wr => ∃ j : Nat, ∃ B : List Bool, ∃ ra rc, j ≤ ks.length ∧ j ≤ 12 ∧ i = .int .i64 (j : Int) ∧ B.length = s ∧ FAt wr p g q B ∧ RfAt wr gr q (.slice ra s rc) ∧ TO w.heap.size wr (.slice ra s rc) B ∧ (∀ k, (Value.slice ra s rc).ownBlock = some k → k ≠ g ∧ k ≠ gr ∧ k ≠ p) ∧ Stay (fun i => w.heap.size ≤ i) w wr) (fun i _ => 12 - (intOf i).toNat)
  case atStart =>
    refine ⟨0, List.replicate s false, ua, uc, Nat.zero_le _, by omega, rfl, List.length_replicate, HF.out, HRF.out, HTO.out.base' (fun k hk => by have h1 := HUN.out k hk; have h2 := HLW.out; omega), fun k hk => ?_, HSV.out.mono (fun _ x => x.elim)⟩
    have h1 := HUN.out k hk
    have h2 := HPL.out
    exact ⟨by omega, by omega, by omega⟩
  case round =>
    obtain ⟨j, B, ra, rc, hj, hj12, rfl, hBl, hf, hrf, hto, hne, hst⟩ := hrel
    have HBL := Lib.hid hBl
    have HNE := Lib.hid hne
    have HF := Lib.hid hf
    have HRF := Lib.hid hrf
    have HTO := Lib.hid hto
    have HST := Lib.hid hst
    have HLO := Lib.hid (show 1 ≤ B.length by omega)
    have HHI := Lib.hid (show B.length ≤ 1048576 by omega)
    clear hBl hf hrf hto hne hst
    obtain ⟨wz, hwz⟩ : ∃ wz, wz = wr := ⟨_, rfl⟩
    subst hwz
    by_cases hlt : j < ks.length
    · by_cases hl12 : j < 12
      · obtain ⟨k, hk⟩ : ∃ k, ks[j]? = some k := ⟨_, List.getElem?_eq_getElem hlt⟩
        have hkb := HK.out k (List.mem_of_getElem? hk)
        obtain ⟨lb, lo, rfl, hlb, hc⟩ := HX.out.at (by omega)
        have HC := Lib.hid (fun W (h : Stay (fun k => w.heap.size ≤ k) w W) => hc W _ h (by omega) j k hk)
        obtain ⟨M, hM⟩ : ∃ M, M = mayB B (bitsN B.length q k) := ⟨_, rfl⟩
        have HMY := Lib.hid hM
        clear hk hc hM
        go_wp2
        refine wp_region_held (S := Stay (fun _ => False) wz.drew) (by kernel_rfl) ?_
        change wpAnyH _ _ _ _ _ _ _ _ (World.drew _)
        have hst : Stay (fun _ => False) wz wz.drew := Stay.drew
        refine wpAnyH_takeL (i := 0) (v := .pointer (some ⟨p, 0, none⟩)) #[true, false, false, false, false, false, false, false, false, false, false, false, false, false, false, false, false, false, false, false, false, false, false, false, false, false, false, false, false] rfl (by kernel_rfl) (by kernel_rfl) (by kernel_rfl) (fun _ _ _ h => h) (by kernel_rfl) (Stay.refl _ _) (Or.inl ⟨by rfl, fun W hW => ?_⟩) ?_
        · go_simp
        conv => arg 8; simp [Act.put]
        refine wpAnyH_takeL (i := 1) (v := .slice (some ⟨lb, lo, none⟩) ks.length c) #[true, true, false, false, false, false, false, false, false, false, false, false, false, false, false, false, false, false, false, false, false, false, false, false, false, false, false, false, false] rfl (by kernel_rfl) (by kernel_rfl) (by kernel_rfl) (fun _ _ _ h => h) (by kernel_rfl) (Stay.refl _ _) (Or.inl ⟨by rfl, fun W hW => ?_⟩) ?_
        · go_simp
        conv => arg 8; simp [Act.put]
        refine wpAnyH_takeL (i := 2) (v := .int .i64 (j : Int)) #[true, true, true, false, false, false, false, false, false, false, false, false, false, false, false, false, false, false, false, false, false, false, false, false, false, false, false, false, false] rfl (by kernel_rfl) (by kernel_rfl) (by kernel_rfl) (fun _ _ _ h => h) (by kernel_rfl) (Stay.refl _ _) (Or.inl ⟨by rfl, fun W hW => ?_⟩) ?_
        · go_simp
        conv => arg 8; simp [Act.put]
        refine wpAnyH_takeL (i := 3) (v := .pointer (some ⟨lb, lo + j, none⟩)) #[true, true, true, true, false, false, false, false, false, false, false, false, false, false, false, false, false, false, false, false, false, false, false, false, false, false, false, false, false] rfl (by kernel_rfl) (by kernel_rfl) (by kernel_rfl) (fun _ _ _ h => h) (by kernel_rfl) (Stay.refl _ _) (Or.inl ⟨by rfl, fun W hW => ?_⟩) ?_
        · go_simp
        conv => arg 8; simp [Act.put]
        refine wpAnyH_takeL (i := 4) (v := strV k) #[true, true, true, true, true, false, false, false, false, false, false, false, false, false, false, false, false, false, false, false, false, false, false, false, false, false, false, false, false] rfl (by kernel_rfl) (by kernel_rfl) (by kernel_rfl) (fun _ _ _ h => h) (by kernel_rfl) (Stay.refl _ _) (Or.inl ⟨by rfl, fun W hW => ?_⟩) ?_
        · have kc := HC.out W ((HST.out.trans (hst.mono (fun _ x => x.elim))).trans (hW.mono (fun _ x => x.elim)))
          go_simp
        conv => arg 8; simp [Act.put]
        refine wpAnyH_takeL (i := 7) (v := .slice (some ⟨lb, lo, none⟩) ks.length c) #[true, true, true, true, true, false, false, true, false, false, false, false, false, false, false, false, false, false, false, false, false, false, false, false, false, false, false, false, false] rfl (by kernel_rfl) (by kernel_rfl) (by kernel_rfl) (fun _ _ _ h => h) (by kernel_rfl) (Stay.refl _ _) (Or.inl ⟨by rfl, fun W hW => ?_⟩) ?_
        · go_simp
        conv => arg 8; simp [Act.put]
        refine wpAnyH_takeL (i := 8) (v := .int .i64 (j : Int)) #[true, true, true, true, true, false, false, true, true, false, false, false, false, false, false, false, false, false, false, false, false, false, false, false, false, false, false, false, false] rfl (by kernel_rfl) (by kernel_rfl) (by kernel_rfl) (fun _ _ _ h => h) (by kernel_rfl) (Stay.refl _ _) (Or.inl ⟨by rfl, fun W hW => ?_⟩) ?_
        · go_simp
        conv => arg 8; simp [Act.put]
        refine wpAnyH_takeL (i := 9) (v := .pointer (some ⟨lb, lo + j, none⟩)) #[true, true, true, true, true, false, false, true, true, true, false, false, false, false, false, false, false, false, false, false, false, false, false, false, false, false, false, false, false] rfl (by kernel_rfl) (by kernel_rfl) (by kernel_rfl) (fun _ _ _ h => h) (by kernel_rfl) (Stay.refl _ _) (Or.inl ⟨by rfl, fun W hW => ?_⟩) ?_
        · go_simp
        conv => arg 8; simp [Act.put]
        refine wpAnyH_takeL (i := 10) (v := strV k) #[true, true, true, true, true, false, false, true, true, true, true, false, false, false, false, false, false, false, false, false, false, false, false, false, false, false, false, false, false] rfl (by kernel_rfl) (by kernel_rfl) (by kernel_rfl) (fun _ _ _ h => h) (by kernel_rfl) (Stay.refl _ _) (Or.inl ⟨by rfl, fun W hW => ?_⟩) ?_
        · have kc := HC.out W ((HST.out.trans (hst.mono (fun _ x => x.elim))).trans (hW.mono (fun _ x => x.elim)))
          go_simp
        conv => arg 8; simp [Act.put]
        refine wpAnyH_takeL (i := 6) #[true, true, true, true, true, false, true, true, true, true, true, false, false, false, false, false, false, false, false, false, false, false, false, false, false, false, false, false, false] rfl (by kernel_rfl) (by kernel_rfl) (by kernel_rfl) (fun _ _ _ h => h) (by kernel_rfl) (Stay.refl _ _) (yieldsIf_load rfl 33 (.tmp 9) rfl ⟨gr, 0, none⟩ rfl _ (fun W hW => (HRF.out.stay0 (hst.trans hW)).run)) ?_
        conv => arg 8; simp [Act.put]
        refine wpAnyH_one #[true, true, true, true, true, true, true, true, true, true, true, false, false, false, false, false, false, false, false, false, false, false, false, false, false, false, false, false, false] (i := 5) rfl (by kernel_rfl) (by kernel_rfl) (fun K hK => ?_)
        go_simp
        go_wp2_with (go_at_call 16; refine (bits_any wz.drew p g q B k (HF.out.stay0 hst) (by omega)).mono ?_; rintro e z1 ⟨x5, rfl, ho5, s⟩; obtain ⟨a5, c5, rfl⟩ := ho5.form; rw [bitsN_len]; rw [bitsN_len] at ho5; have HO5 := Lib.hid ho5; clear ho5)
        replace hst := hst.trans s
        refine hK _ _ s ?_
        clear hK
        conv => arg 8; simp [Act.put]
        refine wpAnyH_narrow (S' := Stay (fun _ => False) z1) (fun _ h => s.trans h) _ _ _ _ ?_
        clear s
        refine wpAnyH_one #[true, true, true, true, true, true, true, true, true, true, true, true, false, false, false, false, false, false, false, false, false, false, false, false, false, false, false, false, false] (i := 11) rfl (by kernel_rfl) (by kernel_rfl) (fun K hK => ?_)
        go_simp
        go_wp2_with (go_at_call 19; refine (rbits_any z1 q _ B k _ (HTO.out.stay0 hst) HLO.out HHI.out hq2 (by omega)).mono ?_; rintro e z2 ⟨x6, rfl, ho6, s⟩; obtain ⟨a6, c6, rfl⟩ := ho6.form; rw [bitsN_len]; rw [bitsN_len] at ho6; have HO6 := Lib.hid ho6; have HO5 := Lib.hid (HO5.out.stay0 s); clear ho6)
        replace hst := hst.trans s
        refine hK _ _ s ?_
        clear hK
        conv => arg 8; simp [Act.put]
        refine wpAnyH_narrow (S' := Stay (fun _ => False) z2) (fun _ h => s.trans h) _ _ _ _ ?_
        clear s
        refine wpAnyH_one #[true, true, true, true, true, true, true, true, true, true, true, true, true, false, false, false, false, false, false, false, false, false, false, false, false, false, false, false, false] (i := 12) rfl (by kernel_rfl) (by kernel_rfl) (fun K hK => ?_)
        go_simp
        go_wp2_with (go_at_call 18; refine (ints_any z2 _ _ _ _ _ HO5.out HO6.out (by rw [bitsN_len]; omega)).mono ?_; rintro e z3 ⟨rfl, s⟩)
        replace hst := hst.trans s
        refine hK _ _ s ?_
        clear hK
        conv => arg 8; simp [Act.put]
        refine wpAnyH_narrow (S' := Stay (fun _ => False) z3) (fun _ h => s.trans h) _ _ _ _ ?_
        clear s
        refine wpAnyH_takeL (i := 13) (v := .bool false) #[true, true, true, true, true, true, true, true, true, true, true, true, true, true, false, false, false, false, false, false, false, false, false, false, false, false, false, false, false] rfl (by kernel_rfl) (by kernel_rfl) (by kernel_rfl) (fun _ _ _ h => h) (by kernel_rfl) (Stay.refl _ _) (Or.inl ⟨by rfl, fun W hW => ?_⟩) ?_
        · go_simp
        conv => arg 8; simp [Act.put]
        refine wpAnyH_takeL (i := 14) (v := .bool false) #[true, true, true, true, true, true, true, true, true, true, true, true, true, true, true, false, false, false, false, false, false, false, false, false, false, false, false, false, false] rfl (by kernel_rfl) (by kernel_rfl) (by kernel_rfl) (fun _ _ _ h => h) (by kernel_rfl) (Stay.refl _ _) (Or.inl ⟨by rfl, fun W hW => ?_⟩) ?_
        · go_simp
        conv => arg 8; simp [Act.put]
        refine wpAnyH_takeL (i := 15) (v := .pointer (some ⟨p, 0, none⟩)) #[true, true, true, true, true, true, true, true, true, true, true, true, true, true, true, true, false, false, false, false, false, false, false, false, false, false, false, false, false] rfl (by kernel_rfl) (by kernel_rfl) (by kernel_rfl) (fun _ _ _ h => h) (by kernel_rfl) (Stay.refl _ _) (Or.inl ⟨by rfl, fun W hW => ?_⟩) ?_
        · go_simp
        conv => arg 8; simp [Act.put]
        refine wpAnyH_takeL (i := 16) (v := .slice (some ⟨lb, lo, none⟩) ks.length c) #[true, true, true, true, true, true, true, true, true, true, true, true, true, true, true, true, true, false, false, false, false, false, false, false, false, false, false, false, false] rfl (by kernel_rfl) (by kernel_rfl) (by kernel_rfl) (fun _ _ _ h => h) (by kernel_rfl) (Stay.refl _ _) (Or.inl ⟨by rfl, fun W hW => ?_⟩) ?_
        · go_simp
        conv => arg 8; simp [Act.put]
        refine wpAnyH_takeL (i := 17) (v := .int .i64 (j : Int)) #[true, true, true, true, true, true, true, true, true, true, true, true, true, true, true, true, true, true, false, false, false, false, false, false, false, false, false, false, false] rfl (by kernel_rfl) (by kernel_rfl) (by kernel_rfl) (fun _ _ _ h => h) (by kernel_rfl) (Stay.refl _ _) (Or.inl ⟨by rfl, fun W hW => ?_⟩) ?_
        · go_simp
        conv => arg 8; simp [Act.put]
        refine wpAnyH_takeL (i := 18) (v := .pointer (some ⟨lb, lo + j, none⟩)) #[true, true, true, true, true, true, true, true, true, true, true, true, true, true, true, true, true, true, true, false, false, false, false, false, false, false, false, false, false] rfl (by kernel_rfl) (by kernel_rfl) (by kernel_rfl) (fun _ _ _ h => h) (by kernel_rfl) (Stay.refl _ _) (Or.inl ⟨by rfl, fun W hW => ?_⟩) ?_
        · go_simp
        conv => arg 8; simp [Act.put]
        refine wpAnyH_takeL (i := 19) (v := strV k) #[true, true, true, true, true, true, true, true, true, true, true, true, true, true, true, true, true, true, true, true, false, false, false, false, false, false, false, false, false] rfl (by kernel_rfl) (by kernel_rfl) (by kernel_rfl) (fun _ _ _ h => h) (by kernel_rfl) (Stay.refl _ _) (Or.inl ⟨by rfl, fun W hW => ?_⟩) ?_
        · have kc := HC.out W ((HST.out.trans (hst.mono (fun _ x => x.elim))).trans (hW.mono (fun _ x => x.elim)))
          go_simp
        conv => arg 8; simp [Act.put]
        refine wpAnyH_takeL (i := 21) #[true, true, true, true, true, true, true, true, true, true, true, true, true, true, true, true, true, true, true, true, false, true, false, false, false, false, false, false, false] rfl (by kernel_rfl) (by kernel_rfl) (by kernel_rfl) (fun _ _ _ h => h) (by kernel_rfl) (Stay.refl _ _) (yieldsIf_load rfl 33 (.tmp 9) rfl ⟨gr, 0, none⟩ rfl _ (fun W hW => (HRF.out.stay0 (hst.trans hW)).run)) ?_
        conv => arg 8; simp [Act.put]
        refine wpAnyH_takeL (i := 22) (v := .slice (some ⟨lb, lo, none⟩) ks.length c) #[true, true, true, true, true, true, true, true, true, true, true, true, true, true, true, true, true, true, true, true, false, true, true, false, false, false, false, false, false] rfl (by kernel_rfl) (by kernel_rfl) (by kernel_rfl) (fun _ _ _ h => h) (by kernel_rfl) (Stay.refl _ _) (Or.inl ⟨by rfl, fun W hW => ?_⟩) ?_
        · go_simp
        conv => arg 8; simp [Act.put]
        refine wpAnyH_takeL (i := 23) (v := .int .i64 (j : Int)) #[true, true, true, true, true, true, true, true, true, true, true, true, true, true, true, true, true, true, true, true, false, true, true, true, false, false, false, false, false] rfl (by kernel_rfl) (by kernel_rfl) (by kernel_rfl) (fun _ _ _ h => h) (by kernel_rfl) (Stay.refl _ _) (Or.inl ⟨by rfl, fun W hW => ?_⟩) ?_
        · go_simp
        conv => arg 8; simp [Act.put]
        refine wpAnyH_takeL (i := 24) (v := .pointer (some ⟨lb, lo + j, none⟩)) #[true, true, true, true, true, true, true, true, true, true, true, true, true, true, true, true, true, true, true, true, false, true, true, true, true, false, false, false, false] rfl (by kernel_rfl) (by kernel_rfl) (by kernel_rfl) (fun _ _ _ h => h) (by kernel_rfl) (Stay.refl _ _) (Or.inl ⟨by rfl, fun W hW => ?_⟩) ?_
        · go_simp
        conv => arg 8; simp [Act.put]
        refine wpAnyH_takeL (i := 25) (v := strV k) #[true, true, true, true, true, true, true, true, true, true, true, true, true, true, true, true, true, true, true, true, false, true, true, true, true, true, false, false, false] rfl (by kernel_rfl) (by kernel_rfl) (by kernel_rfl) (fun _ _ _ h => h) (by kernel_rfl) (Stay.refl _ _) (Or.inl ⟨by rfl, fun W hW => ?_⟩) ?_
        · have kc := HC.out W ((HST.out.trans (hst.mono (fun _ x => x.elim))).trans (hW.mono (fun _ x => x.elim)))
          go_simp
        conv => arg 8; simp [Act.put]
        refine wpAnyH_one #[true, true, true, true, true, true, true, true, true, true, true, true, true, true, true, true, true, true, true, true, true, true, true, true, true, true, false, false, false] (i := 20) rfl (by kernel_rfl) (by kernel_rfl) (fun K hK => ?_)
        go_simp
        go_wp2_with (go_at_call 14; refine (may_any z3 p g q B k (HF.out.stay0 hst) (by omega)).mono ?_; rintro e z4 ⟨rfl, s⟩; rw [← HMY.out])
        replace hst := hst.trans s
        refine hK _ _ s ?_
        clear hK
        conv => arg 8; simp [Act.put]
        refine wpAnyH_narrow (S' := Stay (fun _ => False) z4) (fun _ h => s.trans h) _ _ _ _ ?_
        clear s
        refine wpAnyH_one #[true, true, true, true, true, true, true, true, true, true, true, true, true, true, true, true, true, true, true, true, true, true, true, true, true, true, true, false, false] (i := 26) rfl (by kernel_rfl) (by kernel_rfl) (fun K hK => ?_)
        go_simp
        go_wp2_with (go_at_call 20; refine (rmay_any z4 q _ B k _ (HTO.out.stay0 hst) HLO.out HHI.out hq2 (by omega)).mono ?_; rintro e z5 ⟨rfl, s⟩; rw [← HMY.out])
        replace hst := hst.trans s
        refine hK _ _ s ?_
        clear hK
        conv => arg 8; simp [Act.put]
        refine wpAnyH_narrow (S' := Stay (fun _ => False) z5) (fun _ h => s.trans h) _ _ _ _ ?_
        clear s
        refine wpAnyH_takeL (i := 27) (v := .bool false) #[true, true, true, true, true, true, true, true, true, true, true, true, true, true, true, true, true, true, true, true, true, true, true, true, true, true, true, true, false] rfl (by kernel_rfl) (by kernel_rfl) (by kernel_rfl) (fun _ _ _ h => h) (by kernel_rfl) (Stay.refl _ _) (Or.inl ⟨by rfl, fun W hW => ?_⟩) ?_
        · go_simp
        conv => arg 8; simp [Act.put]
        refine wpAnyH_takeL (i := 28) (v := .bool false) #[true, true, true, true, true, true, true, true, true, true, true, true, true, true, true, true, true, true, true, true, true, true, true, true, true, true, true, true, true] rfl (by kernel_rfl) (by kernel_rfl) (by kernel_rfl) (fun _ _ _ h => h) (by kernel_rfl) (Stay.refl _ _) (Or.inl ⟨by rfl, fun W hW => ?_⟩) ?_
        · go_simp
        conv => arg 8; simp [Act.put]
        refine wpAnyH_done (by kernel_rfl) ?_ _
        have HF := Lib.hid (HF.out.stay0 hst)
        have HRF := Lib.hid (HRF.out.stay0 hst)
        have HTO := Lib.hid (HTO.out.stay0 hst)
        have HST := Lib.hid (HST.out.trans (hst.mono (fun _ x => x.elim)))
        clear hst HO5 HO6 HMY
        generalize z5 = wy at *
        by_cases hev : j % 2 = 0
        · have hev1 : ((j : Int) % 2 == 0) = true := beq_iff_eq.2 (by omega)
          have kc := HC.out wy HST.out
          go_wp2_with fail
          refine (add_any wy p g q B k HF.out (by omega)).mono ?_
          rintro e wx ⟨rfl, hfx, hsx⟩
          have HFX := Lib.hid hfx
          have HGP := Lib.hid (show w.heap.size ≤ g from HPG.out.2)
          have HSTX := Lib.hid (HST.out.trans (hsx.mono (fun i (e : i = g) => by have := HGP.out; omega)))
          have HGG := Lib.hid (show gr ≠ g ∧ gr ≠ p by have h1 := HPL.out; have h2 := HGW.out; omega)
          have HRFX := Lib.hid (HRF.out.stay hsx (fun e => HGG.out.1 e))
          have HTOX := Lib.hid (HTO.out.stay hsx (fun k2 hk2 e => (HNE.out k2 hk2).1 e))
          clear hfx hsx kc HF HRF HTO HST
          go_wp2
          refine wp_region_held (S := Stay (fun i => i = gr) wx) (by kernel_rfl) ?_
          change wpAnyH _ _ _ _ _ _ _ _ (World.drew _)
          have HS0 := Lib.hid (show Stay (fun i => i = gr) wx wx.drew from Stay.drew)
          refine wpAnyH_takeL (i := 1) (v := .slice (some ⟨lb, lo, none⟩) ks.length c) #[false, true, false, false, false, false, false] rfl (by kernel_rfl) (by kernel_rfl) (by kernel_rfl) (fun _ _ _ h => h) (by kernel_rfl) HS0.out (Or.inl ⟨by rfl, fun W hW => ?_⟩) ?_
          · go_simp
          conv => arg 8; simp [Act.put]
          refine wpAnyH_takeL (i := 2) (v := .int .i64 (j : Int)) #[false, true, true, false, false, false, false] rfl (by kernel_rfl) (by kernel_rfl) (by kernel_rfl) (fun _ _ _ h => h) (by kernel_rfl) HS0.out (Or.inl ⟨by rfl, fun W hW => ?_⟩) ?_
          · go_simp
          conv => arg 8; simp [Act.put]
          refine wpAnyH_takeL (i := 3) (v := .pointer (some ⟨lb, lo + j, none⟩)) #[false, true, true, true, false, false, false] rfl (by kernel_rfl) (by kernel_rfl) (by kernel_rfl) (fun _ _ _ h => h) (by kernel_rfl) HS0.out (Or.inl ⟨by rfl, fun W hW => ?_⟩) ?_
          · go_simp
          conv => arg 8; simp [Act.put]
          refine wpAnyH_takeL (i := 4) (v := strV k) #[false, true, true, true, true, false, false] rfl (by kernel_rfl) (by kernel_rfl) (by kernel_rfl) (fun _ _ _ h => h) (by kernel_rfl) HS0.out (Or.inl ⟨by rfl, fun W hW => ?_⟩) ?_
          · have kc := HC.out W (HSTX.out.trans (hW.mono (fun i (e : i = gr) => by have h1 := HGW.out; have h2 := HLW.out; omega)))
            go_simp
          conv => arg 8; simp [Act.put]
          refine wpAnyH_one #[true, true, true, true, true, false, false] (i := 0) rfl (by kernel_rfl) (by kernel_rfl) (fun K hK => ?_)
          refine step_load_run rfl 33 (.tmp 9) rfl ⟨gr, 0, none⟩ rfl _ (HRFX.out.stay0 (Stay.drew (w := wx))).run ?_
          refine hK _ _ HS0.out ?_
          clear hK
          conv => arg 8; simp [Act.put]
          refine wpAnyH_one #[true, true, true, true, true, true, false] (i := 5) rfl (by kernel_rfl) (by kernel_rfl) (fun K hK => ?_)
          go_simp
          go_wp2_with (go_at_call 21; refine (radd_any wx.drew q _ B k _ (HTOX.out.stay0 Stay.drew) HLO.out HHI.out hq2 (by omega)).mono ?_; rintro e wu ⟨u2, rfl, ho2, hs2⟩; have hfo := ho2.form; rw [addB_len, HBL.out] at hfo; obtain ⟨na, nc, rfl⟩ := hfo)
          have hs2x : Stay (fun _ => False) wx wu := (Stay.drew (X := fun _ => False) (w := wx)).trans hs2
          have HTOU := Lib.hid (ho2.base' (base' := wx.heap.size) (fun k2 hk2 => (ho2.lt k2 hk2).1))
          have HSU := Lib.hid hs2x
          have HRU := Lib.hid (HRFX.out.stay0 hs2x)
          clear ho2 hs2 hs2x
          refine hK _ _ (HSU.out.mono (fun _ x => x.elim)) ?_
          clear hK
          unfold RV
          conv => arg 8; simp [Act.put]
          obtain ⟨wv, hrun, hrv, hsv⟩ := rf_store HRU.out q na s nc
          refine wpAnyH_one #[true, true, true, true, true, true, true] (i := 6) rfl (by kernel_rfl) (by kernel_rfl) (fun K hK => ?_)
          refine step_store_run rfl 33 (.tmp 9) (.tmp 164) rfl ⟨gr, 0, none⟩ rfl _ rfl wv hrun ?_
          refine hK _ _ ((HSU.out.mono (fun _ x => x.elim)).trans hsv) ?_
          clear hK
          conv => arg 8; simp [Act.put]
          have HRV := Lib.hid hrv
          have HWV := Lib.hid ((HSTX.out.trans (HSU.out.mono (fun _ x => x.elim))).trans (hsv.mono (fun i (e : i = gr) => by have h1 := HGW.out; have h2 := HLW.out; omega)))
          have HFV := Lib.hid ((HFX.out.stay0 HSU.out).stay hsv (fun e => HGG.out.2 e.symm) (fun e => HGG.out.1 e.symm))
          have hzx := HSTX.out.size
          have hglt := HFX.out.glt
          have hplt := HFX.out.plt
          have hrlt := HRFX.out.lt
          have HNB := Lib.hid (show ∀ k2, (Value.slice na s nc).ownBlock = some k2 → k2 ≠ g ∧ k2 ≠ gr ∧ k2 ≠ p from fun k2 hk2 => by have h1 := (HTOU.out.lt k2 hk2).1; exact ⟨by omega, by omega, by omega⟩)
          have HTV := Lib.hid ((HTOU.out.stay hsv (fun k2 hk2 e => (HNB.out k2 hk2).2.1 e)).base' (base' := w.heap.size) (fun k2 hk2 => Nat.le_trans hzx (HTOU.out.lt k2 hk2).1))
          clear hrun hrv hsv hzx hglt hplt hrlt HTOU HSU HRU HS0
          refine wpAnyH_done (by kernel_rfl) ?_ _
          go_wp2
          exact ⟨⟨j + 1, _, na, nc, hlt, hl12, by go_num, (addB_len _ _).trans HBL.out, HFV.out, HRV.out, HTV.out, HNB.out, HWV.out⟩, by simp [intOf]; omega⟩
        · have hev1 : ((j : Int) % 2 == 0) = false := beq_eq_false_iff_ne.2 (by omega)
          go_wp2
          exact ⟨⟨j + 1, B, ra, rc, hlt, hl12, by go_num, HBL.out, HF.out, HRF.out, HTO.out, HNE.out, HST.out⟩, by simp [intOf]; omega⟩
      · obtain ⟨EN, hEN⟩ : ∃ EN, EN = encB q B := ⟨_, rfl⟩
        have HEN := Lib.hid hEN
        obtain ⟨t, ht⟩ : ∃ t, t = fullB B := ⟨_, rfl⟩
        have HFU := Lib.hid ht
        clear hEN ht
        go_wp2
        refine wp_region_held (S := Stay (fun _ => False) wz.drew) (by kernel_rfl) ?_
        change wpAnyH _ _ _ _ _ _ _ _ (World.drew _)
        have hst : Stay (fun _ => False) wz wz.drew := Stay.drew
        refine wpAnyH_takeL (i := 0) (v := .pointer (some ⟨p, 0, none⟩)) #[true, false, false, false, false, false, false, false, false, false, false, false, false, false, false, false, false, false] rfl (by kernel_rfl) (by kernel_rfl) (by kernel_rfl) (fun _ _ _ h => h) (by kernel_rfl) (Stay.refl _ _) (Or.inl ⟨by rfl, fun W hW => ?_⟩) ?_
        · go_simp
        conv => arg 8; simp [Act.put]
        refine wpAnyH_takeL (i := 2) #[true, false, true, false, false, false, false, false, false, false, false, false, false, false, false, false, false, false] rfl (by kernel_rfl) (by kernel_rfl) (by kernel_rfl) (fun _ _ _ h => h) (by kernel_rfl) (Stay.refl _ _) (yieldsIf_load rfl 33 (.tmp 9) rfl ⟨gr, 0, none⟩ rfl _ (fun W hW => (HRF.out.stay0 (hst.trans hW)).run)) ?_
        conv => arg 8; simp [Act.put]
        refine wpAnyH_one #[true, true, true, false, false, false, false, false, false, false, false, false, false, false, false, false, false, false] (i := 1) rfl (by kernel_rfl) (by kernel_rfl) (fun K hK => ?_)
        go_simp
        go_wp2_with (go_at_call 15; refine (full_st wz.drew p g q B (HF.out.stay0 hst)).mono ?_; rintro e z1 ⟨rfl, s⟩; rw [← HFU.out])
        replace hst := hst.trans s
        refine hK _ _ s ?_
        clear hK
        conv => arg 8; simp [Act.put]
        refine wpAnyH_narrow (S' := Stay (fun _ => False) z1) (fun _ h => s.trans h) _ _ _ _ ?_
        clear s
        refine wpAnyH_one #[true, true, true, true, false, false, false, false, false, false, false, false, false, false, false, false, false, false] (i := 3) rfl (by kernel_rfl) (by kernel_rfl) (fun K hK => ?_)
        go_simp
        go_wp2_with (go_at_call 22; refine (rfull_any z1 q _ B _ (HTO.out.stay0 hst) HLO.out HHI.out).mono ?_; rintro e z2 ⟨rfl, s⟩; rw [← HFU.out])
        replace hst := hst.trans s
        refine hK _ _ s ?_
        clear hK
        conv => arg 8; simp [Act.put]
        refine wpAnyH_narrow (S' := Stay (fun _ => False) z2) (fun _ h => s.trans h) _ _ _ _ ?_
        clear s
        refine wpAnyH_takeL (i := 4) (v := .bool true) #[true, true, true, true, true, false, false, false, false, false, false, false, false, false, false, false, false, false] rfl (by kernel_rfl) (by kernel_rfl) (by kernel_rfl) (fun _ _ _ h => h) (by kernel_rfl) (Stay.refl _ _) (Or.inl ⟨by rfl, fun W hW => ?_⟩) ?_
        · go_simp
        conv => arg 8; simp [Act.put]
        refine wpAnyH_takeL (i := 5) (v := .bool true) #[true, true, true, true, true, true, false, false, false, false, false, false, false, false, false, false, false, false] rfl (by kernel_rfl) (by kernel_rfl) (by kernel_rfl) (fun _ _ _ h => h) (by kernel_rfl) (Stay.refl _ _) (Or.inl ⟨by rfl, fun W hW => ?_⟩) ?_
        · go_simp
        conv => arg 8; simp [Act.put]
        refine wpAnyH_takeL (i := 6) (v := .pointer (some ⟨p, 0, none⟩)) #[true, true, true, true, true, true, true, false, false, false, false, false, false, false, false, false, false, false] rfl (by kernel_rfl) (by kernel_rfl) (by kernel_rfl) (fun _ _ _ h => h) (by kernel_rfl) (Stay.refl _ _) (Or.inl ⟨by rfl, fun W hW => ?_⟩) ?_
        · go_simp
        conv => arg 8; simp [Act.put]
        refine wpAnyH_takeL (i := 9) #[true, true, true, true, true, true, true, false, false, true, false, false, false, false, false, false, false, false] rfl (by kernel_rfl) (by kernel_rfl) (by kernel_rfl) (fun _ _ _ h => h) (by kernel_rfl) (Stay.refl _ _) (yieldsIf_load rfl 33 (.tmp 9) rfl ⟨gr, 0, none⟩ rfl _ (fun W hW => (HRF.out.stay0 (hst.trans hW)).run)) ?_
        conv => arg 8; simp [Act.put]
        refine wpAnyH_one #[true, true, true, true, true, true, true, true, false, true, false, false, false, false, false, false, false, false] (i := 7) rfl (by kernel_rfl) (by kernel_rfl) (fun K hK => ?_)
        go_simp
        go_wp2_with (go_at_call 11; refine (encode_any z2 p g q B (HF.out.stay0 hst)).mono ?_; rintro e z3 ⟨x5, rfl, how5, s⟩; rw [← HEN.out] at how5; obtain ⟨a5, c5, rfl⟩ := how5.form; have HO5 := Lib.hid how5.slc; clear how5)
        replace hst := hst.trans s
        refine hK _ _ s ?_
        clear hK
        conv => arg 8; simp [Act.put]
        refine wpAnyH_narrow (S' := Stay (fun _ => False) z3) (fun _ h => s.trans h) _ _ _ _ ?_
        clear s
        refine wpAnyH_takeL (i := 8) (v := .string ⟨EN.toArray⟩) #[true, true, true, true, true, true, true, true, true, true, false, false, false, false, false, false, false, false] rfl (by kernel_rfl) (by kernel_rfl) (by kernel_rfl) (fun _ _ _ h => h) (by kernel_rfl) (Stay.refl _ _) (Or.inl ⟨by rfl, fun W hW => ?_⟩) ?_
        · have cv := conv_slc (HO5.out.stay0 hW)
          unfold strV at cv
          go_simp
        conv => arg 8; simp [Act.put]
        refine wpAnyH_one #[true, true, true, true, true, true, true, true, true, true, true, false, false, false, false, false, false, false] (i := 10) rfl (by kernel_rfl) (by kernel_rfl) (fun K hK => ?_)
        go_simp
        go_wp2_with (go_at_call 12; refine (rencode_any z3 q _ B _ (HTO.out.stay0 hst) HLO.out HHI.out hq2).mono ?_; rintro e z4 ⟨x6, rfl, how6, s⟩; rw [← HEN.out] at how6; obtain ⟨a6, c6, rfl⟩ := how6.form; have HO6 := Lib.hid how6.slc; clear how6)
        replace hst := hst.trans s
        refine hK _ _ s ?_
        clear hK
        conv => arg 8; simp [Act.put]
        refine wpAnyH_narrow (S' := Stay (fun _ => False) z4) (fun _ h => s.trans h) _ _ _ _ ?_
        clear s
        refine wpAnyH_takeL (i := 11) (v := .string ⟨EN.toArray⟩) #[true, true, true, true, true, true, true, true, true, true, true, true, false, false, false, false, false, false] rfl (by kernel_rfl) (by kernel_rfl) (by kernel_rfl) (fun _ _ _ h => h) (by kernel_rfl) (Stay.refl _ _) (Or.inl ⟨by rfl, fun W hW => ?_⟩) ?_
        · have cv := conv_slc (HO6.out.stay0 hW)
          unfold strV at cv
          go_simp
        conv => arg 8; simp [Act.put]
        refine wpAnyH_takeL (i := 12) (v := .bool true) #[true, true, true, true, true, true, true, true, true, true, true, true, true, false, false, false, false, false] rfl (by kernel_rfl) (by kernel_rfl) (by kernel_rfl) (fun _ _ _ h => h) (by kernel_rfl) (Stay.refl _ _) (Or.inl ⟨by rfl, fun W hW => ?_⟩) ?_
        · go_simp
        conv => arg 8; simp [Act.put]
        refine wpAnyH_takeL (i := 13) (v := .bool true) #[true, true, true, true, true, true, true, true, true, true, true, true, true, true, false, false, false, false] rfl (by kernel_rfl) (by kernel_rfl) (by kernel_rfl) (fun _ _ _ h => h) (by kernel_rfl) (Stay.refl _ _) (Or.inl ⟨by rfl, fun W hW => ?_⟩) ?_
        · go_simp
        conv => arg 8; simp [Act.put]
        refine wpAnyH_takeL (i := 14) (v := .bool true) #[true, true, true, true, true, true, true, true, true, true, true, true, true, true, true, false, false, false] rfl (by kernel_rfl) (by kernel_rfl) (by kernel_rfl) (fun _ _ _ h => h) (by kernel_rfl) (Stay.refl _ _) (Or.inl ⟨by rfl, fun W hW => ?_⟩) ?_
        · go_simp
        conv => arg 8; simp [Act.put]
        refine wpAnyH_one #[true, true, true, true, true, true, true, true, true, true, true, true, true, true, true, true, false, false] (i := 15) rfl (by kernel_rfl) (by kernel_rfl) (fun K hK => ?_)
        go_simp
        go_wp2_with (go_at_call 17; refine (sure_any z4).mono ?_; rintro e z5 ⟨rfl, s⟩)
        replace hst := hst.trans s
        refine hK _ _ s ?_
        clear hK
        conv => arg 8; simp [Act.put]
        refine wpAnyH_narrow (S' := Stay (fun _ => False) z5) (fun _ h => s.trans h) _ _ _ _ ?_
        clear s
        refine wpAnyH_takeL (i := 16) (v := .bool true) #[true, true, true, true, true, true, true, true, true, true, true, true, true, true, true, true, true, false] rfl (by kernel_rfl) (by kernel_rfl) (by kernel_rfl) (fun _ _ _ h => h) (by kernel_rfl) (Stay.refl _ _) (Or.inl ⟨by rfl, fun W hW => ?_⟩) ?_
        · go_simp
        conv => arg 8; simp [Act.put]
        refine wpAnyH_takeL (i := 17) (v := .bool true) #[true, true, true, true, true, true, true, true, true, true, true, true, true, true, true, true, true, true] rfl (by kernel_rfl) (by kernel_rfl) (by kernel_rfl) (fun _ _ _ h => h) (by kernel_rfl) (Stay.refl _ _) (Or.inl ⟨by rfl, fun W hW => ?_⟩) ?_
        · go_simp
        conv => arg 8; simp [Act.put]
        refine wpAnyH_done (by kernel_rfl) ?_ _
        go_wp2
        go_ret
        exact ⟨rfl, stay_seal (X := fun k => w.heap.size ≤ k) (HST.out.trans (hst.mono (fun _ x => x.elim))) (fun k hk => hk)⟩
    · obtain ⟨EN, hEN⟩ : ∃ EN, EN = encB q B := ⟨_, rfl⟩
      have HEN := Lib.hid hEN
      obtain ⟨t, ht⟩ : ∃ t, t = fullB B := ⟨_, rfl⟩
      have HFU := Lib.hid ht
      clear hEN ht
      go_wp2
      refine wp_region_held (S := Stay (fun _ => False) wz.drew) (by kernel_rfl) ?_
      change wpAnyH _ _ _ _ _ _ _ _ (World.drew _)
      have hst : Stay (fun _ => False) wz wz.drew := Stay.drew
      refine wpAnyH_takeL (i := 0) (v := .pointer (some ⟨p, 0, none⟩)) #[true, false, false, false, false, false, false, false, false, false, false, false, false, false, false, false, false, false] rfl (by kernel_rfl) (by kernel_rfl) (by kernel_rfl) (fun _ _ _ h => h) (by kernel_rfl) (Stay.refl _ _) (Or.inl ⟨by rfl, fun W hW => ?_⟩) ?_
      · go_simp
      conv => arg 8; simp [Act.put]
      refine wpAnyH_takeL (i := 2) #[true, false, true, false, false, false, false, false, false, false, false, false, false, false, false, false, false, false] rfl (by kernel_rfl) (by kernel_rfl) (by kernel_rfl) (fun _ _ _ h => h) (by kernel_rfl) (Stay.refl _ _) (yieldsIf_load rfl 33 (.tmp 9) rfl ⟨gr, 0, none⟩ rfl _ (fun W hW => (HRF.out.stay0 (hst.trans hW)).run)) ?_
      conv => arg 8; simp [Act.put]
      refine wpAnyH_one #[true, true, true, false, false, false, false, false, false, false, false, false, false, false, false, false, false, false] (i := 1) rfl (by kernel_rfl) (by kernel_rfl) (fun K hK => ?_)
      go_simp
      go_wp2_with (go_at_call 15; refine (full_st wz.drew p g q B (HF.out.stay0 hst)).mono ?_; rintro e z1 ⟨rfl, s⟩; rw [← HFU.out])
      replace hst := hst.trans s
      refine hK _ _ s ?_
      clear hK
      conv => arg 8; simp [Act.put]
      refine wpAnyH_narrow (S' := Stay (fun _ => False) z1) (fun _ h => s.trans h) _ _ _ _ ?_
      clear s
      refine wpAnyH_one #[true, true, true, true, false, false, false, false, false, false, false, false, false, false, false, false, false, false] (i := 3) rfl (by kernel_rfl) (by kernel_rfl) (fun K hK => ?_)
      go_simp
      go_wp2_with (go_at_call 22; refine (rfull_any z1 q _ B _ (HTO.out.stay0 hst) HLO.out HHI.out).mono ?_; rintro e z2 ⟨rfl, s⟩; rw [← HFU.out])
      replace hst := hst.trans s
      refine hK _ _ s ?_
      clear hK
      conv => arg 8; simp [Act.put]
      refine wpAnyH_narrow (S' := Stay (fun _ => False) z2) (fun _ h => s.trans h) _ _ _ _ ?_
      clear s
      refine wpAnyH_takeL (i := 4) (v := .bool true) #[true, true, true, true, true, false, false, false, false, false, false, false, false, false, false, false, false, false] rfl (by kernel_rfl) (by kernel_rfl) (by kernel_rfl) (fun _ _ _ h => h) (by kernel_rfl) (Stay.refl _ _) (Or.inl ⟨by rfl, fun W hW => ?_⟩) ?_
      · go_simp
      conv => arg 8; simp [Act.put]
      refine wpAnyH_takeL (i := 5) (v := .bool true) #[true, true, true, true, true, true, false, false, false, false, false, false, false, false, false, false, false, false] rfl (by kernel_rfl) (by kernel_rfl) (by kernel_rfl) (fun _ _ _ h => h) (by kernel_rfl) (Stay.refl _ _) (Or.inl ⟨by rfl, fun W hW => ?_⟩) ?_
      · go_simp
      conv => arg 8; simp [Act.put]
      refine wpAnyH_takeL (i := 6) (v := .pointer (some ⟨p, 0, none⟩)) #[true, true, true, true, true, true, true, false, false, false, false, false, false, false, false, false, false, false] rfl (by kernel_rfl) (by kernel_rfl) (by kernel_rfl) (fun _ _ _ h => h) (by kernel_rfl) (Stay.refl _ _) (Or.inl ⟨by rfl, fun W hW => ?_⟩) ?_
      · go_simp
      conv => arg 8; simp [Act.put]
      refine wpAnyH_takeL (i := 9) #[true, true, true, true, true, true, true, false, false, true, false, false, false, false, false, false, false, false] rfl (by kernel_rfl) (by kernel_rfl) (by kernel_rfl) (fun _ _ _ h => h) (by kernel_rfl) (Stay.refl _ _) (yieldsIf_load rfl 33 (.tmp 9) rfl ⟨gr, 0, none⟩ rfl _ (fun W hW => (HRF.out.stay0 (hst.trans hW)).run)) ?_
      conv => arg 8; simp [Act.put]
      refine wpAnyH_one #[true, true, true, true, true, true, true, true, false, true, false, false, false, false, false, false, false, false] (i := 7) rfl (by kernel_rfl) (by kernel_rfl) (fun K hK => ?_)
      go_simp
      go_wp2_with (go_at_call 11; refine (encode_any z2 p g q B (HF.out.stay0 hst)).mono ?_; rintro e z3 ⟨x5, rfl, how5, s⟩; rw [← HEN.out] at how5; obtain ⟨a5, c5, rfl⟩ := how5.form; have HO5 := Lib.hid how5.slc; clear how5)
      replace hst := hst.trans s
      refine hK _ _ s ?_
      clear hK
      conv => arg 8; simp [Act.put]
      refine wpAnyH_narrow (S' := Stay (fun _ => False) z3) (fun _ h => s.trans h) _ _ _ _ ?_
      clear s
      refine wpAnyH_takeL (i := 8) (v := .string ⟨EN.toArray⟩) #[true, true, true, true, true, true, true, true, true, true, false, false, false, false, false, false, false, false] rfl (by kernel_rfl) (by kernel_rfl) (by kernel_rfl) (fun _ _ _ h => h) (by kernel_rfl) (Stay.refl _ _) (Or.inl ⟨by rfl, fun W hW => ?_⟩) ?_
      · have cv := conv_slc (HO5.out.stay0 hW)
        unfold strV at cv
        go_simp
      conv => arg 8; simp [Act.put]
      refine wpAnyH_one #[true, true, true, true, true, true, true, true, true, true, true, false, false, false, false, false, false, false] (i := 10) rfl (by kernel_rfl) (by kernel_rfl) (fun K hK => ?_)
      go_simp
      go_wp2_with (go_at_call 12; refine (rencode_any z3 q _ B _ (HTO.out.stay0 hst) HLO.out HHI.out hq2).mono ?_; rintro e z4 ⟨x6, rfl, how6, s⟩; rw [← HEN.out] at how6; obtain ⟨a6, c6, rfl⟩ := how6.form; have HO6 := Lib.hid how6.slc; clear how6)
      replace hst := hst.trans s
      refine hK _ _ s ?_
      clear hK
      conv => arg 8; simp [Act.put]
      refine wpAnyH_narrow (S' := Stay (fun _ => False) z4) (fun _ h => s.trans h) _ _ _ _ ?_
      clear s
      refine wpAnyH_takeL (i := 11) (v := .string ⟨EN.toArray⟩) #[true, true, true, true, true, true, true, true, true, true, true, true, false, false, false, false, false, false] rfl (by kernel_rfl) (by kernel_rfl) (by kernel_rfl) (fun _ _ _ h => h) (by kernel_rfl) (Stay.refl _ _) (Or.inl ⟨by rfl, fun W hW => ?_⟩) ?_
      · have cv := conv_slc (HO6.out.stay0 hW)
        unfold strV at cv
        go_simp
      conv => arg 8; simp [Act.put]
      refine wpAnyH_takeL (i := 12) (v := .bool true) #[true, true, true, true, true, true, true, true, true, true, true, true, true, false, false, false, false, false] rfl (by kernel_rfl) (by kernel_rfl) (by kernel_rfl) (fun _ _ _ h => h) (by kernel_rfl) (Stay.refl _ _) (Or.inl ⟨by rfl, fun W hW => ?_⟩) ?_
      · go_simp
      conv => arg 8; simp [Act.put]
      refine wpAnyH_takeL (i := 13) (v := .bool true) #[true, true, true, true, true, true, true, true, true, true, true, true, true, true, false, false, false, false] rfl (by kernel_rfl) (by kernel_rfl) (by kernel_rfl) (fun _ _ _ h => h) (by kernel_rfl) (Stay.refl _ _) (Or.inl ⟨by rfl, fun W hW => ?_⟩) ?_
      · go_simp
      conv => arg 8; simp [Act.put]
      refine wpAnyH_takeL (i := 14) (v := .bool true) #[true, true, true, true, true, true, true, true, true, true, true, true, true, true, true, false, false, false] rfl (by kernel_rfl) (by kernel_rfl) (by kernel_rfl) (fun _ _ _ h => h) (by kernel_rfl) (Stay.refl _ _) (Or.inl ⟨by rfl, fun W hW => ?_⟩) ?_
      · go_simp
      conv => arg 8; simp [Act.put]
      refine wpAnyH_one #[true, true, true, true, true, true, true, true, true, true, true, true, true, true, true, true, false, false] (i := 15) rfl (by kernel_rfl) (by kernel_rfl) (fun K hK => ?_)
      go_simp
      go_wp2_with (go_at_call 17; refine (sure_any z4).mono ?_; rintro e z5 ⟨rfl, s⟩)
      replace hst := hst.trans s
      refine hK _ _ s ?_
      clear hK
      conv => arg 8; simp [Act.put]
      refine wpAnyH_narrow (S' := Stay (fun _ => False) z5) (fun _ h => s.trans h) _ _ _ _ ?_
      clear s
      refine wpAnyH_takeL (i := 16) (v := .bool true) #[true, true, true, true, true, true, true, true, true, true, true, true, true, true, true, true, true, false] rfl (by kernel_rfl) (by kernel_rfl) (by kernel_rfl) (fun _ _ _ h => h) (by kernel_rfl) (Stay.refl _ _) (Or.inl ⟨by rfl, fun W hW => ?_⟩) ?_
      · go_simp
      conv => arg 8; simp [Act.put]
      refine wpAnyH_takeL (i := 17) (v := .bool true) #[true, true, true, true, true, true, true, true, true, true, true, true, true, true, true, true, true, true] rfl (by kernel_rfl) (by kernel_rfl) (by kernel_rfl) (fun _ _ _ h => h) (by kernel_rfl) (Stay.refl _ _) (Or.inl ⟨by rfl, fun W hW => ?_⟩) ?_
      · go_simp
      conv => arg 8; simp [Act.put]
      refine wpAnyH_done (by kernel_rfl) ?_ _
      go_wp2
      go_ret
      exact ⟨rfl, stay_seal (X := fun k => w.heap.size ≤ k) (HST.out.trans (hst.mono (fun _ x => x.elim))) (fun k hk => hk)⟩

end Go.Proofs.YtgchdgdhjafdbaaDoor.Bo
