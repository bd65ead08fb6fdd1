/-
  The document's toggle (drydockref04): Save, walked.
-/
import Derived.Test.YtlmaooeeklhelaaGreatDoorGaS
namespace Go.Proofs.YtlmaooeeklhelaaGreatDoor.Tg
open Go.RowKit Pk
set_option maxRecDepth 100000

set_option maxHeartbeats 8000000 in
theorem rsave_none (w : World) (v1 v2 v3 : Value) (r : RDev) (d : DS) (b : Int) (f s : Int) (l : List UInt8)  (h : Dv w v1 v2 v3 r) (hr : ROk d.n b r) (hb : b ≤ 1099511000000) (hsim : Sim d r) (hw : ∀ j, (d.cur j).length = 64) (h0 : 0 < d.n) (hn : d.n ≤ 16384) (hf : I64 f) (hs : I64 s)
    (hT : askD d f s = ((0, false, 0), 8)) (hl : (l.length : Int) ≤ roomI s) :
    Calls Tryz.prog 18 #[devV v1 v2 v3 r, areaV f s, strV l] w fun e w' => ∃ u1 u2 u3 r2, e = .returned (.tuple #[devV u1 u2 u3 r2, .int .i64 ((saveAt d f s l 0 (!false)).2 : Nat)]) ∧ Dv w' u1 u2 u3 r2 ∧ Sim (saveAt d f s l 0 (!false)).1 r2 ∧ ROk d.n (b + 20000) r2 ∧ (∀ k, blk3 u1 u2 u3 k → w.heap.size ≤ k ∨ blk3 v1 v2 v3 k) ∧ Stay (fun _ => False) w w' := by
  obtain ⟨⟨f0, s3, fn⟩, hup⟩ := ask_some hT (by omega)
  obtain ⟨w1, hw1, HST, HSZ, HB, HA, HZ⟩ := save_boxes w v1 v2 v3 r f s
  have hpb : l.length ≤ (roomI s).toNat := by omega
  obtain ⟨hp1, hp2, hp3, hp4⟩ := place_in (b := false) f0 s3 fn hn hpb
  obtain ⟨pl, hpl⟩ : ∃ pl : Nat, placeI f s false = (pl : Int) := ⟨(placeI f s false).toNat, by omega⟩
  have e5 : (placeI f s false).toNat = pl := by omega
  rw [e5] at hp1
  have HPL := Lib.hid (fun W => hpl ▸ rplace_any f s false W f0 (by omega) s3 (by omega))
  have HSV := Lib.hid (show saveAt d f s l 0 (!false) = if (wrAllD d (pl : Int) l).2 ≠ 0 then wrAllD d (pl : Int) l else wrAllD (wrAllD d (pl : Int) l).1 f (tellB (0 + 1) false l.length) by
    unfold saveAt
    rw [Bool.not_not, hpl])
  have hlook := fun W (hW : Stay (fun _ => False) w1 W) => rlook_any W v1 v2 v3 r d b f s (h.stay0 (HST.out.trans hW)) hr hsim hw h0 hn hf hs
  rw [hT] at hlook
  have HLK := Lib.hid hlook
  have HST0 := Lib.hid (show SvSt (blk3 v1 v2 v3) w w1 f s d.n b d v1 v2 v3 r from ⟨HB.out, h.stay0 HST.out, hsim, hr, fun k hk => .inl ⟨h.lt hr h0 k hk, hk⟩, HA.out, HZ.out, by rw [HSZ.out]; exact Nat.le_refl _, HST.out.mono (fun _ y => y.elim)⟩)
  have HROOM := Lib.hid (fun W => rroom_any f s W)
  have HLEN := Lib.hid (show l.length ≤ 1048576 from hp4)
  have HP1 := Lib.hid hp1
  have HB0 := Lib.hid hb
  have HN0 := Lib.hid h0
  have ln : ¬ roomI s < (l.length : Int) := by omega
  have hpl2 : (pl : Int) ≤ 32768 := by omega
  have hl2 : (l.length : Int) ≤ 1048576 := by omega
  have HO := Lib.hid h.one
  have HTN := Lib.hid (show (0 : Int) ≤ 18446744073709551614 by omega)
  clear h hr hsim hw hT hpb hp1 hp2 hp3 hp4 e5 hlook hup hl hpl hb
  unfold devV areaV strV
  go_enter Tryz.func18, Tryz.ntmps18
  go_wp2_with (first
    | (refine load_box rfl (.tmp 3) rfl w.heap.size rfl _ _ _ _ HB.out ?_)
    | (refine load_area rfl (.tmp 4) rfl (w.heap.size + 1) rfl f s HA.out ?_))
  clear hw1
  refine (HLK.out w1 (Stay.refl _ _)).mono ?_
  rintro e w2 ⟨rfl, t2⟩
  have HST2 := Lib.hid (show SvSt (blk3 v1 v2 v3) w w2 f s d.n b d v1 v2 v3 r from ⟨HB.out.stay t2 (fun y => y), HST0.out.dv.stay0 t2, HST0.out.sim, HST0.out.ok, HST0.out.far, HA.out.stay t2 (fun y => y), HZ.out.stay t2 (fun y => y), Nat.le_trans HST0.out.sz t2.size, HST0.out.st.trans (t2.mono (fun _ y => y.elim))⟩)
  have HST2' := Lib.hid (HST.out.trans t2)
  clear t2
  unfold askV
  go_wp2_with (first
    | (refine load_area rfl (.tmp 4) rfl (w.heap.size + 1) rfl f s HST2.out.ar ?_))
  refine (HROOM.out w2).mono ?_
  rintro e w3 ⟨rfl, t3⟩
  have HST3 := Lib.hid (show SvSt (blk3 v1 v2 v3) w w3 f s d.n b d v1 v2 v3 r from ⟨HST2.out.box.stay t3 (fun y => y), HST2.out.dv.stay0 t3, HST2.out.sim, HST2.out.ok, HST2.out.far, HST2.out.ar.stay t3 (fun y => y), HST2.out.res.stay t3 (fun y => y), Nat.le_trans HST2.out.sz t3.size, HST2.out.st.trans (t3.mono (fun _ y => y.elim))⟩)
  clear t3
  go_wp2_with fail
  go_loopw [12] (fun i wr => ∃ k : Nat, ∃ u1 u2 u3 rk, k ≤ parts l.length ∧ i = .int .i64 (k : Int) ∧ SvSt (blk3 v1 v2 v3) w wr f s d.n (b + k) (writesD l d (pl : Int) (List.range k)).1 u1 u2 u3 rk ∧ (writesD l d (pl : Int) (List.range k)).2 = 0) (fun i _ => parts l.length - (intOf i).toNat)
  case atStart => exact ⟨0, v1, v2, v3, r, Nat.zero_le _, rfl, by simpa [writesD] using HST3.out, rfl⟩
  case round =>
    obtain ⟨k, u1, u2, u3, rk, hk, rfl, hst, hcode⟩ := hrel
    by_cases hlt : k < parts l.length
    · have q0 : 64 * (k : Int) < (l.length : Int) := by unfold parts at hlt; omega
      have hkb : k ≤ 16384 := by have := HLEN.out; unfold parts at hlt; omega
      have hwr1 : IntKind.i64.wrap ((pl : Int) + (k : Int)) = (pl : Int) + (k : Int) := IntWalk.i64_in _ (by omega)
      have hwr2 : IntKind.i64.wrap (64 * (k : Int)) = 64 * (k : Int) := IntWalk.i64_in _ (by omega)
      have hwr3 : IntKind.i64.wrap (64 * (k : Int) + 64) = 64 * (k : Int) + 64 := IntWalk.i64_in _ (by omega)
      obtain ⟨M, hM⟩ : ∃ M, M = min l.length (64 * k + 64) := ⟨_, rfl⟩
      have HMM := Lib.hid (show ((l.length : Int) < 64 * (k : Int) + 64 ∧ (M : Int) = (l.length : Int)) ∨ (¬ (l.length : Int) < 64 * (k : Int) + 64 ∧ (M : Int) = 64 * (k : Int) + 64) by omega)
      have HEX := Lib.hid (str_part l k M hM)
      have HM3 := Lib.hid (show 64 * (k : Int) ≤ (M : Int) by omega)
      have HM4 := Lib.hid (show (M : Int) ≤ (l.length : Int) by omega)
      have HWR1 := Lib.hid hwr1
      have HWR2 := Lib.hid hwr2
      have HWR3 := Lib.hid hwr3
      have HST4 := Lib.hid hst
      have HCODE := Lib.hid hcode
      have HK := Lib.hid hlt
      have hkb2 : b + (k : Int) ≤ 1099511627776 := by have := HB0.out; omega
      have hwrite := fun W (hW : Stay (fun _ => False) wr W) => rwrite_any W u1 u2 u3 rk d.n (b + k) ((pl : Int) + (k : Int)) (partB l k) (hst.dv.stay0 hW) hst.ok hkb2 HN0.out hn ⟨by omega, by omega⟩ (by rw [length_partB]; omega)
      have hsim1 := sim_write hst.sim ((pl : Int) + (k : Int)) (partB l k)
      have hrok1 := rok_write hst.ok ((pl : Int) + (k : Int)) (partB l k)
      have hsn := writesD_snoc l (List.range k) d (pl : Int) k hcode
      rw [List.length_range, ← List.range_succ] at hsn
      obtain ⟨r1, hr1⟩ : ∃ r1, (writeR rk ((pl : Int) + (k : Int)) (partB l k)).1 = r1 := ⟨_, rfl⟩
      obtain ⟨c1, hc1⟩ : ∃ c1, (writeR rk ((pl : Int) + (k : Int)) (partB l k)).2 = c1 := ⟨_, rfl⟩
      rw [hr1, hc1] at hwrite
      rw [hr1] at hsim1 hrok1
      rw [hc1, ← hsn] at hsim1
      have HWRT := Lib.hid hwrite
      have HSIM1 := Lib.hid hsim1.1
      have HC1 := Lib.hid hsim1.2
      have HROK1 := Lib.hid hrok1
      obtain ⟨S, hSd⟩ : ∃ S : World → Prop, S = Stay (fun _ => False) wr := ⟨_, rfl⟩
      have HSS := Lib.hid (show ∀ W, S W → Stay (fun _ => False) wr W by intro W h; rw [hSd] at h; exact h)
      have HSm := Lib.hid (show ∀ W, Stay (fun _ => False) wr W → S W by intro W h; rw [hSd]; exact h)
      have HSM := Lib.hid (HSm.out wr.drew Stay.drew)
      have HLB := Lib.hid (fun W (hW : S W) => run_load_box (hst.box.stay (HSS.out W hW) (fun y => y)))
      have HLA := Lib.hid (fun W (hW : S W) => run_load_area (hst.ar.stay (HSS.out W hW) (fun y => y)))
      clear hSd hst hcode hlt hM hwr1 hwr2 hwr3 hwrite hsim1 hrok1 hsn hr1 hc1
      go_wp2_with fail
      refine wp_region_held (S := S) (by kernel_rfl) ?_
      change wpAnyH _ _ _ _ _ _ _ _ (World.drew _)
      refine wpAnyH_takeL (i := 0) (v := devV u1 u2 u3 rk) #[true, false, false, false, false, false, false, false, false, false, false, false, false, false, false, false, false, false, false, false, false, false, false] rfl (by kernel_rfl) (by kernel_rfl) (by kernel_rfl) (fun _ _ _ h => h) (by kernel_rfl) (HSM.out) (Or.inl ⟨by rfl, fun W hW => ?_⟩) ?_
      · exact exec_load 33 (.tmp 3) rfl ⟨w.heap.size, 0, none⟩ rfl (HLB.out W hW)
      conv =>
        arg 8
        simp [Act.put]
      refine wpAnyH_takeL (i := 1) (v := areaV f s) #[true, true, false, false, false, false, false, false, false, false, false, false, false, false, false, false, false, false, false, false, false, false, false] rfl (by kernel_rfl) (by kernel_rfl) (by kernel_rfl) (fun _ _ _ h => h) (by kernel_rfl) (HSM.out) (Or.inl ⟨by rfl, fun W hW => ?_⟩) ?_
      · exact exec_load 23 (.tmp 4) rfl ⟨w.heap.size + 1, 0, none⟩ rfl (HLA.out W hW)
      conv =>
        arg 8
        simp [Act.put]
      refine wpAnyH_takeL (i := 2) (v := .bool false) #[true, true, true, false, false, false, false, false, false, false, false, false, false, false, false, false, false, false, false, false, false, false, false] rfl (by kernel_rfl) (by kernel_rfl) (by kernel_rfl) (fun _ _ _ h => h) (by kernel_rfl) (HSM.out) (Or.inl ⟨by rfl, fun W hW => ?_⟩) ?_
      · go_simp
      conv =>
        arg 8
        simp [Act.put]
      refine wpAnyH_takeL (i := 4) (v := .int .i64 (k : Int)) #[true, true, true, false, true, false, false, false, false, false, false, false, false, false, false, false, false, false, false, false, false, false, false] rfl (by kernel_rfl) (by kernel_rfl) (by kernel_rfl) (fun _ _ _ h => h) (by kernel_rfl) (HSM.out) (Or.inl ⟨by rfl, fun W hW => ?_⟩) ?_
      · go_simp
      conv =>
        arg 8
        simp [Act.put]
      refine wpAnyH_takeL (i := 6) (v := .string ⟨l.toArray⟩) #[true, true, true, false, true, false, true, false, false, false, false, false, false, false, false, false, false, false, false, false, false, false, false] rfl (by kernel_rfl) (by kernel_rfl) (by kernel_rfl) (fun _ _ _ h => h) (by kernel_rfl) (HSM.out) (Or.inl ⟨by rfl, fun W hW => ?_⟩) ?_
      · go_simp
      conv =>
        arg 8
        simp [Act.put]
      refine wpAnyH_takeL (i := 7) (v := .int .i64 (k : Int)) #[true, true, true, false, true, false, true, true, false, false, false, false, false, false, false, false, false, false, false, false, false, false, false] rfl (by kernel_rfl) (by kernel_rfl) (by kernel_rfl) (fun _ _ _ h => h) (by kernel_rfl) (HSM.out) (Or.inl ⟨by rfl, fun W hW => ?_⟩) ?_
      · go_simp
      conv =>
        arg 8
        simp [Act.put]
      refine wpAnyH_takeL (i := 8) (v := .int .i64 (64 * (k : Int))) #[true, true, true, false, true, false, true, true, true, false, false, false, false, false, false, false, false, false, false, false, false, false, false] rfl (by kernel_rfl) (by kernel_rfl) (by kernel_rfl) (fun _ _ _ h => h) (by kernel_rfl) (HSM.out) (Or.inl ⟨by rfl, fun W hW => ?_⟩) ?_
      · have q := HWR2.out
        go_simp
      conv =>
        arg 8
        simp [Act.put]
      refine wpAnyH_takeL (i := 9) (v := .string ⟨l.toArray⟩) #[true, true, true, false, true, false, true, true, true, true, false, false, false, false, false, false, false, false, false, false, false, false, false] rfl (by kernel_rfl) (by kernel_rfl) (by kernel_rfl) (fun _ _ _ h => h) (by kernel_rfl) (HSM.out) (Or.inl ⟨by rfl, fun W hW => ?_⟩) ?_
      · go_simp
      conv =>
        arg 8
        simp [Act.put]
      refine wpAnyH_takeL (i := 10) (v := .int .i64 (l.length : Int)) #[true, true, true, false, true, false, true, true, true, true, true, false, false, false, false, false, false, false, false, false, false, false, false] rfl (by kernel_rfl) (by kernel_rfl) (by kernel_rfl) (fun _ _ _ h => h) (by kernel_rfl) (HSM.out) (Or.inl ⟨by rfl, fun W hW => ?_⟩) ?_
      · go_simp
      conv =>
        arg 8
        simp [Act.put]
      refine wpAnyH_takeL (i := 11) (v := .int .i64 (k : Int)) #[true, true, true, false, true, false, true, true, true, true, true, true, false, false, false, false, false, false, false, false, false, false, false] rfl (by kernel_rfl) (by kernel_rfl) (by kernel_rfl) (fun _ _ _ h => h) (by kernel_rfl) (HSM.out) (Or.inl ⟨by rfl, fun W hW => ?_⟩) ?_
      · go_simp
      conv =>
        arg 8
        simp [Act.put]
      refine wpAnyH_takeL (i := 12) (v := .int .i64 (64 * (k : Int))) #[true, true, true, false, true, false, true, true, true, true, true, true, true, false, false, false, false, false, false, false, false, false, false] rfl (by kernel_rfl) (by kernel_rfl) (by kernel_rfl) (fun _ _ _ h => h) (by kernel_rfl) (HSM.out) (Or.inl ⟨by rfl, fun W hW => ?_⟩) ?_
      · have q := HWR2.out
        go_simp
      conv =>
        arg 8
        simp [Act.put]
      refine wpAnyH_takeL (i := 13) (v := .int .i64 (64 * (k : Int) + 64)) #[true, true, true, false, true, false, true, true, true, true, true, true, true, true, false, false, false, false, false, false, false, false, false] rfl (by kernel_rfl) (by kernel_rfl) (by kernel_rfl) (fun _ _ _ h => h) (by kernel_rfl) (HSM.out) (Or.inl ⟨by rfl, fun W hW => ?_⟩) ?_
      · have q := HWR3.out
        go_simp
      conv =>
        arg 8
        simp [Act.put]
      refine wpAnyH_takeL (i := 14) (v := .int .i64 (M : Int)) #[true, true, true, false, true, false, true, true, true, true, true, true, true, true, true, false, false, false, false, false, false, false, false] rfl (by kernel_rfl) (by kernel_rfl) (by kernel_rfl) (fun _ _ _ h => h) (by kernel_rfl) (HSM.out) (Or.inl ⟨by rfl, fun W hW => ?_⟩) ?_
      · have q := HMM.out
        rcases q with ⟨q1, q2⟩ | ⟨q1, q2⟩
        · go_simp; omega
        · go_simp; omega
      conv =>
        arg 8
        simp [Act.put]
      refine wpAnyH_takeL (i := 15) (v := .string ⟨(partB l k).toArray⟩) #[true, true, true, false, true, false, true, true, true, true, true, true, true, true, true, true, false, false, false, false, false, false, false] rfl (by kernel_rfl) (by kernel_rfl) (by kernel_rfl) (fun _ _ _ h => h) (by kernel_rfl) (HSM.out) (Or.inl ⟨by rfl, fun W hW => ?_⟩) ?_
      · have q := HEX.out
        have q3 := HM3.out
        have q4 := HM4.out
        go_simp
        rw [if_pos (by omega), show (64 * (k : Int)).toNat = 64 * k by omega, q]
      conv =>
        arg 8
        simp [Act.put]
      refine wpAnyH_two (i := 3) (j := 20) #[true, true, true, true, true, false, true, true, true, true, true, true, true, true, true, true, false, false, false, false, false, false, false] #[true, true, true, false, true, false, true, true, true, true, true, true, true, true, true, true, false, false, false, false, true, false, false] rfl rfl (by kernel_rfl) (by kernel_rfl) (by kernel_rfl) (fun K hK => ?_) (fun K hK => ?_)
      · skip
        go_simp
        go_wp2_with (
          go_at_call 41
          refine (HPL.out _).mono ?_
          rintro e wp ⟨rfl, hsp⟩
          have HSP := Lib.hid (show Stay (fun _ => False) wr wp from (Stay.drew (X := fun _ => False) (w := wr)).trans hsp)
          have HAP := Lib.hid hsp
          clear hsp)
        refine hK _ _ (HSm.out _ HSP.out) ?_
        conv =>
          arg 8
          simp [Act.put]
        clear hK K
        refine wpAnyH_takeL (i := 5) (v := .int .i64 ((pl : Int) + (k : Int))) #[true, true, true, true, true, true, true, true, true, true, true, true, true, true, true, true, false, false, false, false, false, false, false] rfl (by kernel_rfl) (by kernel_rfl) (by kernel_rfl) (fun _ _ _ h => h) (by kernel_rfl) (HSm.out _ HSP.out) (Or.inl ⟨by rfl, fun W hW => ?_⟩) ?_
        · have q := HWR1.out
          go_simp
        conv =>
          arg 8
          simp [Act.put]
        refine wpAnyH_two (i := 16) (j := 20) #[true, true, true, true, true, true, true, true, true, true, true, true, true, true, true, true, true, false, false, false, false, false, false] #[true, true, true, true, true, true, true, true, true, true, true, true, true, true, true, true, false, false, false, false, true, false, false] rfl rfl (by kernel_rfl) (by kernel_rfl) (by kernel_rfl) (fun K hK => ?_) (fun K hK => ?_)
        · skip
          go_simp
          go_wp2_with (
            go_at_call 8
            refine (HWRT.out _ HSP.out).mono ?_
            rintro e wq ⟨y1, y2, y3, rfl, hdq, hfq, hsq⟩
            have HDQ := Lib.hid hdq
            have HFQ := Lib.hid (show ∀ k, blk3 y1 y2 y3 k → wr.heap.size ≤ k ∨ blk3 u1 u2 u3 k from fun j hj => (hfq j hj).imp (fun q => Nat.le_trans (HSP.out).size q) id)
            have HSQ := Lib.hid (show Stay (fun _ => False) wr wq from (HSP.out).trans hsq)
            clear hdq hfq hsq)
          refine hK _ _ (HSm.out _ HSQ.out) ?_
          conv =>
            arg 8
            simp [Act.put]
          clear hK K
          refine wpAnyH_takeL (i := 17) (v := .tuple #[devV y1 y2 y3 r1, .int .i64 (c1 : Nat)]) #[true, true, true, true, true, true, true, true, true, true, true, true, true, true, true, true, true, true, false, false, false, false, false] rfl (by kernel_rfl) (by kernel_rfl) (by kernel_rfl) (fun _ _ _ h => h) (by kernel_rfl) (HSm.out _ HSQ.out) (Or.inl ⟨by rfl, fun W hW => ?_⟩) ?_
          · go_simp
          conv =>
            arg 8
            simp [Act.put]
          refine wpAnyH_takeL (i := 18) (v := devV y1 y2 y3 r1) #[true, true, true, true, true, true, true, true, true, true, true, true, true, true, true, true, true, true, true, false, false, false, false] rfl (by kernel_rfl) (by kernel_rfl) (by kernel_rfl) (fun _ _ _ h => h) (by kernel_rfl) (HSm.out _ HSQ.out) (Or.inl ⟨by rfl, fun W hW => ?_⟩) ?_
          · go_simp
          conv =>
            arg 8
            simp [Act.put]
          refine wpAnyH_takeL (i := 19) (v := .int .i64 (c1 : Nat)) #[true, true, true, true, true, true, true, true, true, true, true, true, true, true, true, true, true, true, true, true, false, false, false] rfl (by kernel_rfl) (by kernel_rfl) (by kernel_rfl) (fun _ _ _ h => h) (by kernel_rfl) (HSm.out _ HSQ.out) (Or.inl ⟨by rfl, fun W hW => ?_⟩) ?_
          · go_simp
          conv =>
            arg 8
            simp [Act.put]
          refine wpAnyH_one #[true, true, true, true, true, true, true, true, true, true, true, true, true, true, true, true, true, true, true, true, true, false, false] (i := 20) rfl (by kernel_rfl) (by kernel_rfl) (fun K hK => ?_)
          go_simp
          obtain ⟨wa, hwa⟩ : ∃ W, (wq.alloc (.cells #[.slice none 0 0, .slice none 0 0, .slice none 0 0, .int .i64 0, .bool false, .int .i64 0, .bool false, .bool false] 33)) = W := ⟨_, rfl⟩
          have hsa : Stay (fun _ => False) wr wa := hwa ▸ ((HSQ.out).trans (Stay.alloc _ _))
          have hba : BoxAt wa wq.heap.size (.slice none 0 0) (.slice none 0 0) (.slice none 0 0) zeroR := hwa ▸ heap_alloc_new wq _
          have hbn : wr.heap.size ≤ wq.heap.size := (HSQ.out).size
          have hxa : Stay (fun _ => False) wq wa := hwa ▸ Stay.alloc _ _
          rw [hwa]
          obtain ⟨B, hB⟩ : ∃ B, wq.heap.size = B := ⟨_, rfl⟩
          rw [hB] at hba hbn ⊢
          have HSA := Lib.hid hsa
          have HBA := Lib.hid hba
          have HBN := Lib.hid hbn
          have HXA := Lib.hid hxa
          have HBE := Lib.hid hB
          clear hwa hsa hba hbn hxa hB
          refine hK _ _ (HSm.out _ HSA.out) ?_
          conv =>
            arg 8
            simp [Act.put]
          clear hK K
          have HDA := Lib.hid (HDQ.out.stay0 HXA.out)
          refine wpAnyH_one #[true, true, true, true, true, true, true, true, true, true, true, true, true, true, true, true, true, true, true, true, true, true, false] (i := 21) rfl (by kernel_rfl) (by kernel_rfl) (fun K hK => ?_)
          refine step_store_box rfl (.tmp 13) (.tmp 68) rfl B rfl y1 y2 y3 _ _ _ r1 zeroR rfl HDQ.out.one HBA.out ?_
          intro wz hz sz
          have HSZ := Lib.hid (show Stay (fun _ => False) wr wz from stay_seal (X := fun j => j = B) (((HSA.out).mono (fun _ y => y.elim)).trans sz) (fun j e => by have := HBN.out; have := HBE.out; omega))
          have HZB := Lib.hid hz
          have HDZ := Lib.hid (HDA.out.stayB sz (fun j hj (e : j = B) => by have := HDQ.out.lt HROK1.out HN0.out j hj; have := HBE.out; omega))
          clear hz sz
          refine hK _ _ (HSm.out _ HSZ.out) ?_
          conv =>
            arg 8
            simp [Act.put]
          clear hK K
          refine wpAnyH_takeL (i := 22) (v := .int .i64 (c1 : Nat)) #[true, true, true, true, true, true, true, true, true, true, true, true, true, true, true, true, true, true, true, true, true, true, true] rfl (by kernel_rfl) (by kernel_rfl) (by kernel_rfl) (fun _ _ _ h => h) (by kernel_rfl) (HSm.out _ HSZ.out) (Or.inl ⟨by rfl, fun W hW => ?_⟩) ?_
          · go_simp
          conv =>
            arg 8
            simp [Act.put]
          refine wpAnyH_done (by kernel_rfl) ?_ _
          have HS5 := Lib.hid (HST4.out.stay0 HSZ.out)
          have HFAR := Lib.hid (show ∀ j, blk3 y1 y2 y3 j → (j < w.heap.size ∧ blk3 v1 v2 v3 j) ∨ w.heap.size + 3 ≤ j from fun j hj => (HFQ.out j hj).elim (fun q => .inr (Nat.le_trans HST4.out.sz q)) (HST4.out.far j))
          have HOY := Lib.hid HDZ.out.one
          have hcase : (c1 ≠ 0 ∧ ((c1 : Int) == 0) = false) ∨ c1 = 0 := by
            by_cases e : c1 = 0
            · exact .inr e
            · exact .inl ⟨e, beq_eq_false_iff_ne.2 (by omega)⟩
          rcases hcase with ⟨hcn, hcb⟩ | hcz
          · have HCN := Lib.hid hcn
            clear hcn
            go_wp2_with (first
              | (refine load_box rfl (.tmp 13) rfl B rfl _ _ _ _ HZB.out ?_)
              | (refine store_box rfl (.tmp 3) (.tmp 70) rfl w.heap.size rfl y1 y2 y3 _ _ _ r1 _ rfl HOY.out HS5.out.box ?_
                 intro w7 hb7 s7
                 have HB7 := Lib.hid hb7
                 have HR7 := Lib.hid (HS5.out.res.stay s7 (fun (e : w.heap.size + 2 = w.heap.size) => by omega))
                 have HS7 := Lib.hid s7
                 clear hb7 s7)
              | (refine load_box rfl (.tmp 3) rfl w.heap.size rfl _ _ _ _ HB7.out ?_)
              | (refine store_box rfl (.tmp 6) (.tmp 73) rfl (w.heap.size + 2) rfl y1 y2 y3 _ _ _ r1 _ rfl HOY.out HR7.out ?_
                 intro wE hE sE
                 have HE := Lib.hid hE
                 have SE := Lib.hid sE
                 clear hE sE))
            have hld := run_load_box HE.out
            refine bodyPost_ret (v := .tuple #[devV y1 y2 y3 r1, .int .i64 (c1 : Nat)]) (by simp [results, Tryz.results18, asAddr, hld]) rfl ?_
            have hx : Stay (fun j => j = w.heap.size ∨ j = w.heap.size + 2) wz wE := (HS7.out.mono (fun j e => .inl e)).trans (SE.out.mono (fun j e => .inr e))
            have hstop := wrAll_stop l d (pl : Int) k HK.out (by rw [← HC1.out]; exact HCN.out)
            have e9 : saveAt d f s l 0 (!false) = writesD l d (pl : Int) (List.range (k + 1)) := by rw [HSV.out, hstop, if_pos (by rw [← HC1.out]; exact HCN.out)]
            rw [e9]
            exact ⟨y1, y2, y3, r1, by rw [← HC1.out]; rfl, HDZ.out.stayB hx (fun j hj e => by have := HFAR.out j hj; omega), HSIM1.out, HROK1.out.mono (by omega), (fun j hj => (HFAR.out j hj).elim (fun q => .inr q.2) (fun q => .inl (by omega))), stay_seal (X := fun j => w.heap.size ≤ j) ((HS5.out.st).trans (hx.mono (fun j e => by omega))) (fun _ hk => hk)⟩
          · subst hcz
            go_wp2_with (first
              | (refine load_box rfl (.tmp 13) rfl B rfl _ _ _ _ HZB.out ?_)
              | (refine store_box rfl (.tmp 3) (.tmp 70) rfl w.heap.size rfl y1 y2 y3 _ _ _ r1 _ rfl HOY.out HS5.out.box ?_
                 intro w7 hb7 s7
                 have HST7 := Lib.hid (HS5.out.next hb7 s7 HDZ.out HSIM1.out (show ROk d.n (b + (k + 1 : Nat)) r1 from HROK1.out.mono (by omega)) HFAR.out)
                 clear hb7 s7))
            have hk2 := HK.out
            first
              | exact ⟨⟨k + 1, y1, y2, y3, r1, by omega, by go_num, HST7.out, HC1.out.symm⟩, by simp [intOf]; omega⟩
              | (go_round
                 case rel => exact ⟨k + 1, y1, y2, y3, r1, by omega, by go_num, HST7.out, HC1.out.symm⟩
                 case measure => simp [intOf]; omega)
        · skip
          go_simp
          obtain ⟨wa, hwa⟩ : ∃ W, (wp.alloc (.cells #[.slice none 0 0, .slice none 0 0, .slice none 0 0, .int .i64 0, .bool false, .int .i64 0, .bool false, .bool false] 33)) = W := ⟨_, rfl⟩
          have hsa : Stay (fun _ => False) wr wa := hwa ▸ ((HSP.out).trans (Stay.alloc _ _))
          have hba : BoxAt wa wp.heap.size (.slice none 0 0) (.slice none 0 0) (.slice none 0 0) zeroR := hwa ▸ heap_alloc_new wp _
          have hbn : wr.heap.size ≤ wp.heap.size := (HSP.out).size
          have hxa : Stay (fun _ => False) wp wa := hwa ▸ Stay.alloc _ _
          rw [hwa]
          obtain ⟨B, hB⟩ : ∃ B, wp.heap.size = B := ⟨_, rfl⟩
          rw [hB] at hba hbn ⊢
          have HSA := Lib.hid hsa
          have HBA := Lib.hid hba
          have HBN := Lib.hid hbn
          have HXA := Lib.hid hxa
          have HBE := Lib.hid hB
          clear hwa hsa hba hbn hxa hB
          refine hK _ _ (HSm.out _ HSA.out) ?_
          conv =>
            arg 8
            simp [Act.put]
          clear hK K
          refine wpAnyH_one #[true, true, true, true, true, true, true, true, true, true, true, true, true, true, true, true, true, false, false, false, true, false, false] (i := 16) rfl (by kernel_rfl) (by kernel_rfl) (fun K hK => ?_)
          go_simp
          go_wp2_with (
            go_at_call 8
            refine (HWRT.out _ HSA.out).mono ?_
            rintro e wq ⟨y1, y2, y3, rfl, hdq, hfq, hsq⟩
            have HDQ := Lib.hid hdq
            have HFQ := Lib.hid (show ∀ k, blk3 y1 y2 y3 k → wr.heap.size ≤ k ∨ blk3 u1 u2 u3 k from fun j hj => (hfq j hj).imp (fun q => Nat.le_trans (HSA.out).size q) id)
            have HFB := Lib.hid (show ∀ j, blk3 y1 y2 y3 j → j ≠ B from fun j hj => (hfq j hj).elim (fun q => by have := lt_of_block HBA.out; omega) (fun q => by have := HST4.out.dv.lt HST4.out.ok HN0.out j q; have := HBN.out; have := HBE.out; omega))
            have HSAQ := Lib.hid (show Stay (fun _ => False) wa wq from hsq)
            have HSQ := Lib.hid (show Stay (fun _ => False) wr wq from (HSA.out).trans hsq)
            clear hdq hfq hsq)
          refine hK _ _ (HSm.out _ HSQ.out) ?_
          conv =>
            arg 8
            simp [Act.put]
          clear hK K
          refine wpAnyH_takeL (i := 17) (v := .tuple #[devV y1 y2 y3 r1, .int .i64 (c1 : Nat)]) #[true, true, true, true, true, true, true, true, true, true, true, true, true, true, true, true, true, true, false, false, true, false, false] rfl (by kernel_rfl) (by kernel_rfl) (by kernel_rfl) (fun _ _ _ h => h) (by kernel_rfl) (HSm.out _ HSQ.out) (Or.inl ⟨by rfl, fun W hW => ?_⟩) ?_
          · go_simp
          conv =>
            arg 8
            simp [Act.put]
          refine wpAnyH_takeL (i := 18) (v := devV y1 y2 y3 r1) #[true, true, true, true, true, true, true, true, true, true, true, true, true, true, true, true, true, true, true, false, true, false, false] rfl (by kernel_rfl) (by kernel_rfl) (by kernel_rfl) (fun _ _ _ h => h) (by kernel_rfl) (HSm.out _ HSQ.out) (Or.inl ⟨by rfl, fun W hW => ?_⟩) ?_
          · go_simp
          conv =>
            arg 8
            simp [Act.put]
          refine wpAnyH_takeL (i := 19) (v := .int .i64 (c1 : Nat)) #[true, true, true, true, true, true, true, true, true, true, true, true, true, true, true, true, true, true, true, true, true, false, false] rfl (by kernel_rfl) (by kernel_rfl) (by kernel_rfl) (fun _ _ _ h => h) (by kernel_rfl) (HSm.out _ HSQ.out) (Or.inl ⟨by rfl, fun W hW => ?_⟩) ?_
          · go_simp
          conv =>
            arg 8
            simp [Act.put]
          refine wpAnyH_one #[true, true, true, true, true, true, true, true, true, true, true, true, true, true, true, true, true, true, true, true, true, true, false] (i := 21) rfl (by kernel_rfl) (by kernel_rfl) (fun K hK => ?_)
          refine step_store_box rfl (.tmp 13) (.tmp 68) rfl B rfl y1 y2 y3 _ _ _ r1 zeroR rfl HDQ.out.one (HBA.out.stay HSAQ.out (fun y => y)) ?_
          intro wz hz sz
          have HSZ := Lib.hid (show Stay (fun _ => False) wr wz from stay_seal (X := fun j => j = B) (((HSQ.out).mono (fun _ y => y.elim)).trans sz) (fun j e => by have := HBN.out; have := HBE.out; omega))
          have HZB := Lib.hid hz
          have HDZ := Lib.hid (HDQ.out.stayB sz (fun j hj (e : j = B) => by have := HFB.out j hj; exact this e))
          clear hz sz
          refine hK _ _ (HSm.out _ HSZ.out) ?_
          conv =>
            arg 8
            simp [Act.put]
          clear hK K
          refine wpAnyH_takeL (i := 22) (v := .int .i64 (c1 : Nat)) #[true, true, true, true, true, true, true, true, true, true, true, true, true, true, true, true, true, true, true, true, true, true, true] rfl (by kernel_rfl) (by kernel_rfl) (by kernel_rfl) (fun _ _ _ h => h) (by kernel_rfl) (HSm.out _ HSZ.out) (Or.inl ⟨by rfl, fun W hW => ?_⟩) ?_
          · go_simp
          conv =>
            arg 8
            simp [Act.put]
          refine wpAnyH_done (by kernel_rfl) ?_ _
          have HS5 := Lib.hid (HST4.out.stay0 HSZ.out)
          have HFAR := Lib.hid (show ∀ j, blk3 y1 y2 y3 j → (j < w.heap.size ∧ blk3 v1 v2 v3 j) ∨ w.heap.size + 3 ≤ j from fun j hj => (HFQ.out j hj).elim (fun q => .inr (Nat.le_trans HST4.out.sz q)) (HST4.out.far j))
          have HOY := Lib.hid HDZ.out.one
          have hcase : (c1 ≠ 0 ∧ ((c1 : Int) == 0) = false) ∨ c1 = 0 := by
            by_cases e : c1 = 0
            · exact .inr e
            · exact .inl ⟨e, beq_eq_false_iff_ne.2 (by omega)⟩
          rcases hcase with ⟨hcn, hcb⟩ | hcz
          · have HCN := Lib.hid hcn
            clear hcn
            go_wp2_with (first
              | (refine load_box rfl (.tmp 13) rfl B rfl _ _ _ _ HZB.out ?_)
              | (refine store_box rfl (.tmp 3) (.tmp 70) rfl w.heap.size rfl y1 y2 y3 _ _ _ r1 _ rfl HOY.out HS5.out.box ?_
                 intro w7 hb7 s7
                 have HB7 := Lib.hid hb7
                 have HR7 := Lib.hid (HS5.out.res.stay s7 (fun (e : w.heap.size + 2 = w.heap.size) => by omega))
                 have HS7 := Lib.hid s7
                 clear hb7 s7)
              | (refine load_box rfl (.tmp 3) rfl w.heap.size rfl _ _ _ _ HB7.out ?_)
              | (refine store_box rfl (.tmp 6) (.tmp 73) rfl (w.heap.size + 2) rfl y1 y2 y3 _ _ _ r1 _ rfl HOY.out HR7.out ?_
                 intro wE hE sE
                 have HE := Lib.hid hE
                 have SE := Lib.hid sE
                 clear hE sE))
            have hld := run_load_box HE.out
            refine bodyPost_ret (v := .tuple #[devV y1 y2 y3 r1, .int .i64 (c1 : Nat)]) (by simp [results, Tryz.results18, asAddr, hld]) rfl ?_
            have hx : Stay (fun j => j = w.heap.size ∨ j = w.heap.size + 2) wz wE := (HS7.out.mono (fun j e => .inl e)).trans (SE.out.mono (fun j e => .inr e))
            have hstop := wrAll_stop l d (pl : Int) k HK.out (by rw [← HC1.out]; exact HCN.out)
            have e9 : saveAt d f s l 0 (!false) = writesD l d (pl : Int) (List.range (k + 1)) := by rw [HSV.out, hstop, if_pos (by rw [← HC1.out]; exact HCN.out)]
            rw [e9]
            exact ⟨y1, y2, y3, r1, by rw [← HC1.out]; rfl, HDZ.out.stayB hx (fun j hj e => by have := HFAR.out j hj; omega), HSIM1.out, HROK1.out.mono (by omega), (fun j hj => (HFAR.out j hj).elim (fun q => .inr q.2) (fun q => .inl (by omega))), stay_seal (X := fun j => w.heap.size ≤ j) ((HS5.out.st).trans (hx.mono (fun j e => by omega))) (fun _ hk => hk)⟩
          · subst hcz
            go_wp2_with (first
              | (refine load_box rfl (.tmp 13) rfl B rfl _ _ _ _ HZB.out ?_)
              | (refine store_box rfl (.tmp 3) (.tmp 70) rfl w.heap.size rfl y1 y2 y3 _ _ _ r1 _ rfl HOY.out HS5.out.box ?_
                 intro w7 hb7 s7
                 have HST7 := Lib.hid (HS5.out.next hb7 s7 HDZ.out HSIM1.out (show ROk d.n (b + (k + 1 : Nat)) r1 from HROK1.out.mono (by omega)) HFAR.out)
                 clear hb7 s7))
            have hk2 := HK.out
            first
              | exact ⟨⟨k + 1, y1, y2, y3, r1, by omega, by go_num, HST7.out, HC1.out.symm⟩, by simp [intOf]; omega⟩
              | (go_round
                 case rel => exact ⟨k + 1, y1, y2, y3, r1, by omega, by go_num, HST7.out, HC1.out.symm⟩
                 case measure => simp [intOf]; omega)
      · skip
        go_simp
        obtain ⟨wa, hwa⟩ : ∃ W, (wr.alloc (.cells #[.slice none 0 0, .slice none 0 0, .slice none 0 0, .int .i64 0, .bool false, .int .i64 0, .bool false, .bool false] 33)).drew = W := ⟨_, rfl⟩
        have hsa : Stay (fun _ => False) wr wa := hwa ▸ ((Stay.alloc wr _).trans Stay.drew)
        have hba : BoxAt wa wr.heap.size (.slice none 0 0) (.slice none 0 0) (.slice none 0 0) zeroR := hwa ▸ heap_alloc_new wr _
        have hbn : wr.heap.size ≤ wr.heap.size := Nat.le_refl _
        have hxa : Stay (fun _ => False) wr wa := hwa ▸ ((Stay.alloc wr _).trans Stay.drew)
        rw [hwa]
        obtain ⟨B, hB⟩ : ∃ B, wr.heap.size = B := ⟨_, rfl⟩
        rw [hB] at hba hbn ⊢
        have HSA := Lib.hid hsa
        have HBA := Lib.hid hba
        have HBN := Lib.hid hbn
        have HXA := Lib.hid hxa
        have HBE := Lib.hid hB
        clear hwa hsa hba hbn hxa hB
        refine hK _ _ (HSm.out _ HSA.out) ?_
        conv =>
          arg 8
          simp [Act.put]
        clear hK K
        refine wpAnyH_one #[true, true, true, true, true, false, true, true, true, true, true, true, true, true, true, true, false, false, false, false, true, false, false] (i := 3) rfl (by kernel_rfl) (by kernel_rfl) (fun K hK => ?_)
        go_simp
        go_wp2_with (
          go_at_call 41
          refine (HPL.out _).mono ?_
          rintro e wp ⟨rfl, hsp⟩
          have HSP := Lib.hid (show Stay (fun _ => False) wr wp from HSA.out.trans hsp)
          have HAP := Lib.hid hsp
          clear hsp)
        refine hK _ _ (HSm.out _ HSP.out) ?_
        conv =>
          arg 8
          simp [Act.put]
        clear hK K
        refine wpAnyH_takeL (i := 5) (v := .int .i64 ((pl : Int) + (k : Int))) #[true, true, true, true, true, true, true, true, true, true, true, true, true, true, true, true, false, false, false, false, true, false, false] rfl (by kernel_rfl) (by kernel_rfl) (by kernel_rfl) (fun _ _ _ h => h) (by kernel_rfl) (HSm.out _ HSP.out) (Or.inl ⟨by rfl, fun W hW => ?_⟩) ?_
        · have q := HWR1.out
          go_simp
        conv =>
          arg 8
          simp [Act.put]
        refine wpAnyH_one #[true, true, true, true, true, true, true, true, true, true, true, true, true, true, true, true, true, false, false, false, true, false, false] (i := 16) rfl (by kernel_rfl) (by kernel_rfl) (fun K hK => ?_)
        go_simp
        go_wp2_with (
          go_at_call 8
          refine (HWRT.out _ HSP.out).mono ?_
          rintro e wq ⟨y1, y2, y3, rfl, hdq, hfq, hsq⟩
          have HDQ := Lib.hid hdq
          have HFQ := Lib.hid (show ∀ k, blk3 y1 y2 y3 k → wr.heap.size ≤ k ∨ blk3 u1 u2 u3 k from fun j hj => (hfq j hj).imp (fun q => Nat.le_trans (HSP.out).size q) id)
          have HFB := Lib.hid (show ∀ j, blk3 y1 y2 y3 j → j ≠ B from fun j hj => (hfq j hj).elim (fun q => by have := lt_of_block (HBA.out.stay HAP.out (fun y => y)); omega) (fun q => by have := HST4.out.dv.lt HST4.out.ok HN0.out j q; have := HBN.out; have := HBE.out; omega))
          have HSAQ := Lib.hid (show Stay (fun _ => False) wa wq from HAP.out.trans hsq)
          have HSQ := Lib.hid (show Stay (fun _ => False) wr wq from (HSP.out).trans hsq)
          clear hdq hfq hsq)
        refine hK _ _ (HSm.out _ HSQ.out) ?_
        conv =>
          arg 8
          simp [Act.put]
        clear hK K
        refine wpAnyH_takeL (i := 17) (v := .tuple #[devV y1 y2 y3 r1, .int .i64 (c1 : Nat)]) #[true, true, true, true, true, true, true, true, true, true, true, true, true, true, true, true, true, true, false, false, true, false, false] rfl (by kernel_rfl) (by kernel_rfl) (by kernel_rfl) (fun _ _ _ h => h) (by kernel_rfl) (HSm.out _ HSQ.out) (Or.inl ⟨by rfl, fun W hW => ?_⟩) ?_
        · go_simp
        conv =>
          arg 8
          simp [Act.put]
        refine wpAnyH_takeL (i := 18) (v := devV y1 y2 y3 r1) #[true, true, true, true, true, true, true, true, true, true, true, true, true, true, true, true, true, true, true, false, true, false, false] rfl (by kernel_rfl) (by kernel_rfl) (by kernel_rfl) (fun _ _ _ h => h) (by kernel_rfl) (HSm.out _ HSQ.out) (Or.inl ⟨by rfl, fun W hW => ?_⟩) ?_
        · go_simp
        conv =>
          arg 8
          simp [Act.put]
        refine wpAnyH_takeL (i := 19) (v := .int .i64 (c1 : Nat)) #[true, true, true, true, true, true, true, true, true, true, true, true, true, true, true, true, true, true, true, true, true, false, false] rfl (by kernel_rfl) (by kernel_rfl) (by kernel_rfl) (fun _ _ _ h => h) (by kernel_rfl) (HSm.out _ HSQ.out) (Or.inl ⟨by rfl, fun W hW => ?_⟩) ?_
        · go_simp
        conv =>
          arg 8
          simp [Act.put]
        refine wpAnyH_one #[true, true, true, true, true, true, true, true, true, true, true, true, true, true, true, true, true, true, true, true, true, true, false] (i := 21) rfl (by kernel_rfl) (by kernel_rfl) (fun K hK => ?_)
        refine step_store_box rfl (.tmp 13) (.tmp 68) rfl B rfl y1 y2 y3 _ _ _ r1 zeroR rfl HDQ.out.one (HBA.out.stay HSAQ.out (fun y => y)) ?_
        intro wz hz sz
        have HSZ := Lib.hid (show Stay (fun _ => False) wr wz from stay_seal (X := fun j => j = B) (((HSQ.out).mono (fun _ y => y.elim)).trans sz) (fun j e => by have := HBN.out; have := HBE.out; omega))
        have HZB := Lib.hid hz
        have HDZ := Lib.hid (HDQ.out.stayB sz (fun j hj (e : j = B) => by have := HFB.out j hj; exact this e))
        clear hz sz
        refine hK _ _ (HSm.out _ HSZ.out) ?_
        conv =>
          arg 8
          simp [Act.put]
        clear hK K
        refine wpAnyH_takeL (i := 22) (v := .int .i64 (c1 : Nat)) #[true, true, true, true, true, true, true, true, true, true, true, true, true, true, true, true, true, true, true, true, true, true, true] rfl (by kernel_rfl) (by kernel_rfl) (by kernel_rfl) (fun _ _ _ h => h) (by kernel_rfl) (HSm.out _ HSZ.out) (Or.inl ⟨by rfl, fun W hW => ?_⟩) ?_
        · go_simp
        conv =>
          arg 8
          simp [Act.put]
        refine wpAnyH_done (by kernel_rfl) ?_ _
        have HS5 := Lib.hid (HST4.out.stay0 HSZ.out)
        have HFAR := Lib.hid (show ∀ j, blk3 y1 y2 y3 j → (j < w.heap.size ∧ blk3 v1 v2 v3 j) ∨ w.heap.size + 3 ≤ j from fun j hj => (HFQ.out j hj).elim (fun q => .inr (Nat.le_trans HST4.out.sz q)) (HST4.out.far j))
        have HOY := Lib.hid HDZ.out.one
        have hcase : (c1 ≠ 0 ∧ ((c1 : Int) == 0) = false) ∨ c1 = 0 := by
          by_cases e : c1 = 0
          · exact .inr e
          · exact .inl ⟨e, beq_eq_false_iff_ne.2 (by omega)⟩
        rcases hcase with ⟨hcn, hcb⟩ | hcz
        · have HCN := Lib.hid hcn
          clear hcn
          go_wp2_with (first
            | (refine load_box rfl (.tmp 13) rfl B rfl _ _ _ _ HZB.out ?_)
            | (refine store_box rfl (.tmp 3) (.tmp 70) rfl w.heap.size rfl y1 y2 y3 _ _ _ r1 _ rfl HOY.out HS5.out.box ?_
               intro w7 hb7 s7
               have HB7 := Lib.hid hb7
               have HR7 := Lib.hid (HS5.out.res.stay s7 (fun (e : w.heap.size + 2 = w.heap.size) => by omega))
               have HS7 := Lib.hid s7
               clear hb7 s7)
            | (refine load_box rfl (.tmp 3) rfl w.heap.size rfl _ _ _ _ HB7.out ?_)
            | (refine store_box rfl (.tmp 6) (.tmp 73) rfl (w.heap.size + 2) rfl y1 y2 y3 _ _ _ r1 _ rfl HOY.out HR7.out ?_
               intro wE hE sE
               have HE := Lib.hid hE
               have SE := Lib.hid sE
               clear hE sE))
          have hld := run_load_box HE.out
          refine bodyPost_ret (v := .tuple #[devV y1 y2 y3 r1, .int .i64 (c1 : Nat)]) (by simp [results, Tryz.results18, asAddr, hld]) rfl ?_
          have hx : Stay (fun j => j = w.heap.size ∨ j = w.heap.size + 2) wz wE := (HS7.out.mono (fun j e => .inl e)).trans (SE.out.mono (fun j e => .inr e))
          have hstop := wrAll_stop l d (pl : Int) k HK.out (by rw [← HC1.out]; exact HCN.out)
          have e9 : saveAt d f s l 0 (!false) = writesD l d (pl : Int) (List.range (k + 1)) := by rw [HSV.out, hstop, if_pos (by rw [← HC1.out]; exact HCN.out)]
          rw [e9]
          exact ⟨y1, y2, y3, r1, by rw [← HC1.out]; rfl, HDZ.out.stayB hx (fun j hj e => by have := HFAR.out j hj; omega), HSIM1.out, HROK1.out.mono (by omega), (fun j hj => (HFAR.out j hj).elim (fun q => .inr q.2) (fun q => .inl (by omega))), stay_seal (X := fun j => w.heap.size ≤ j) ((HS5.out.st).trans (hx.mono (fun j e => by omega))) (fun _ hk => hk)⟩
        · subst hcz
          go_wp2_with (first
            | (refine load_box rfl (.tmp 13) rfl B rfl _ _ _ _ HZB.out ?_)
            | (refine store_box rfl (.tmp 3) (.tmp 70) rfl w.heap.size rfl y1 y2 y3 _ _ _ r1 _ rfl HOY.out HS5.out.box ?_
               intro w7 hb7 s7
               have HST7 := Lib.hid (HS5.out.next hb7 s7 HDZ.out HSIM1.out (show ROk d.n (b + (k + 1 : Nat)) r1 from HROK1.out.mono (by omega)) HFAR.out)
               clear hb7 s7))
          have hk2 := HK.out
          first
            | exact ⟨⟨k + 1, y1, y2, y3, r1, by omega, by go_num, HST7.out, HC1.out.symm⟩, by simp [intOf]; omega⟩
            | (go_round
               case rel => exact ⟨k + 1, y1, y2, y3, r1, by omega, by go_num, HST7.out, HC1.out.symm⟩
               case measure => simp [intOf]; omega)
    · obtain rfl : k = parts l.length := by omega
      have q0 : ¬ 64 * (parts l.length : Int) < (l.length : Int) := by unfold parts; omega
      have hwr2 : IntKind.i64.wrap (64 * (parts l.length : Int)) = 64 * (parts l.length : Int) := IntWalk.i64_in _ (by unfold parts; omega)
      have HPB := Lib.hid (show (parts l.length : Int) ≤ 16400 by unfold parts; have := HLEN.out; omega)
      have HST4 := Lib.hid hst
      have hfl := fun W (hW : Stay (fun _ => False) wr W) => rflush_any W u1 u2 u3 rk d.n _ (hst.dv.stay0 hW) hst.ok HN0.out hn
      have hsf := sim_flush hst.sim
      have hrf := rok_flush hst.ok
      have e0 := flush_all_of hcode
      obtain ⟨r1, hr1⟩ : ∃ r1, (flushR rk).1 = r1 := ⟨_, rfl⟩
      obtain ⟨c1, hc1⟩ : ∃ c1, (flushR rk).2 = c1 := ⟨_, rfl⟩
      rw [hr1, hc1] at hfl
      rw [hr1] at hrf hsf
      rw [hc1, ← e0] at hsf
      have HFL := Lib.hid hfl
      have HSF := Lib.hid hsf
      have HRF := Lib.hid hrf
      clear hfl hsf hrf e0 hr1 hc1 hst hcode
      go_wp2_with (refine load_box rfl (.tmp 3) rfl w.heap.size rfl _ _ _ _ HST4.out.box ?_)
      refine (HFL.out wr (Stay.refl _ _)).mono ?_
      rintro e wf ⟨y1, y2, y3, rfl, hdf, hff, hsf⟩
      have HDF := Lib.hid hdf
      have HOF := Lib.hid hdf.one
      have HFF := Lib.hid (show ∀ j, blk3 y1 y2 y3 j → (j < w.heap.size ∧ blk3 v1 v2 v3 j) ∨ w.heap.size + 3 ≤ j from fun j hj => (hff j hj).elim (fun q => .inr (Nat.le_trans HST4.out.sz q)) (HST4.out.far j))
      have HS5 := Lib.hid (HST4.out.stay0 hsf)
      clear hdf hff hsf hwr2
      have hcase : (c1 ≠ 0 ∧ ((c1 : Int) == 0) = false) ∨ c1 = 0 := by
        by_cases e : c1 = 0
        · exact .inr e
        · exact .inl ⟨e, beq_eq_false_iff_ne.2 (by omega)⟩
      rcases hcase with ⟨hcn, hcb⟩ | hcz
      · have HCN := Lib.hid hcn
        clear hcn
        go_wp2_with (first
          | (refine store_box rfl (.tmp 3) (.tmp 78) rfl w.heap.size rfl y1 y2 y3 _ _ _ r1 _ rfl HOF.out HS5.out.box ?_
             intro w7 hb7 s7
             have HST7 := Lib.hid (HS5.out.next hb7 s7 HDF.out HSF.out.1 HRF.out HFF.out)
             clear hb7 s7)
          | (refine load_box rfl (.tmp 3) rfl w.heap.size rfl _ _ _ _ HST7.out.box ?_)
          | (refine store_box rfl (.tmp 6) (.tmp 82) rfl (w.heap.size + 2) rfl _ _ _ _ _ _ _ _ rfl HOF.out HST7.out.res ?_
             intro wE hE sE
             have HE := Lib.hid hE
             have SE := Lib.hid sE
             clear hE sE))
        have hld := run_load_box HE.out
        refine bodyPost_ret (v := .tuple #[devV y1 y2 y3 r1, .int .i64 (c1 : Nat)]) (by simp [results, Tryz.results18, asAddr, hld]) rfl ?_
        have e9 := HSV.out
        rw [if_pos (by rw [← HSF.out.2]; exact HCN.out)] at e9
        rw [e9]
        exact ⟨y1, y2, y3, r1, by rw [← HSF.out.2]; rfl, HST7.out.dv.stayB SE.out (fun j hj (e : j = w.heap.size + 2) => by have := HST7.out.far j hj; omega), HSF.out.1, HRF.out.mono (by have := HPB.out; omega), (fun j hj => (HFF.out j hj).elim (fun q => .inr q.2) (fun q => .inl (by omega))), stay_seal (X := fun j => w.heap.size ≤ j) (HST7.out.st.trans (SE.out.mono (fun j (e : j = w.heap.size + 2) => by omega))) (fun _ hk => hk)⟩
      · subst hcz
        go_wp2_with (
          refine store_box rfl (.tmp 3) (.tmp 78) rfl w.heap.size rfl y1 y2 y3 _ _ _ r1 _ rfl HOF.out HS5.out.box ?_
          intro w7 hb7 s7
          have HST7 := Lib.hid (HS5.out.next hb7 s7 HDF.out HSF.out.1 HRF.out HFF.out)
          clear hb7 s7)
        have e9 := HSV.out
        rw [if_neg (fun q => q HSF.out.2.symm), tell_all] at e9
        have hwt := fun W (hW : Stay (fun _ => False) w7 W) => rwrite_any W y1 y2 y3 r1 d.n _ f (tellB (0 + 1) false l.length) (HST7.out.dv.stay0 hW) HST7.out.ok (by have := HB0.out; have := HPB.out; omega) HN0.out hn hf (by have := length_tellB (0 + 1) false l.length; omega)
        have hs2 := sim_write HST7.out.sim f (tellB (0 + 1) false l.length)
        have hr2 := rok_write HST7.out.ok f (tellB (0 + 1) false l.length)
        obtain ⟨r2, hr2'⟩ : ∃ r2, (writeR r1 f (tellB (0 + 1) false l.length)).1 = r2 := ⟨_, rfl⟩
        obtain ⟨c2, hc2'⟩ : ∃ c2, (writeR r1 f (tellB (0 + 1) false l.length)).2 = c2 := ⟨_, rfl⟩
        rw [hr2', hc2'] at hwt
        rw [hr2'] at hs2 hr2
        rw [hc2'] at hs2
        have HWT := Lib.hid hwt
        have HSIM2 := Lib.hid hs2.1
        have HC2 := Lib.hid hs2.2
        have HROK2 := Lib.hid hr2
        have HSV2 := Lib.hid e9
        have hwn : IntKind.u64.wrap ((0 : Int) + 1) = (0 : Int) + 1 := IntWalk.u64_in _ (by have := HTN.out; omega)
        clear hwt hs2 hr2 hr2' hc2' e9
        go_wp2_with fail
        refine wp_region_any (by kernel_rfl) ?_
        change wpAny _ _ _ _ _ _ _ (World.drew _)
        refine wpAny_takeL (i := 1) (v := .pointer (some ⟨w.heap.size + 1, 0, none⟩)) #[false, true, false, false, false, false, false, false, false, false, false, false, false, false, false, false] rfl (by kernel_rfl) (by kernel_rfl) (by kernel_rfl) (fun _ _ _ h => h) (by kernel_rfl) (Or.inl ⟨by rfl, fun W => ?_⟩) ?_
        · go_simp
        conv =>
          arg 7
          simp [Act.put]
        refine wpAny_takeL (i := 3) (v := .int .u64 (0 : Int)) #[false, true, false, true, false, false, false, false, false, false, false, false, false, false, false, false] rfl (by kernel_rfl) (by kernel_rfl) (by kernel_rfl) (fun _ _ _ h => h) (by kernel_rfl) (Or.inl ⟨by rfl, fun W => ?_⟩) ?_
        · go_simp
        conv =>
          arg 7
          simp [Act.put]
        refine wpAny_takeL (i := 4) (v := .int .u64 ((0 : Int) + 1)) #[false, true, false, true, true, false, false, false, false, false, false, false, false, false, false, false] rfl (by kernel_rfl) (by kernel_rfl) (by kernel_rfl) (fun _ _ _ h => h) (by kernel_rfl) (Or.inl ⟨by rfl, fun W => ?_⟩) ?_
        · have q := hwn
          go_simp
          all_goals exact IntWalk.u64_in _ (by omega)
        conv =>
          arg 7
          simp [Act.put]
        refine wpAny_takeL (i := 5) (v := .bool false) #[false, true, false, true, true, true, false, false, false, false, false, false, false, false, false, false] rfl (by kernel_rfl) (by kernel_rfl) (by kernel_rfl) (fun _ _ _ h => h) (by kernel_rfl) (Or.inl ⟨by rfl, fun W => ?_⟩) ?_
        · go_simp
        conv =>
          arg 7
          simp [Act.put]
        refine wpAny_takeL (i := 6) (v := .string ⟨l.toArray⟩) #[false, true, false, true, true, true, true, false, false, false, false, false, false, false, false, false] rfl (by kernel_rfl) (by kernel_rfl) (by kernel_rfl) (fun _ _ _ h => h) (by kernel_rfl) (Or.inl ⟨by rfl, fun W => ?_⟩) ?_
        · go_simp
        conv =>
          arg 7
          simp [Act.put]
        refine wpAny_takeL (i := 7) (v := .int .i64 (l.length : Int)) #[false, true, false, true, true, true, true, true, false, false, false, false, false, false, false, false] rfl (by kernel_rfl) (by kernel_rfl) (by kernel_rfl) (fun _ _ _ h => h) (by kernel_rfl) (Or.inl ⟨by rfl, fun W => ?_⟩) ?_
        · go_simp
        conv =>
          arg 7
          simp [Act.put]
        refine wpAny_ready (rs := [0, 2, 8]) (by kernel_rfl) (by simp) (AllReady.cons rfl (fun K hK => ?_) (AllReady.cons rfl (fun K hK => ?_) (AllReady.cons rfl (fun K hK => ?_) (AllReady.nil))))
        · skip
          refine step_load_box rfl (.tmp 3) rfl w.heap.size rfl y1 y2 y3 r1 (HST7.out.box.stay (Stay.drew (X := fun _ => False) (w := w7)) (fun y => y)) ?_
          refine hK _ _ ?_
          conv =>
            arg 7
            simp [Act.put]
          clear hK K
          refine wpAny_listed #[true, true, false, true, true, true, true, true, false, false, false, false, false, false, false, false] (by kernel_rfl) ?_
          refine wpAny_ready (rs := [2, 8]) (by kernel_rfl) (by simp) (AllReady.cons rfl (fun K hK => ?_) (AllReady.cons rfl (fun K hK => ?_) (AllReady.nil)))
          · skip
            have q := (HST7.out.ar.stay (Stay.drew (X := fun _ => False) (w := w7)) (fun y => y)).c0
            go_simp
            refine hK _ _ ?_
            conv =>
              arg 7
              simp [Act.put]
            clear hK K q
            refine wpAny_listed #[true, true, true, true, true, true, true, true, false, false, false, false, false, false, false, false] (by kernel_rfl) ?_
            refine wpAny_ready (rs := [8]) (by kernel_rfl) (by simp) (AllReady.cons rfl (fun K hK => ?_) (AllReady.nil))
            go_simp
            go_wp2_with (
              go_at_call 43
              refine (rteller_at (0 + 1) l.length _ (by omega) false _ (by have := HTN.out; omega) (by have := HLEN.out; omega)).mono ?_
              rintro e wt ⟨vt, rfl, hot, hst⟩
              have HOT := Lib.hid hot.slc
              have HTT := Lib.hid ((Stay.drew (X := fun _ => False) (w := w7)).trans hst)
              clear hot hst)
            refine wpAny_listed #[true, true, true, true, true, true, true, true, true, false, false, false, false, false, false, false] (by kernel_rfl) ?_
            refine wpAny_ready (rs := [9]) (by kernel_rfl) (by simp) (AllReady.cons rfl (fun K hK => ?_) (AllReady.nil))
            have q := conv_slc HOT.out
            unfold strV at q
            go_simp
            refine hK _ _ ?_
            conv =>
              arg 7
              simp [Act.put]
            clear hK K q
            refine wpAny_listed #[true, true, true, true, true, true, true, true, true, true, false, false, false, false, false, false] (by kernel_rfl) ?_
            refine wpAny_ready (rs := [10]) (by kernel_rfl) (by simp) (AllReady.cons rfl (fun K hK => ?_) (AllReady.nil))
            go_simp
            go_wp2_with (
              go_at_call 8
              refine (HWT.out wt HTT.out).mono ?_
              rintro e wq ⟨z1, z2, z3, rfl, hdq, hfq, hsq⟩
              have HDQ := Lib.hid hdq
              have HFQ := Lib.hid (show ∀ j, blk3 z1 z2 z3 j → (j < w.heap.size ∧ blk3 v1 v2 v3 j) ∨ w.heap.size + 3 ≤ j from fun j hj => (hfq j hj).elim (fun q => .inr (Nat.le_trans HST7.out.sz (Nat.le_trans HTT.out.size q))) (HST7.out.far j))
              have HSQ := Lib.hid (HTT.out.trans hsq)
              clear hdq hfq hsq)
            refine wpAny_listed #[true, true, true, true, true, true, true, true, true, true, true, false, false, false, false, false] (by kernel_rfl) ?_
            refine wpAny_takeL (i := 11) (v := .tuple #[devV z1 z2 z3 r2, .int .i64 (c2 : Nat)]) #[true, true, true, true, true, true, true, true, true, true, true, true, false, false, false, false] rfl (by kernel_rfl) (by kernel_rfl) (by kernel_rfl) (fun _ _ _ h => h) (by kernel_rfl) (Or.inl ⟨by rfl, fun W => ?_⟩) ?_
            · go_simp
            conv =>
              arg 7
              simp [Act.put]
            refine wpAny_takeL (i := 12) (v := devV z1 z2 z3 r2) #[true, true, true, true, true, true, true, true, true, true, true, true, true, false, false, false] rfl (by kernel_rfl) (by kernel_rfl) (by kernel_rfl) (fun _ _ _ h => h) (by kernel_rfl) (Or.inl ⟨by rfl, fun W => ?_⟩) ?_
            · go_simp
            conv =>
              arg 7
              simp [Act.put]
            refine wpAny_takeL (i := 13) (v := .int .i64 (c2 : Nat)) #[true, true, true, true, true, true, true, true, true, true, true, true, true, true, false, false] rfl (by kernel_rfl) (by kernel_rfl) (by kernel_rfl) (fun _ _ _ h => h) (by kernel_rfl) (Or.inl ⟨by rfl, fun W => ?_⟩) ?_
            · go_simp
            conv =>
              arg 7
              simp [Act.put]
            refine wpAny_ready (rs := [14]) (by kernel_rfl) (by simp) (AllReady.cons rfl (fun K hK => ?_) (AllReady.nil))
            refine step_store_box rfl (.tmp 3) (.tmp 96) rfl w.heap.size rfl z1 z2 z3 _ _ _ r2 _ rfl HDQ.out.one (HST7.out.box.stay HSQ.out (fun y => y)) ?_
            intro w9 hb9 s9
            have HST9 := Lib.hid ((HST7.out.stay0 HSQ.out).next hb9 s9 HDQ.out HSIM2.out HROK2.out HFQ.out)
            clear hb9 s9
            refine hK _ _ ?_
            conv =>
              arg 7
              simp [Act.put]
            clear hK K
            refine wpAny_listed #[true, true, true, true, true, true, true, true, true, true, true, true, true, true, true, false] (by kernel_rfl) ?_
            refine wpAny_takeL (i := 15) (v := .int .i64 (c2 : Nat)) #[true, true, true, true, true, true, true, true, true, true, true, true, true, true, true, true] rfl (by kernel_rfl) (by kernel_rfl) (by kernel_rfl) (fun _ _ _ h => h) (by kernel_rfl) (Or.inl ⟨by rfl, fun W => ?_⟩) ?_
            · go_simp
            conv =>
              arg 7
              simp [Act.put]
            refine wpAny_done (by kernel_rfl) ?_ _
            have HO9 := Lib.hid HST9.out.dv.one
            have hcase2 : (c2 ≠ 0 ∧ ((c2 : Int) == 0) = false) ∨ c2 = 0 := by
              by_cases e : c2 = 0
              · exact .inr e
              · exact .inl ⟨e, beq_eq_false_iff_ne.2 (by omega)⟩
            rcases hcase2 with ⟨hcn, hcb⟩ | hcz
            · have HCN := Lib.hid hcn
              clear hcn
              go_wp2_with (first
                | (refine load_box rfl (.tmp 3) rfl w.heap.size rfl _ _ _ _ HST9.out.box ?_)
                | (refine store_box rfl (.tmp 6) (.tmp 100) rfl (w.heap.size + 2) rfl _ _ _ _ _ _ _ _ rfl HO9.out HST9.out.res ?_
                   intro wE hE sE
                   have HE := Lib.hid hE
                   have SE := Lib.hid sE
                   clear hE sE))
              have hld := run_load_box HE.out
              refine bodyPost_ret (v := .tuple #[devV z1 z2 z3 r2, .int .i64 (c2 : Nat)]) (by simp [results, Tryz.results18, asAddr, hld]) rfl ?_
              have e9 := HSV2.out
              rw [if_neg (by rw [← HC2.out]; exact HCN.out)] at e9
              rw [e9]
              exact ⟨z1, z2, z3, r2, by rw [← HC2.out]; rfl, HST9.out.dv.stayB SE.out (fun j hj (e : j = w.heap.size + 2) => by have := HST9.out.far j hj; omega), HST9.out.sim, HST9.out.ok.mono (by have := HPB.out; omega), (fun j hj => (HST9.out.far j hj).elim (fun q => .inr q.2) (fun q => .inl (by omega))), stay_seal (X := fun j => w.heap.size ≤ j) (HST9.out.st.trans (SE.out.mono (fun j (e : j = w.heap.size + 2) => by omega))) (fun _ hk => hk)⟩
            · subst hcz
              have hfl := fun W (hW : Stay (fun _ => False) w9 W) => rflush_any W z1 z2 z3 r2 d.n _ (HST9.out.dv.stay0 hW) HST9.out.ok HN0.out hn
              have hsf := sim_flush HST9.out.sim
              have hrf := rok_flush HST9.out.ok
              have e9 := HSV2.out
              rw [if_pos HC2.out.symm] at e9
              obtain ⟨r3, hr3⟩ : ∃ r3, (flushR r2).1 = r3 := ⟨_, rfl⟩
              obtain ⟨c3, hc3⟩ : ∃ c3, (flushR r2).2 = c3 := ⟨_, rfl⟩
              rw [hr3, hc3] at hfl
              rw [hr3] at hrf hsf
              rw [hc3, ← e9] at hsf
              have HFL := Lib.hid hfl
              have HSF := Lib.hid hsf
              have HRF := Lib.hid hrf
              clear hfl hsf hrf e9 hr3 hc3
              go_wp2_with (refine load_box rfl (.tmp 3) rfl w.heap.size rfl _ _ _ _ HST9.out.box ?_)
              refine (HFL.out w9 (Stay.refl _ _)).mono ?_
              rintro e wf ⟨x1, x2, x3, rfl, hdf, hff, hsf⟩
              have HDF := Lib.hid hdf
              have HOF := Lib.hid hdf.one
              have HFF := Lib.hid (show ∀ j, blk3 x1 x2 x3 j → (j < w.heap.size ∧ blk3 v1 v2 v3 j) ∨ w.heap.size + 3 ≤ j from fun j hj => (hff j hj).elim (fun q => .inr (Nat.le_trans HST9.out.sz q)) (HST9.out.far j))
              have HSX := Lib.hid (HST9.out.stay0 hsf)
              clear hdf hff hsf
              go_wp2_with (refine store_box rfl (.tmp 6) (.tmp 104) rfl (w.heap.size + 2) rfl _ _ _ _ _ _ _ _ rfl HOF.out HSX.out.res ?_; intro wE hE sE; have HE := Lib.hid hE; have SE := Lib.hid sE; clear hE sE)
              have hld := run_load_box HE.out
              refine bodyPost_ret (v := .tuple #[devV x1 x2 x3 r3, .int .i64 (c3 : Nat)]) (by simp [results, Tryz.results18, asAddr, hld]) rfl ?_
              exact ⟨x1, x2, x3, r3, by rw [← HSF.out.2]; rfl, HDF.out.stayB SE.out (fun j hj (e : j = w.heap.size + 2) => by have := HFF.out j hj; omega), HSF.out.1, HRF.out.mono (by have := HPB.out; omega), (fun j hj => (HFF.out j hj).elim (fun q => .inr q.2) (fun q => .inl (by omega))), stay_seal (X := fun j => w.heap.size ≤ j) (HSX.out.st.trans (SE.out.mono (fun j (e : j = w.heap.size + 2) => by omega))) (fun _ hk => hk)⟩
          · skip
            go_simp
            go_wp2_with (
              go_at_call 43
              refine (rteller_at (0 + 1) l.length _ (by omega) false _ (by have := HTN.out; omega) (by have := HLEN.out; omega)).mono ?_
              rintro e wt ⟨vt, rfl, hot, hst⟩
              have HOT := Lib.hid hot.slc
              have HTT := Lib.hid ((Stay.drew (X := fun _ => False) (w := w7)).trans hst)
              clear hot hst)
            refine wpAny_listed #[true, true, false, true, true, true, true, true, true, false, false, false, false, false, false, false] (by kernel_rfl) ?_
            refine wpAny_ready (rs := [2, 9]) (by kernel_rfl) (by simp) (AllReady.cons rfl (fun K hK => ?_) (AllReady.cons rfl (fun K hK => ?_) (AllReady.nil)))
            · skip
              have q := (HST7.out.ar.stay HTT.out (fun y => y)).c0
              go_simp
              refine hK _ _ ?_
              conv =>
                arg 7
                simp [Act.put]
              clear hK K q
              refine wpAny_listed #[true, true, true, true, true, true, true, true, true, false, false, false, false, false, false, false] (by kernel_rfl) ?_
              refine wpAny_ready (rs := [9]) (by kernel_rfl) (by simp) (AllReady.cons rfl (fun K hK => ?_) (AllReady.nil))
              have q := conv_slc HOT.out
              unfold strV at q
              go_simp
              refine hK _ _ ?_
              conv =>
                arg 7
                simp [Act.put]
              clear hK K q
              refine wpAny_listed #[true, true, true, true, true, true, true, true, true, true, false, false, false, false, false, false] (by kernel_rfl) ?_
              refine wpAny_ready (rs := [10]) (by kernel_rfl) (by simp) (AllReady.cons rfl (fun K hK => ?_) (AllReady.nil))
              go_simp
              go_wp2_with (
                go_at_call 8
                refine (HWT.out wt HTT.out).mono ?_
                rintro e wq ⟨z1, z2, z3, rfl, hdq, hfq, hsq⟩
                have HDQ := Lib.hid hdq
                have HFQ := Lib.hid (show ∀ j, blk3 z1 z2 z3 j → (j < w.heap.size ∧ blk3 v1 v2 v3 j) ∨ w.heap.size + 3 ≤ j from fun j hj => (hfq j hj).elim (fun q => .inr (Nat.le_trans HST7.out.sz (Nat.le_trans HTT.out.size q))) (HST7.out.far j))
                have HSQ := Lib.hid (HTT.out.trans hsq)
                clear hdq hfq hsq)
              refine wpAny_listed #[true, true, true, true, true, true, true, true, true, true, true, false, false, false, false, false] (by kernel_rfl) ?_
              refine wpAny_takeL (i := 11) (v := .tuple #[devV z1 z2 z3 r2, .int .i64 (c2 : Nat)]) #[true, true, true, true, true, true, true, true, true, true, true, true, false, false, false, false] rfl (by kernel_rfl) (by kernel_rfl) (by kernel_rfl) (fun _ _ _ h => h) (by kernel_rfl) (Or.inl ⟨by rfl, fun W => ?_⟩) ?_
              · go_simp
              conv =>
                arg 7
                simp [Act.put]
              refine wpAny_takeL (i := 12) (v := devV z1 z2 z3 r2) #[true, true, true, true, true, true, true, true, true, true, true, true, true, false, false, false] rfl (by kernel_rfl) (by kernel_rfl) (by kernel_rfl) (fun _ _ _ h => h) (by kernel_rfl) (Or.inl ⟨by rfl, fun W => ?_⟩) ?_
              · go_simp
              conv =>
                arg 7
                simp [Act.put]
              refine wpAny_takeL (i := 13) (v := .int .i64 (c2 : Nat)) #[true, true, true, true, true, true, true, true, true, true, true, true, true, true, false, false] rfl (by kernel_rfl) (by kernel_rfl) (by kernel_rfl) (fun _ _ _ h => h) (by kernel_rfl) (Or.inl ⟨by rfl, fun W => ?_⟩) ?_
              · go_simp
              conv =>
                arg 7
                simp [Act.put]
              refine wpAny_ready (rs := [14]) (by kernel_rfl) (by simp) (AllReady.cons rfl (fun K hK => ?_) (AllReady.nil))
              refine step_store_box rfl (.tmp 3) (.tmp 96) rfl w.heap.size rfl z1 z2 z3 _ _ _ r2 _ rfl HDQ.out.one (HST7.out.box.stay HSQ.out (fun y => y)) ?_
              intro w9 hb9 s9
              have HST9 := Lib.hid ((HST7.out.stay0 HSQ.out).next hb9 s9 HDQ.out HSIM2.out HROK2.out HFQ.out)
              clear hb9 s9
              refine hK _ _ ?_
              conv =>
                arg 7
                simp [Act.put]
              clear hK K
              refine wpAny_listed #[true, true, true, true, true, true, true, true, true, true, true, true, true, true, true, false] (by kernel_rfl) ?_
              refine wpAny_takeL (i := 15) (v := .int .i64 (c2 : Nat)) #[true, true, true, true, true, true, true, true, true, true, true, true, true, true, true, true] rfl (by kernel_rfl) (by kernel_rfl) (by kernel_rfl) (fun _ _ _ h => h) (by kernel_rfl) (Or.inl ⟨by rfl, fun W => ?_⟩) ?_
              · go_simp
              conv =>
                arg 7
                simp [Act.put]
              refine wpAny_done (by kernel_rfl) ?_ _
              have HO9 := Lib.hid HST9.out.dv.one
              have hcase2 : (c2 ≠ 0 ∧ ((c2 : Int) == 0) = false) ∨ c2 = 0 := by
                by_cases e : c2 = 0
                · exact .inr e
                · exact .inl ⟨e, beq_eq_false_iff_ne.2 (by omega)⟩
              rcases hcase2 with ⟨hcn, hcb⟩ | hcz
              · have HCN := Lib.hid hcn
                clear hcn
                go_wp2_with (first
                  | (refine load_box rfl (.tmp 3) rfl w.heap.size rfl _ _ _ _ HST9.out.box ?_)
                  | (refine store_box rfl (.tmp 6) (.tmp 100) rfl (w.heap.size + 2) rfl _ _ _ _ _ _ _ _ rfl HO9.out HST9.out.res ?_
                     intro wE hE sE
                     have HE := Lib.hid hE
                     have SE := Lib.hid sE
                     clear hE sE))
                have hld := run_load_box HE.out
                refine bodyPost_ret (v := .tuple #[devV z1 z2 z3 r2, .int .i64 (c2 : Nat)]) (by simp [results, Tryz.results18, asAddr, hld]) rfl ?_
                have e9 := HSV2.out
                rw [if_neg (by rw [← HC2.out]; exact HCN.out)] at e9
                rw [e9]
                exact ⟨z1, z2, z3, r2, by rw [← HC2.out]; rfl, HST9.out.dv.stayB SE.out (fun j hj (e : j = w.heap.size + 2) => by have := HST9.out.far j hj; omega), HST9.out.sim, HST9.out.ok.mono (by have := HPB.out; omega), (fun j hj => (HST9.out.far j hj).elim (fun q => .inr q.2) (fun q => .inl (by omega))), stay_seal (X := fun j => w.heap.size ≤ j) (HST9.out.st.trans (SE.out.mono (fun j (e : j = w.heap.size + 2) => by omega))) (fun _ hk => hk)⟩
              · subst hcz
                have hfl := fun W (hW : Stay (fun _ => False) w9 W) => rflush_any W z1 z2 z3 r2 d.n _ (HST9.out.dv.stay0 hW) HST9.out.ok HN0.out hn
                have hsf := sim_flush HST9.out.sim
                have hrf := rok_flush HST9.out.ok
                have e9 := HSV2.out
                rw [if_pos HC2.out.symm] at e9
                obtain ⟨r3, hr3⟩ : ∃ r3, (flushR r2).1 = r3 := ⟨_, rfl⟩
                obtain ⟨c3, hc3⟩ : ∃ c3, (flushR r2).2 = c3 := ⟨_, rfl⟩
                rw [hr3, hc3] at hfl
                rw [hr3] at hrf hsf
                rw [hc3, ← e9] at hsf
                have HFL := Lib.hid hfl
                have HSF := Lib.hid hsf
                have HRF := Lib.hid hrf
                clear hfl hsf hrf e9 hr3 hc3
                go_wp2_with (refine load_box rfl (.tmp 3) rfl w.heap.size rfl _ _ _ _ HST9.out.box ?_)
                refine (HFL.out w9 (Stay.refl _ _)).mono ?_
                rintro e wf ⟨x1, x2, x3, rfl, hdf, hff, hsf⟩
                have HDF := Lib.hid hdf
                have HOF := Lib.hid hdf.one
                have HFF := Lib.hid (show ∀ j, blk3 x1 x2 x3 j → (j < w.heap.size ∧ blk3 v1 v2 v3 j) ∨ w.heap.size + 3 ≤ j from fun j hj => (hff j hj).elim (fun q => .inr (Nat.le_trans HST9.out.sz q)) (HST9.out.far j))
                have HSX := Lib.hid (HST9.out.stay0 hsf)
                clear hdf hff hsf
                go_wp2_with (refine store_box rfl (.tmp 6) (.tmp 104) rfl (w.heap.size + 2) rfl _ _ _ _ _ _ _ _ rfl HOF.out HSX.out.res ?_; intro wE hE sE; have HE := Lib.hid hE; have SE := Lib.hid sE; clear hE sE)
                have hld := run_load_box HE.out
                refine bodyPost_ret (v := .tuple #[devV x1 x2 x3 r3, .int .i64 (c3 : Nat)]) (by simp [results, Tryz.results18, asAddr, hld]) rfl ?_
                exact ⟨x1, x2, x3, r3, by rw [← HSF.out.2]; rfl, HDF.out.stayB SE.out (fun j hj (e : j = w.heap.size + 2) => by have := HFF.out j hj; omega), HSF.out.1, HRF.out.mono (by have := HPB.out; omega), (fun j hj => (HFF.out j hj).elim (fun q => .inr q.2) (fun q => .inl (by omega))), stay_seal (X := fun j => w.heap.size ≤ j) (HSX.out.st.trans (SE.out.mono (fun j (e : j = w.heap.size + 2) => by omega))) (fun _ hk => hk)⟩
            · skip
              have q := conv_slc HOT.out
              unfold strV at q
              go_simp
              refine hK _ _ ?_
              conv =>
                arg 7
                simp [Act.put]
              clear hK K q
              refine wpAny_listed #[true, true, false, true, true, true, true, true, true, true, false, false, false, false, false, false] (by kernel_rfl) ?_
              refine wpAny_ready (rs := [2]) (by kernel_rfl) (by simp) (AllReady.cons rfl (fun K hK => ?_) (AllReady.nil))
              have q := (HST7.out.ar.stay HTT.out (fun y => y)).c0
              go_simp
              refine hK _ _ ?_
              conv =>
                arg 7
                simp [Act.put]
              clear hK K q
              refine wpAny_listed #[true, true, true, true, true, true, true, true, true, true, false, false, false, false, false, false] (by kernel_rfl) ?_
              refine wpAny_ready (rs := [10]) (by kernel_rfl) (by simp) (AllReady.cons rfl (fun K hK => ?_) (AllReady.nil))
              go_simp
              go_wp2_with (
                go_at_call 8
                refine (HWT.out wt HTT.out).mono ?_
                rintro e wq ⟨z1, z2, z3, rfl, hdq, hfq, hsq⟩
                have HDQ := Lib.hid hdq
                have HFQ := Lib.hid (show ∀ j, blk3 z1 z2 z3 j → (j < w.heap.size ∧ blk3 v1 v2 v3 j) ∨ w.heap.size + 3 ≤ j from fun j hj => (hfq j hj).elim (fun q => .inr (Nat.le_trans HST7.out.sz (Nat.le_trans HTT.out.size q))) (HST7.out.far j))
                have HSQ := Lib.hid (HTT.out.trans hsq)
                clear hdq hfq hsq)
              refine wpAny_listed #[true, true, true, true, true, true, true, true, true, true, true, false, false, false, false, false] (by kernel_rfl) ?_
              refine wpAny_takeL (i := 11) (v := .tuple #[devV z1 z2 z3 r2, .int .i64 (c2 : Nat)]) #[true, true, true, true, true, true, true, true, true, true, true, true, false, false, false, false] rfl (by kernel_rfl) (by kernel_rfl) (by kernel_rfl) (fun _ _ _ h => h) (by kernel_rfl) (Or.inl ⟨by rfl, fun W => ?_⟩) ?_
              · go_simp
              conv =>
                arg 7
                simp [Act.put]
              refine wpAny_takeL (i := 12) (v := devV z1 z2 z3 r2) #[true, true, true, true, true, true, true, true, true, true, true, true, true, false, false, false] rfl (by kernel_rfl) (by kernel_rfl) (by kernel_rfl) (fun _ _ _ h => h) (by kernel_rfl) (Or.inl ⟨by rfl, fun W => ?_⟩) ?_
              · go_simp
              conv =>
                arg 7
                simp [Act.put]
              refine wpAny_takeL (i := 13) (v := .int .i64 (c2 : Nat)) #[true, true, true, true, true, true, true, true, true, true, true, true, true, true, false, false] rfl (by kernel_rfl) (by kernel_rfl) (by kernel_rfl) (fun _ _ _ h => h) (by kernel_rfl) (Or.inl ⟨by rfl, fun W => ?_⟩) ?_
              · go_simp
              conv =>
                arg 7
                simp [Act.put]
              refine wpAny_ready (rs := [14]) (by kernel_rfl) (by simp) (AllReady.cons rfl (fun K hK => ?_) (AllReady.nil))
              refine step_store_box rfl (.tmp 3) (.tmp 96) rfl w.heap.size rfl z1 z2 z3 _ _ _ r2 _ rfl HDQ.out.one (HST7.out.box.stay HSQ.out (fun y => y)) ?_
              intro w9 hb9 s9
              have HST9 := Lib.hid ((HST7.out.stay0 HSQ.out).next hb9 s9 HDQ.out HSIM2.out HROK2.out HFQ.out)
              clear hb9 s9
              refine hK _ _ ?_
              conv =>
                arg 7
                simp [Act.put]
              clear hK K
              refine wpAny_listed #[true, true, true, true, true, true, true, true, true, true, true, true, true, true, true, false] (by kernel_rfl) ?_
              refine wpAny_takeL (i := 15) (v := .int .i64 (c2 : Nat)) #[true, true, true, true, true, true, true, true, true, true, true, true, true, true, true, true] rfl (by kernel_rfl) (by kernel_rfl) (by kernel_rfl) (fun _ _ _ h => h) (by kernel_rfl) (Or.inl ⟨by rfl, fun W => ?_⟩) ?_
              · go_simp
              conv =>
                arg 7
                simp [Act.put]
              refine wpAny_done (by kernel_rfl) ?_ _
              have HO9 := Lib.hid HST9.out.dv.one
              have hcase2 : (c2 ≠ 0 ∧ ((c2 : Int) == 0) = false) ∨ c2 = 0 := by
                by_cases e : c2 = 0
                · exact .inr e
                · exact .inl ⟨e, beq_eq_false_iff_ne.2 (by omega)⟩
              rcases hcase2 with ⟨hcn, hcb⟩ | hcz
              · have HCN := Lib.hid hcn
                clear hcn
                go_wp2_with (first
                  | (refine load_box rfl (.tmp 3) rfl w.heap.size rfl _ _ _ _ HST9.out.box ?_)
                  | (refine store_box rfl (.tmp 6) (.tmp 100) rfl (w.heap.size + 2) rfl _ _ _ _ _ _ _ _ rfl HO9.out HST9.out.res ?_
                     intro wE hE sE
                     have HE := Lib.hid hE
                     have SE := Lib.hid sE
                     clear hE sE))
                have hld := run_load_box HE.out
                refine bodyPost_ret (v := .tuple #[devV z1 z2 z3 r2, .int .i64 (c2 : Nat)]) (by simp [results, Tryz.results18, asAddr, hld]) rfl ?_
                have e9 := HSV2.out
                rw [if_neg (by rw [← HC2.out]; exact HCN.out)] at e9
                rw [e9]
                exact ⟨z1, z2, z3, r2, by rw [← HC2.out]; rfl, HST9.out.dv.stayB SE.out (fun j hj (e : j = w.heap.size + 2) => by have := HST9.out.far j hj; omega), HST9.out.sim, HST9.out.ok.mono (by have := HPB.out; omega), (fun j hj => (HST9.out.far j hj).elim (fun q => .inr q.2) (fun q => .inl (by omega))), stay_seal (X := fun j => w.heap.size ≤ j) (HST9.out.st.trans (SE.out.mono (fun j (e : j = w.heap.size + 2) => by omega))) (fun _ hk => hk)⟩
              · subst hcz
                have hfl := fun W (hW : Stay (fun _ => False) w9 W) => rflush_any W z1 z2 z3 r2 d.n _ (HST9.out.dv.stay0 hW) HST9.out.ok HN0.out hn
                have hsf := sim_flush HST9.out.sim
                have hrf := rok_flush HST9.out.ok
                have e9 := HSV2.out
                rw [if_pos HC2.out.symm] at e9
                obtain ⟨r3, hr3⟩ : ∃ r3, (flushR r2).1 = r3 := ⟨_, rfl⟩
                obtain ⟨c3, hc3⟩ : ∃ c3, (flushR r2).2 = c3 := ⟨_, rfl⟩
                rw [hr3, hc3] at hfl
                rw [hr3] at hrf hsf
                rw [hc3, ← e9] at hsf
                have HFL := Lib.hid hfl
                have HSF := Lib.hid hsf
                have HRF := Lib.hid hrf
                clear hfl hsf hrf e9 hr3 hc3
                go_wp2_with (refine load_box rfl (.tmp 3) rfl w.heap.size rfl _ _ _ _ HST9.out.box ?_)
                refine (HFL.out w9 (Stay.refl _ _)).mono ?_
                rintro e wf ⟨x1, x2, x3, rfl, hdf, hff, hsf⟩
                have HDF := Lib.hid hdf
                have HOF := Lib.hid hdf.one
                have HFF := Lib.hid (show ∀ j, blk3 x1 x2 x3 j → (j < w.heap.size ∧ blk3 v1 v2 v3 j) ∨ w.heap.size + 3 ≤ j from fun j hj => (hff j hj).elim (fun q => .inr (Nat.le_trans HST9.out.sz q)) (HST9.out.far j))
                have HSX := Lib.hid (HST9.out.stay0 hsf)
                clear hdf hff hsf
                go_wp2_with (refine store_box rfl (.tmp 6) (.tmp 104) rfl (w.heap.size + 2) rfl _ _ _ _ _ _ _ _ rfl HOF.out HSX.out.res ?_; intro wE hE sE; have HE := Lib.hid hE; have SE := Lib.hid sE; clear hE sE)
                have hld := run_load_box HE.out
                refine bodyPost_ret (v := .tuple #[devV x1 x2 x3 r3, .int .i64 (c3 : Nat)]) (by simp [results, Tryz.results18, asAddr, hld]) rfl ?_
                exact ⟨x1, x2, x3, r3, by rw [← HSF.out.2]; rfl, HDF.out.stayB SE.out (fun j hj (e : j = w.heap.size + 2) => by have := HFF.out j hj; omega), HSF.out.1, HRF.out.mono (by have := HPB.out; omega), (fun j hj => (HFF.out j hj).elim (fun q => .inr q.2) (fun q => .inl (by omega))), stay_seal (X := fun j => w.heap.size ≤ j) (HSX.out.st.trans (SE.out.mono (fun j (e : j = w.heap.size + 2) => by omega))) (fun _ hk => hk)⟩
        · skip
          have q := (HST7.out.ar.stay (Stay.drew (X := fun _ => False) (w := w7)) (fun y => y)).c0
          go_simp
          refine hK _ _ ?_
          conv =>
            arg 7
            simp [Act.put]
          clear hK K q
          refine wpAny_listed #[false, true, true, true, true, true, true, true, false, false, false, false, false, false, false, false] (by kernel_rfl) ?_
          refine wpAny_ready (rs := [0, 8]) (by kernel_rfl) (by simp) (AllReady.cons rfl (fun K hK => ?_) (AllReady.cons rfl (fun K hK => ?_) (AllReady.nil)))
          · skip
            refine step_load_box rfl (.tmp 3) rfl w.heap.size rfl y1 y2 y3 r1 (HST7.out.box.stay (Stay.drew (X := fun _ => False) (w := w7)) (fun y => y)) ?_
            refine hK _ _ ?_
            conv =>
              arg 7
              simp [Act.put]
            clear hK K
            refine wpAny_listed #[true, true, true, true, true, true, true, true, false, false, false, false, false, false, false, false] (by kernel_rfl) ?_
            refine wpAny_ready (rs := [8]) (by kernel_rfl) (by simp) (AllReady.cons rfl (fun K hK => ?_) (AllReady.nil))
            go_simp
            go_wp2_with (
              go_at_call 43
              refine (rteller_at (0 + 1) l.length _ (by omega) false _ (by have := HTN.out; omega) (by have := HLEN.out; omega)).mono ?_
              rintro e wt ⟨vt, rfl, hot, hst⟩
              have HOT := Lib.hid hot.slc
              have HTT := Lib.hid ((Stay.drew (X := fun _ => False) (w := w7)).trans hst)
              clear hot hst)
            refine wpAny_listed #[true, true, true, true, true, true, true, true, true, false, false, false, false, false, false, false] (by kernel_rfl) ?_
            refine wpAny_ready (rs := [9]) (by kernel_rfl) (by simp) (AllReady.cons rfl (fun K hK => ?_) (AllReady.nil))
            have q := conv_slc HOT.out
            unfold strV at q
            go_simp
            refine hK _ _ ?_
            conv =>
              arg 7
              simp [Act.put]
            clear hK K q
            refine wpAny_listed #[true, true, true, true, true, true, true, true, true, true, false, false, false, false, false, false] (by kernel_rfl) ?_
            refine wpAny_ready (rs := [10]) (by kernel_rfl) (by simp) (AllReady.cons rfl (fun K hK => ?_) (AllReady.nil))
            go_simp
            go_wp2_with (
              go_at_call 8
              refine (HWT.out wt HTT.out).mono ?_
              rintro e wq ⟨z1, z2, z3, rfl, hdq, hfq, hsq⟩
              have HDQ := Lib.hid hdq
              have HFQ := Lib.hid (show ∀ j, blk3 z1 z2 z3 j → (j < w.heap.size ∧ blk3 v1 v2 v3 j) ∨ w.heap.size + 3 ≤ j from fun j hj => (hfq j hj).elim (fun q => .inr (Nat.le_trans HST7.out.sz (Nat.le_trans HTT.out.size q))) (HST7.out.far j))
              have HSQ := Lib.hid (HTT.out.trans hsq)
              clear hdq hfq hsq)
            refine wpAny_listed #[true, true, true, true, true, true, true, true, true, true, true, false, false, false, false, false] (by kernel_rfl) ?_
            refine wpAny_takeL (i := 11) (v := .tuple #[devV z1 z2 z3 r2, .int .i64 (c2 : Nat)]) #[true, true, true, true, true, true, true, true, true, true, true, true, false, false, false, false] rfl (by kernel_rfl) (by kernel_rfl) (by kernel_rfl) (fun _ _ _ h => h) (by kernel_rfl) (Or.inl ⟨by rfl, fun W => ?_⟩) ?_
            · go_simp
            conv =>
              arg 7
              simp [Act.put]
            refine wpAny_takeL (i := 12) (v := devV z1 z2 z3 r2) #[true, true, true, true, true, true, true, true, true, true, true, true, true, false, false, false] rfl (by kernel_rfl) (by kernel_rfl) (by kernel_rfl) (fun _ _ _ h => h) (by kernel_rfl) (Or.inl ⟨by rfl, fun W => ?_⟩) ?_
            · go_simp
            conv =>
              arg 7
              simp [Act.put]
            refine wpAny_takeL (i := 13) (v := .int .i64 (c2 : Nat)) #[true, true, true, true, true, true, true, true, true, true, true, true, true, true, false, false] rfl (by kernel_rfl) (by kernel_rfl) (by kernel_rfl) (fun _ _ _ h => h) (by kernel_rfl) (Or.inl ⟨by rfl, fun W => ?_⟩) ?_
            · go_simp
            conv =>
              arg 7
              simp [Act.put]
            refine wpAny_ready (rs := [14]) (by kernel_rfl) (by simp) (AllReady.cons rfl (fun K hK => ?_) (AllReady.nil))
            refine step_store_box rfl (.tmp 3) (.tmp 96) rfl w.heap.size rfl z1 z2 z3 _ _ _ r2 _ rfl HDQ.out.one (HST7.out.box.stay HSQ.out (fun y => y)) ?_
            intro w9 hb9 s9
            have HST9 := Lib.hid ((HST7.out.stay0 HSQ.out).next hb9 s9 HDQ.out HSIM2.out HROK2.out HFQ.out)
            clear hb9 s9
            refine hK _ _ ?_
            conv =>
              arg 7
              simp [Act.put]
            clear hK K
            refine wpAny_listed #[true, true, true, true, true, true, true, true, true, true, true, true, true, true, true, false] (by kernel_rfl) ?_
            refine wpAny_takeL (i := 15) (v := .int .i64 (c2 : Nat)) #[true, true, true, true, true, true, true, true, true, true, true, true, true, true, true, true] rfl (by kernel_rfl) (by kernel_rfl) (by kernel_rfl) (fun _ _ _ h => h) (by kernel_rfl) (Or.inl ⟨by rfl, fun W => ?_⟩) ?_
            · go_simp
            conv =>
              arg 7
              simp [Act.put]
            refine wpAny_done (by kernel_rfl) ?_ _
            have HO9 := Lib.hid HST9.out.dv.one
            have hcase2 : (c2 ≠ 0 ∧ ((c2 : Int) == 0) = false) ∨ c2 = 0 := by
              by_cases e : c2 = 0
              · exact .inr e
              · exact .inl ⟨e, beq_eq_false_iff_ne.2 (by omega)⟩
            rcases hcase2 with ⟨hcn, hcb⟩ | hcz
            · have HCN := Lib.hid hcn
              clear hcn
              go_wp2_with (first
                | (refine load_box rfl (.tmp 3) rfl w.heap.size rfl _ _ _ _ HST9.out.box ?_)
                | (refine store_box rfl (.tmp 6) (.tmp 100) rfl (w.heap.size + 2) rfl _ _ _ _ _ _ _ _ rfl HO9.out HST9.out.res ?_
                   intro wE hE sE
                   have HE := Lib.hid hE
                   have SE := Lib.hid sE
                   clear hE sE))
              have hld := run_load_box HE.out
              refine bodyPost_ret (v := .tuple #[devV z1 z2 z3 r2, .int .i64 (c2 : Nat)]) (by simp [results, Tryz.results18, asAddr, hld]) rfl ?_
              have e9 := HSV2.out
              rw [if_neg (by rw [← HC2.out]; exact HCN.out)] at e9
              rw [e9]
              exact ⟨z1, z2, z3, r2, by rw [← HC2.out]; rfl, HST9.out.dv.stayB SE.out (fun j hj (e : j = w.heap.size + 2) => by have := HST9.out.far j hj; omega), HST9.out.sim, HST9.out.ok.mono (by have := HPB.out; omega), (fun j hj => (HST9.out.far j hj).elim (fun q => .inr q.2) (fun q => .inl (by omega))), stay_seal (X := fun j => w.heap.size ≤ j) (HST9.out.st.trans (SE.out.mono (fun j (e : j = w.heap.size + 2) => by omega))) (fun _ hk => hk)⟩
            · subst hcz
              have hfl := fun W (hW : Stay (fun _ => False) w9 W) => rflush_any W z1 z2 z3 r2 d.n _ (HST9.out.dv.stay0 hW) HST9.out.ok HN0.out hn
              have hsf := sim_flush HST9.out.sim
              have hrf := rok_flush HST9.out.ok
              have e9 := HSV2.out
              rw [if_pos HC2.out.symm] at e9
              obtain ⟨r3, hr3⟩ : ∃ r3, (flushR r2).1 = r3 := ⟨_, rfl⟩
              obtain ⟨c3, hc3⟩ : ∃ c3, (flushR r2).2 = c3 := ⟨_, rfl⟩
              rw [hr3, hc3] at hfl
              rw [hr3] at hrf hsf
              rw [hc3, ← e9] at hsf
              have HFL := Lib.hid hfl
              have HSF := Lib.hid hsf
              have HRF := Lib.hid hrf
              clear hfl hsf hrf e9 hr3 hc3
              go_wp2_with (refine load_box rfl (.tmp 3) rfl w.heap.size rfl _ _ _ _ HST9.out.box ?_)
              refine (HFL.out w9 (Stay.refl _ _)).mono ?_
              rintro e wf ⟨x1, x2, x3, rfl, hdf, hff, hsf⟩
              have HDF := Lib.hid hdf
              have HOF := Lib.hid hdf.one
              have HFF := Lib.hid (show ∀ j, blk3 x1 x2 x3 j → (j < w.heap.size ∧ blk3 v1 v2 v3 j) ∨ w.heap.size + 3 ≤ j from fun j hj => (hff j hj).elim (fun q => .inr (Nat.le_trans HST9.out.sz q)) (HST9.out.far j))
              have HSX := Lib.hid (HST9.out.stay0 hsf)
              clear hdf hff hsf
              go_wp2_with (refine store_box rfl (.tmp 6) (.tmp 104) rfl (w.heap.size + 2) rfl _ _ _ _ _ _ _ _ rfl HOF.out HSX.out.res ?_; intro wE hE sE; have HE := Lib.hid hE; have SE := Lib.hid sE; clear hE sE)
              have hld := run_load_box HE.out
              refine bodyPost_ret (v := .tuple #[devV x1 x2 x3 r3, .int .i64 (c3 : Nat)]) (by simp [results, Tryz.results18, asAddr, hld]) rfl ?_
              exact ⟨x1, x2, x3, r3, by rw [← HSF.out.2]; rfl, HDF.out.stayB SE.out (fun j hj (e : j = w.heap.size + 2) => by have := HFF.out j hj; omega), HSF.out.1, HRF.out.mono (by have := HPB.out; omega), (fun j hj => (HFF.out j hj).elim (fun q => .inr q.2) (fun q => .inl (by omega))), stay_seal (X := fun j => w.heap.size ≤ j) (HSX.out.st.trans (SE.out.mono (fun j (e : j = w.heap.size + 2) => by omega))) (fun _ hk => hk)⟩
          · skip
            go_simp
            go_wp2_with (
              go_at_call 43
              refine (rteller_at (0 + 1) l.length _ (by omega) false _ (by have := HTN.out; omega) (by have := HLEN.out; omega)).mono ?_
              rintro e wt ⟨vt, rfl, hot, hst⟩
              have HOT := Lib.hid hot.slc
              have HTT := Lib.hid ((Stay.drew (X := fun _ => False) (w := w7)).trans hst)
              clear hot hst)
            refine wpAny_listed #[false, true, true, true, true, true, true, true, true, false, false, false, false, false, false, false] (by kernel_rfl) ?_
            refine wpAny_ready (rs := [0, 9]) (by kernel_rfl) (by simp) (AllReady.cons rfl (fun K hK => ?_) (AllReady.cons rfl (fun K hK => ?_) (AllReady.nil)))
            · skip
              refine step_load_box rfl (.tmp 3) rfl w.heap.size rfl y1 y2 y3 r1 (HST7.out.box.stay HTT.out (fun y => y)) ?_
              refine hK _ _ ?_
              conv =>
                arg 7
                simp [Act.put]
              clear hK K
              refine wpAny_listed #[true, true, true, true, true, true, true, true, true, false, false, false, false, false, false, false] (by kernel_rfl) ?_
              refine wpAny_ready (rs := [9]) (by kernel_rfl) (by simp) (AllReady.cons rfl (fun K hK => ?_) (AllReady.nil))
              have q := conv_slc HOT.out
              unfold strV at q
              go_simp
              refine hK _ _ ?_
              conv =>
                arg 7
                simp [Act.put]
              clear hK K q
              refine wpAny_listed #[true, true, true, true, true, true, true, true, true, true, false, false, false, false, false, false] (by kernel_rfl) ?_
              refine wpAny_ready (rs := [10]) (by kernel_rfl) (by simp) (AllReady.cons rfl (fun K hK => ?_) (AllReady.nil))
              go_simp
              go_wp2_with (
                go_at_call 8
                refine (HWT.out wt HTT.out).mono ?_
                rintro e wq ⟨z1, z2, z3, rfl, hdq, hfq, hsq⟩
                have HDQ := Lib.hid hdq
                have HFQ := Lib.hid (show ∀ j, blk3 z1 z2 z3 j → (j < w.heap.size ∧ blk3 v1 v2 v3 j) ∨ w.heap.size + 3 ≤ j from fun j hj => (hfq j hj).elim (fun q => .inr (Nat.le_trans HST7.out.sz (Nat.le_trans HTT.out.size q))) (HST7.out.far j))
                have HSQ := Lib.hid (HTT.out.trans hsq)
                clear hdq hfq hsq)
              refine wpAny_listed #[true, true, true, true, true, true, true, true, true, true, true, false, false, false, false, false] (by kernel_rfl) ?_
              refine wpAny_takeL (i := 11) (v := .tuple #[devV z1 z2 z3 r2, .int .i64 (c2 : Nat)]) #[true, true, true, true, true, true, true, true, true, true, true, true, false, false, false, false] rfl (by kernel_rfl) (by kernel_rfl) (by kernel_rfl) (fun _ _ _ h => h) (by kernel_rfl) (Or.inl ⟨by rfl, fun W => ?_⟩) ?_
              · go_simp
              conv =>
                arg 7
                simp [Act.put]
              refine wpAny_takeL (i := 12) (v := devV z1 z2 z3 r2) #[true, true, true, true, true, true, true, true, true, true, true, true, true, false, false, false] rfl (by kernel_rfl) (by kernel_rfl) (by kernel_rfl) (fun _ _ _ h => h) (by kernel_rfl) (Or.inl ⟨by rfl, fun W => ?_⟩) ?_
              · go_simp
              conv =>
                arg 7
                simp [Act.put]
              refine wpAny_takeL (i := 13) (v := .int .i64 (c2 : Nat)) #[true, true, true, true, true, true, true, true, true, true, true, true, true, true, false, false] rfl (by kernel_rfl) (by kernel_rfl) (by kernel_rfl) (fun _ _ _ h => h) (by kernel_rfl) (Or.inl ⟨by rfl, fun W => ?_⟩) ?_
              · go_simp
              conv =>
                arg 7
                simp [Act.put]
              refine wpAny_ready (rs := [14]) (by kernel_rfl) (by simp) (AllReady.cons rfl (fun K hK => ?_) (AllReady.nil))
              refine step_store_box rfl (.tmp 3) (.tmp 96) rfl w.heap.size rfl z1 z2 z3 _ _ _ r2 _ rfl HDQ.out.one (HST7.out.box.stay HSQ.out (fun y => y)) ?_
              intro w9 hb9 s9
              have HST9 := Lib.hid ((HST7.out.stay0 HSQ.out).next hb9 s9 HDQ.out HSIM2.out HROK2.out HFQ.out)
              clear hb9 s9
              refine hK _ _ ?_
              conv =>
                arg 7
                simp [Act.put]
              clear hK K
              refine wpAny_listed #[true, true, true, true, true, true, true, true, true, true, true, true, true, true, true, false] (by kernel_rfl) ?_
              refine wpAny_takeL (i := 15) (v := .int .i64 (c2 : Nat)) #[true, true, true, true, true, true, true, true, true, true, true, true, true, true, true, true] rfl (by kernel_rfl) (by kernel_rfl) (by kernel_rfl) (fun _ _ _ h => h) (by kernel_rfl) (Or.inl ⟨by rfl, fun W => ?_⟩) ?_
              · go_simp
              conv =>
                arg 7
                simp [Act.put]
              refine wpAny_done (by kernel_rfl) ?_ _
              have HO9 := Lib.hid HST9.out.dv.one
              have hcase2 : (c2 ≠ 0 ∧ ((c2 : Int) == 0) = false) ∨ c2 = 0 := by
                by_cases e : c2 = 0
                · exact .inr e
                · exact .inl ⟨e, beq_eq_false_iff_ne.2 (by omega)⟩
              rcases hcase2 with ⟨hcn, hcb⟩ | hcz
              · have HCN := Lib.hid hcn
                clear hcn
                go_wp2_with (first
                  | (refine load_box rfl (.tmp 3) rfl w.heap.size rfl _ _ _ _ HST9.out.box ?_)
                  | (refine store_box rfl (.tmp 6) (.tmp 100) rfl (w.heap.size + 2) rfl _ _ _ _ _ _ _ _ rfl HO9.out HST9.out.res ?_
                     intro wE hE sE
                     have HE := Lib.hid hE
                     have SE := Lib.hid sE
                     clear hE sE))
                have hld := run_load_box HE.out
                refine bodyPost_ret (v := .tuple #[devV z1 z2 z3 r2, .int .i64 (c2 : Nat)]) (by simp [results, Tryz.results18, asAddr, hld]) rfl ?_
                have e9 := HSV2.out
                rw [if_neg (by rw [← HC2.out]; exact HCN.out)] at e9
                rw [e9]
                exact ⟨z1, z2, z3, r2, by rw [← HC2.out]; rfl, HST9.out.dv.stayB SE.out (fun j hj (e : j = w.heap.size + 2) => by have := HST9.out.far j hj; omega), HST9.out.sim, HST9.out.ok.mono (by have := HPB.out; omega), (fun j hj => (HST9.out.far j hj).elim (fun q => .inr q.2) (fun q => .inl (by omega))), stay_seal (X := fun j => w.heap.size ≤ j) (HST9.out.st.trans (SE.out.mono (fun j (e : j = w.heap.size + 2) => by omega))) (fun _ hk => hk)⟩
              · subst hcz
                have hfl := fun W (hW : Stay (fun _ => False) w9 W) => rflush_any W z1 z2 z3 r2 d.n _ (HST9.out.dv.stay0 hW) HST9.out.ok HN0.out hn
                have hsf := sim_flush HST9.out.sim
                have hrf := rok_flush HST9.out.ok
                have e9 := HSV2.out
                rw [if_pos HC2.out.symm] at e9
                obtain ⟨r3, hr3⟩ : ∃ r3, (flushR r2).1 = r3 := ⟨_, rfl⟩
                obtain ⟨c3, hc3⟩ : ∃ c3, (flushR r2).2 = c3 := ⟨_, rfl⟩
                rw [hr3, hc3] at hfl
                rw [hr3] at hrf hsf
                rw [hc3, ← e9] at hsf
                have HFL := Lib.hid hfl
                have HSF := Lib.hid hsf
                have HRF := Lib.hid hrf
                clear hfl hsf hrf e9 hr3 hc3
                go_wp2_with (refine load_box rfl (.tmp 3) rfl w.heap.size rfl _ _ _ _ HST9.out.box ?_)
                refine (HFL.out w9 (Stay.refl _ _)).mono ?_
                rintro e wf ⟨x1, x2, x3, rfl, hdf, hff, hsf⟩
                have HDF := Lib.hid hdf
                have HOF := Lib.hid hdf.one
                have HFF := Lib.hid (show ∀ j, blk3 x1 x2 x3 j → (j < w.heap.size ∧ blk3 v1 v2 v3 j) ∨ w.heap.size + 3 ≤ j from fun j hj => (hff j hj).elim (fun q => .inr (Nat.le_trans HST9.out.sz q)) (HST9.out.far j))
                have HSX := Lib.hid (HST9.out.stay0 hsf)
                clear hdf hff hsf
                go_wp2_with (refine store_box rfl (.tmp 6) (.tmp 104) rfl (w.heap.size + 2) rfl _ _ _ _ _ _ _ _ rfl HOF.out HSX.out.res ?_; intro wE hE sE; have HE := Lib.hid hE; have SE := Lib.hid sE; clear hE sE)
                have hld := run_load_box HE.out
                refine bodyPost_ret (v := .tuple #[devV x1 x2 x3 r3, .int .i64 (c3 : Nat)]) (by simp [results, Tryz.results18, asAddr, hld]) rfl ?_
                exact ⟨x1, x2, x3, r3, by rw [← HSF.out.2]; rfl, HDF.out.stayB SE.out (fun j hj (e : j = w.heap.size + 2) => by have := HFF.out j hj; omega), HSF.out.1, HRF.out.mono (by have := HPB.out; omega), (fun j hj => (HFF.out j hj).elim (fun q => .inr q.2) (fun q => .inl (by omega))), stay_seal (X := fun j => w.heap.size ≤ j) (HSX.out.st.trans (SE.out.mono (fun j (e : j = w.heap.size + 2) => by omega))) (fun _ hk => hk)⟩
            · skip
              have q := conv_slc HOT.out
              unfold strV at q
              go_simp
              refine hK _ _ ?_
              conv =>
                arg 7
                simp [Act.put]
              clear hK K q
              refine wpAny_listed #[false, true, true, true, true, true, true, true, true, true, false, false, false, false, false, false] (by kernel_rfl) ?_
              refine wpAny_ready (rs := [0]) (by kernel_rfl) (by simp) (AllReady.cons rfl (fun K hK => ?_) (AllReady.nil))
              refine step_load_box rfl (.tmp 3) rfl w.heap.size rfl y1 y2 y3 r1 (HST7.out.box.stay HTT.out (fun y => y)) ?_
              refine hK _ _ ?_
              conv =>
                arg 7
                simp [Act.put]
              clear hK K
              refine wpAny_listed #[true, true, true, true, true, true, true, true, true, true, false, false, false, false, false, false] (by kernel_rfl) ?_
              refine wpAny_ready (rs := [10]) (by kernel_rfl) (by simp) (AllReady.cons rfl (fun K hK => ?_) (AllReady.nil))
              go_simp
              go_wp2_with (
                go_at_call 8
                refine (HWT.out wt HTT.out).mono ?_
                rintro e wq ⟨z1, z2, z3, rfl, hdq, hfq, hsq⟩
                have HDQ := Lib.hid hdq
                have HFQ := Lib.hid (show ∀ j, blk3 z1 z2 z3 j → (j < w.heap.size ∧ blk3 v1 v2 v3 j) ∨ w.heap.size + 3 ≤ j from fun j hj => (hfq j hj).elim (fun q => .inr (Nat.le_trans HST7.out.sz (Nat.le_trans HTT.out.size q))) (HST7.out.far j))
                have HSQ := Lib.hid (HTT.out.trans hsq)
                clear hdq hfq hsq)
              refine wpAny_listed #[true, true, true, true, true, true, true, true, true, true, true, false, false, false, false, false] (by kernel_rfl) ?_
              refine wpAny_takeL (i := 11) (v := .tuple #[devV z1 z2 z3 r2, .int .i64 (c2 : Nat)]) #[true, true, true, true, true, true, true, true, true, true, true, true, false, false, false, false] rfl (by kernel_rfl) (by kernel_rfl) (by kernel_rfl) (fun _ _ _ h => h) (by kernel_rfl) (Or.inl ⟨by rfl, fun W => ?_⟩) ?_
              · go_simp
              conv =>
                arg 7
                simp [Act.put]
              refine wpAny_takeL (i := 12) (v := devV z1 z2 z3 r2) #[true, true, true, true, true, true, true, true, true, true, true, true, true, false, false, false] rfl (by kernel_rfl) (by kernel_rfl) (by kernel_rfl) (fun _ _ _ h => h) (by kernel_rfl) (Or.inl ⟨by rfl, fun W => ?_⟩) ?_
              · go_simp
              conv =>
                arg 7
                simp [Act.put]
              refine wpAny_takeL (i := 13) (v := .int .i64 (c2 : Nat)) #[true, true, true, true, true, true, true, true, true, true, true, true, true, true, false, false] rfl (by kernel_rfl) (by kernel_rfl) (by kernel_rfl) (fun _ _ _ h => h) (by kernel_rfl) (Or.inl ⟨by rfl, fun W => ?_⟩) ?_
              · go_simp
              conv =>
                arg 7
                simp [Act.put]
              refine wpAny_ready (rs := [14]) (by kernel_rfl) (by simp) (AllReady.cons rfl (fun K hK => ?_) (AllReady.nil))
              refine step_store_box rfl (.tmp 3) (.tmp 96) rfl w.heap.size rfl z1 z2 z3 _ _ _ r2 _ rfl HDQ.out.one (HST7.out.box.stay HSQ.out (fun y => y)) ?_
              intro w9 hb9 s9
              have HST9 := Lib.hid ((HST7.out.stay0 HSQ.out).next hb9 s9 HDQ.out HSIM2.out HROK2.out HFQ.out)
              clear hb9 s9
              refine hK _ _ ?_
              conv =>
                arg 7
                simp [Act.put]
              clear hK K
              refine wpAny_listed #[true, true, true, true, true, true, true, true, true, true, true, true, true, true, true, false] (by kernel_rfl) ?_
              refine wpAny_takeL (i := 15) (v := .int .i64 (c2 : Nat)) #[true, true, true, true, true, true, true, true, true, true, true, true, true, true, true, true] rfl (by kernel_rfl) (by kernel_rfl) (by kernel_rfl) (fun _ _ _ h => h) (by kernel_rfl) (Or.inl ⟨by rfl, fun W => ?_⟩) ?_
              · go_simp
              conv =>
                arg 7
                simp [Act.put]
              refine wpAny_done (by kernel_rfl) ?_ _
              have HO9 := Lib.hid HST9.out.dv.one
              have hcase2 : (c2 ≠ 0 ∧ ((c2 : Int) == 0) = false) ∨ c2 = 0 := by
                by_cases e : c2 = 0
                · exact .inr e
                · exact .inl ⟨e, beq_eq_false_iff_ne.2 (by omega)⟩
              rcases hcase2 with ⟨hcn, hcb⟩ | hcz
              · have HCN := Lib.hid hcn
                clear hcn
                go_wp2_with (first
                  | (refine load_box rfl (.tmp 3) rfl w.heap.size rfl _ _ _ _ HST9.out.box ?_)
                  | (refine store_box rfl (.tmp 6) (.tmp 100) rfl (w.heap.size + 2) rfl _ _ _ _ _ _ _ _ rfl HO9.out HST9.out.res ?_
                     intro wE hE sE
                     have HE := Lib.hid hE
                     have SE := Lib.hid sE
                     clear hE sE))
                have hld := run_load_box HE.out
                refine bodyPost_ret (v := .tuple #[devV z1 z2 z3 r2, .int .i64 (c2 : Nat)]) (by simp [results, Tryz.results18, asAddr, hld]) rfl ?_
                have e9 := HSV2.out
                rw [if_neg (by rw [← HC2.out]; exact HCN.out)] at e9
                rw [e9]
                exact ⟨z1, z2, z3, r2, by rw [← HC2.out]; rfl, HST9.out.dv.stayB SE.out (fun j hj (e : j = w.heap.size + 2) => by have := HST9.out.far j hj; omega), HST9.out.sim, HST9.out.ok.mono (by have := HPB.out; omega), (fun j hj => (HST9.out.far j hj).elim (fun q => .inr q.2) (fun q => .inl (by omega))), stay_seal (X := fun j => w.heap.size ≤ j) (HST9.out.st.trans (SE.out.mono (fun j (e : j = w.heap.size + 2) => by omega))) (fun _ hk => hk)⟩
              · subst hcz
                have hfl := fun W (hW : Stay (fun _ => False) w9 W) => rflush_any W z1 z2 z3 r2 d.n _ (HST9.out.dv.stay0 hW) HST9.out.ok HN0.out hn
                have hsf := sim_flush HST9.out.sim
                have hrf := rok_flush HST9.out.ok
                have e9 := HSV2.out
                rw [if_pos HC2.out.symm] at e9
                obtain ⟨r3, hr3⟩ : ∃ r3, (flushR r2).1 = r3 := ⟨_, rfl⟩
                obtain ⟨c3, hc3⟩ : ∃ c3, (flushR r2).2 = c3 := ⟨_, rfl⟩
                rw [hr3, hc3] at hfl
                rw [hr3] at hrf hsf
                rw [hc3, ← e9] at hsf
                have HFL := Lib.hid hfl
                have HSF := Lib.hid hsf
                have HRF := Lib.hid hrf
                clear hfl hsf hrf e9 hr3 hc3
                go_wp2_with (refine load_box rfl (.tmp 3) rfl w.heap.size rfl _ _ _ _ HST9.out.box ?_)
                refine (HFL.out w9 (Stay.refl _ _)).mono ?_
                rintro e wf ⟨x1, x2, x3, rfl, hdf, hff, hsf⟩
                have HDF := Lib.hid hdf
                have HOF := Lib.hid hdf.one
                have HFF := Lib.hid (show ∀ j, blk3 x1 x2 x3 j → (j < w.heap.size ∧ blk3 v1 v2 v3 j) ∨ w.heap.size + 3 ≤ j from fun j hj => (hff j hj).elim (fun q => .inr (Nat.le_trans HST9.out.sz q)) (HST9.out.far j))
                have HSX := Lib.hid (HST9.out.stay0 hsf)
                clear hdf hff hsf
                go_wp2_with (refine store_box rfl (.tmp 6) (.tmp 104) rfl (w.heap.size + 2) rfl _ _ _ _ _ _ _ _ rfl HOF.out HSX.out.res ?_; intro wE hE sE; have HE := Lib.hid hE; have SE := Lib.hid sE; clear hE sE)
                have hld := run_load_box HE.out
                refine bodyPost_ret (v := .tuple #[devV x1 x2 x3 r3, .int .i64 (c3 : Nat)]) (by simp [results, Tryz.results18, asAddr, hld]) rfl ?_
                exact ⟨x1, x2, x3, r3, by rw [← HSF.out.2]; rfl, HDF.out.stayB SE.out (fun j hj (e : j = w.heap.size + 2) => by have := HFF.out j hj; omega), HSF.out.1, HRF.out.mono (by have := HPB.out; omega), (fun j hj => (HFF.out j hj).elim (fun q => .inr q.2) (fun q => .inl (by omega))), stay_seal (X := fun j => w.heap.size ≤ j) (HSX.out.st.trans (SE.out.mono (fun j (e : j = w.heap.size + 2) => by omega))) (fun _ hk => hk)⟩
        · skip
          go_simp
          go_wp2_with (
            go_at_call 43
            refine (rteller_at (0 + 1) l.length _ (by omega) false _ (by have := HTN.out; omega) (by have := HLEN.out; omega)).mono ?_
            rintro e wt ⟨vt, rfl, hot, hst⟩
            have HOT := Lib.hid hot.slc
            have HTT := Lib.hid ((Stay.drew (X := fun _ => False) (w := w7)).trans hst)
            clear hot hst)
          refine wpAny_listed #[false, true, false, true, true, true, true, true, true, false, false, false, false, false, false, false] (by kernel_rfl) ?_
          refine wpAny_ready (rs := [0, 2, 9]) (by kernel_rfl) (by simp) (AllReady.cons rfl (fun K hK => ?_) (AllReady.cons rfl (fun K hK => ?_) (AllReady.cons rfl (fun K hK => ?_) (AllReady.nil))))
          · skip
            refine step_load_box rfl (.tmp 3) rfl w.heap.size rfl y1 y2 y3 r1 (HST7.out.box.stay HTT.out (fun y => y)) ?_
            refine hK _ _ ?_
            conv =>
              arg 7
              simp [Act.put]
            clear hK K
            refine wpAny_listed #[true, true, false, true, true, true, true, true, true, false, false, false, false, false, false, false] (by kernel_rfl) ?_
            refine wpAny_ready (rs := [2, 9]) (by kernel_rfl) (by simp) (AllReady.cons rfl (fun K hK => ?_) (AllReady.cons rfl (fun K hK => ?_) (AllReady.nil)))
            · skip
              have q := (HST7.out.ar.stay HTT.out (fun y => y)).c0
              go_simp
              refine hK _ _ ?_
              conv =>
                arg 7
                simp [Act.put]
              clear hK K q
              refine wpAny_listed #[true, true, true, true, true, true, true, true, true, false, false, false, false, false, false, false] (by kernel_rfl) ?_
              refine wpAny_ready (rs := [9]) (by kernel_rfl) (by simp) (AllReady.cons rfl (fun K hK => ?_) (AllReady.nil))
              have q := conv_slc HOT.out
              unfold strV at q
              go_simp
              refine hK _ _ ?_
              conv =>
                arg 7
                simp [Act.put]
              clear hK K q
              refine wpAny_listed #[true, true, true, true, true, true, true, true, true, true, false, false, false, false, false, false] (by kernel_rfl) ?_
              refine wpAny_ready (rs := [10]) (by kernel_rfl) (by simp) (AllReady.cons rfl (fun K hK => ?_) (AllReady.nil))
              go_simp
              go_wp2_with (
                go_at_call 8
                refine (HWT.out wt HTT.out).mono ?_
                rintro e wq ⟨z1, z2, z3, rfl, hdq, hfq, hsq⟩
                have HDQ := Lib.hid hdq
                have HFQ := Lib.hid (show ∀ j, blk3 z1 z2 z3 j → (j < w.heap.size ∧ blk3 v1 v2 v3 j) ∨ w.heap.size + 3 ≤ j from fun j hj => (hfq j hj).elim (fun q => .inr (Nat.le_trans HST7.out.sz (Nat.le_trans HTT.out.size q))) (HST7.out.far j))
                have HSQ := Lib.hid (HTT.out.trans hsq)
                clear hdq hfq hsq)
              refine wpAny_listed #[true, true, true, true, true, true, true, true, true, true, true, false, false, false, false, false] (by kernel_rfl) ?_
              refine wpAny_takeL (i := 11) (v := .tuple #[devV z1 z2 z3 r2, .int .i64 (c2 : Nat)]) #[true, true, true, true, true, true, true, true, true, true, true, true, false, false, false, false] rfl (by kernel_rfl) (by kernel_rfl) (by kernel_rfl) (fun _ _ _ h => h) (by kernel_rfl) (Or.inl ⟨by rfl, fun W => ?_⟩) ?_
              · go_simp
              conv =>
                arg 7
                simp [Act.put]
              refine wpAny_takeL (i := 12) (v := devV z1 z2 z3 r2) #[true, true, true, true, true, true, true, true, true, true, true, true, true, false, false, false] rfl (by kernel_rfl) (by kernel_rfl) (by kernel_rfl) (fun _ _ _ h => h) (by kernel_rfl) (Or.inl ⟨by rfl, fun W => ?_⟩) ?_
              · go_simp
              conv =>
                arg 7
                simp [Act.put]
              refine wpAny_takeL (i := 13) (v := .int .i64 (c2 : Nat)) #[true, true, true, true, true, true, true, true, true, true, true, true, true, true, false, false] rfl (by kernel_rfl) (by kernel_rfl) (by kernel_rfl) (fun _ _ _ h => h) (by kernel_rfl) (Or.inl ⟨by rfl, fun W => ?_⟩) ?_
              · go_simp
              conv =>
                arg 7
                simp [Act.put]
              refine wpAny_ready (rs := [14]) (by kernel_rfl) (by simp) (AllReady.cons rfl (fun K hK => ?_) (AllReady.nil))
              refine step_store_box rfl (.tmp 3) (.tmp 96) rfl w.heap.size rfl z1 z2 z3 _ _ _ r2 _ rfl HDQ.out.one (HST7.out.box.stay HSQ.out (fun y => y)) ?_
              intro w9 hb9 s9
              have HST9 := Lib.hid ((HST7.out.stay0 HSQ.out).next hb9 s9 HDQ.out HSIM2.out HROK2.out HFQ.out)
              clear hb9 s9
              refine hK _ _ ?_
              conv =>
                arg 7
                simp [Act.put]
              clear hK K
              refine wpAny_listed #[true, true, true, true, true, true, true, true, true, true, true, true, true, true, true, false] (by kernel_rfl) ?_
              refine wpAny_takeL (i := 15) (v := .int .i64 (c2 : Nat)) #[true, true, true, true, true, true, true, true, true, true, true, true, true, true, true, true] rfl (by kernel_rfl) (by kernel_rfl) (by kernel_rfl) (fun _ _ _ h => h) (by kernel_rfl) (Or.inl ⟨by rfl, fun W => ?_⟩) ?_
              · go_simp
              conv =>
                arg 7
                simp [Act.put]
              refine wpAny_done (by kernel_rfl) ?_ _
              have HO9 := Lib.hid HST9.out.dv.one
              have hcase2 : (c2 ≠ 0 ∧ ((c2 : Int) == 0) = false) ∨ c2 = 0 := by
                by_cases e : c2 = 0
                · exact .inr e
                · exact .inl ⟨e, beq_eq_false_iff_ne.2 (by omega)⟩
              rcases hcase2 with ⟨hcn, hcb⟩ | hcz
              · have HCN := Lib.hid hcn
                clear hcn
                go_wp2_with (first
                  | (refine load_box rfl (.tmp 3) rfl w.heap.size rfl _ _ _ _ HST9.out.box ?_)
                  | (refine store_box rfl (.tmp 6) (.tmp 100) rfl (w.heap.size + 2) rfl _ _ _ _ _ _ _ _ rfl HO9.out HST9.out.res ?_
                     intro wE hE sE
                     have HE := Lib.hid hE
                     have SE := Lib.hid sE
                     clear hE sE))
                have hld := run_load_box HE.out
                refine bodyPost_ret (v := .tuple #[devV z1 z2 z3 r2, .int .i64 (c2 : Nat)]) (by simp [results, Tryz.results18, asAddr, hld]) rfl ?_
                have e9 := HSV2.out
                rw [if_neg (by rw [← HC2.out]; exact HCN.out)] at e9
                rw [e9]
                exact ⟨z1, z2, z3, r2, by rw [← HC2.out]; rfl, HST9.out.dv.stayB SE.out (fun j hj (e : j = w.heap.size + 2) => by have := HST9.out.far j hj; omega), HST9.out.sim, HST9.out.ok.mono (by have := HPB.out; omega), (fun j hj => (HST9.out.far j hj).elim (fun q => .inr q.2) (fun q => .inl (by omega))), stay_seal (X := fun j => w.heap.size ≤ j) (HST9.out.st.trans (SE.out.mono (fun j (e : j = w.heap.size + 2) => by omega))) (fun _ hk => hk)⟩
              · subst hcz
                have hfl := fun W (hW : Stay (fun _ => False) w9 W) => rflush_any W z1 z2 z3 r2 d.n _ (HST9.out.dv.stay0 hW) HST9.out.ok HN0.out hn
                have hsf := sim_flush HST9.out.sim
                have hrf := rok_flush HST9.out.ok
                have e9 := HSV2.out
                rw [if_pos HC2.out.symm] at e9
                obtain ⟨r3, hr3⟩ : ∃ r3, (flushR r2).1 = r3 := ⟨_, rfl⟩
                obtain ⟨c3, hc3⟩ : ∃ c3, (flushR r2).2 = c3 := ⟨_, rfl⟩
                rw [hr3, hc3] at hfl
                rw [hr3] at hrf hsf
                rw [hc3, ← e9] at hsf
                have HFL := Lib.hid hfl
                have HSF := Lib.hid hsf
                have HRF := Lib.hid hrf
                clear hfl hsf hrf e9 hr3 hc3
                go_wp2_with (refine load_box rfl (.tmp 3) rfl w.heap.size rfl _ _ _ _ HST9.out.box ?_)
                refine (HFL.out w9 (Stay.refl _ _)).mono ?_
                rintro e wf ⟨x1, x2, x3, rfl, hdf, hff, hsf⟩
                have HDF := Lib.hid hdf
                have HOF := Lib.hid hdf.one
                have HFF := Lib.hid (show ∀ j, blk3 x1 x2 x3 j → (j < w.heap.size ∧ blk3 v1 v2 v3 j) ∨ w.heap.size + 3 ≤ j from fun j hj => (hff j hj).elim (fun q => .inr (Nat.le_trans HST9.out.sz q)) (HST9.out.far j))
                have HSX := Lib.hid (HST9.out.stay0 hsf)
                clear hdf hff hsf
                go_wp2_with (refine store_box rfl (.tmp 6) (.tmp 104) rfl (w.heap.size + 2) rfl _ _ _ _ _ _ _ _ rfl HOF.out HSX.out.res ?_; intro wE hE sE; have HE := Lib.hid hE; have SE := Lib.hid sE; clear hE sE)
                have hld := run_load_box HE.out
                refine bodyPost_ret (v := .tuple #[devV x1 x2 x3 r3, .int .i64 (c3 : Nat)]) (by simp [results, Tryz.results18, asAddr, hld]) rfl ?_
                exact ⟨x1, x2, x3, r3, by rw [← HSF.out.2]; rfl, HDF.out.stayB SE.out (fun j hj (e : j = w.heap.size + 2) => by have := HFF.out j hj; omega), HSF.out.1, HRF.out.mono (by have := HPB.out; omega), (fun j hj => (HFF.out j hj).elim (fun q => .inr q.2) (fun q => .inl (by omega))), stay_seal (X := fun j => w.heap.size ≤ j) (HSX.out.st.trans (SE.out.mono (fun j (e : j = w.heap.size + 2) => by omega))) (fun _ hk => hk)⟩
            · skip
              have q := conv_slc HOT.out
              unfold strV at q
              go_simp
              refine hK _ _ ?_
              conv =>
                arg 7
                simp [Act.put]
              clear hK K q
              refine wpAny_listed #[true, true, false, true, true, true, true, true, true, true, false, false, false, false, false, false] (by kernel_rfl) ?_
              refine wpAny_ready (rs := [2]) (by kernel_rfl) (by simp) (AllReady.cons rfl (fun K hK => ?_) (AllReady.nil))
              have q := (HST7.out.ar.stay HTT.out (fun y => y)).c0
              go_simp
              refine hK _ _ ?_
              conv =>
                arg 7
                simp [Act.put]
              clear hK K q
              refine wpAny_listed #[true, true, true, true, true, true, true, true, true, true, false, false, false, false, false, false] (by kernel_rfl) ?_
              refine wpAny_ready (rs := [10]) (by kernel_rfl) (by simp) (AllReady.cons rfl (fun K hK => ?_) (AllReady.nil))
              go_simp
              go_wp2_with (
                go_at_call 8
                refine (HWT.out wt HTT.out).mono ?_
                rintro e wq ⟨z1, z2, z3, rfl, hdq, hfq, hsq⟩
                have HDQ := Lib.hid hdq
                have HFQ := Lib.hid (show ∀ j, blk3 z1 z2 z3 j → (j < w.heap.size ∧ blk3 v1 v2 v3 j) ∨ w.heap.size + 3 ≤ j from fun j hj => (hfq j hj).elim (fun q => .inr (Nat.le_trans HST7.out.sz (Nat.le_trans HTT.out.size q))) (HST7.out.far j))
                have HSQ := Lib.hid (HTT.out.trans hsq)
                clear hdq hfq hsq)
              refine wpAny_listed #[true, true, true, true, true, true, true, true, true, true, true, false, false, false, false, false] (by kernel_rfl) ?_
              refine wpAny_takeL (i := 11) (v := .tuple #[devV z1 z2 z3 r2, .int .i64 (c2 : Nat)]) #[true, true, true, true, true, true, true, true, true, true, true, true, false, false, false, false] rfl (by kernel_rfl) (by kernel_rfl) (by kernel_rfl) (fun _ _ _ h => h) (by kernel_rfl) (Or.inl ⟨by rfl, fun W => ?_⟩) ?_
              · go_simp
              conv =>
                arg 7
                simp [Act.put]
              refine wpAny_takeL (i := 12) (v := devV z1 z2 z3 r2) #[true, true, true, true, true, true, true, true, true, true, true, true, true, false, false, false] rfl (by kernel_rfl) (by kernel_rfl) (by kernel_rfl) (fun _ _ _ h => h) (by kernel_rfl) (Or.inl ⟨by rfl, fun W => ?_⟩) ?_
              · go_simp
              conv =>
                arg 7
                simp [Act.put]
              refine wpAny_takeL (i := 13) (v := .int .i64 (c2 : Nat)) #[true, true, true, true, true, true, true, true, true, true, true, true, true, true, false, false] rfl (by kernel_rfl) (by kernel_rfl) (by kernel_rfl) (fun _ _ _ h => h) (by kernel_rfl) (Or.inl ⟨by rfl, fun W => ?_⟩) ?_
              · go_simp
              conv =>
                arg 7
                simp [Act.put]
              refine wpAny_ready (rs := [14]) (by kernel_rfl) (by simp) (AllReady.cons rfl (fun K hK => ?_) (AllReady.nil))
              refine step_store_box rfl (.tmp 3) (.tmp 96) rfl w.heap.size rfl z1 z2 z3 _ _ _ r2 _ rfl HDQ.out.one (HST7.out.box.stay HSQ.out (fun y => y)) ?_
              intro w9 hb9 s9
              have HST9 := Lib.hid ((HST7.out.stay0 HSQ.out).next hb9 s9 HDQ.out HSIM2.out HROK2.out HFQ.out)
              clear hb9 s9
              refine hK _ _ ?_
              conv =>
                arg 7
                simp [Act.put]
              clear hK K
              refine wpAny_listed #[true, true, true, true, true, true, true, true, true, true, true, true, true, true, true, false] (by kernel_rfl) ?_
              refine wpAny_takeL (i := 15) (v := .int .i64 (c2 : Nat)) #[true, true, true, true, true, true, true, true, true, true, true, true, true, true, true, true] rfl (by kernel_rfl) (by kernel_rfl) (by kernel_rfl) (fun _ _ _ h => h) (by kernel_rfl) (Or.inl ⟨by rfl, fun W => ?_⟩) ?_
              · go_simp
              conv =>
                arg 7
                simp [Act.put]
              refine wpAny_done (by kernel_rfl) ?_ _
              have HO9 := Lib.hid HST9.out.dv.one
              have hcase2 : (c2 ≠ 0 ∧ ((c2 : Int) == 0) = false) ∨ c2 = 0 := by
                by_cases e : c2 = 0
                · exact .inr e
                · exact .inl ⟨e, beq_eq_false_iff_ne.2 (by omega)⟩
              rcases hcase2 with ⟨hcn, hcb⟩ | hcz
              · have HCN := Lib.hid hcn
                clear hcn
                go_wp2_with (first
                  | (refine load_box rfl (.tmp 3) rfl w.heap.size rfl _ _ _ _ HST9.out.box ?_)
                  | (refine store_box rfl (.tmp 6) (.tmp 100) rfl (w.heap.size + 2) rfl _ _ _ _ _ _ _ _ rfl HO9.out HST9.out.res ?_
                     intro wE hE sE
                     have HE := Lib.hid hE
                     have SE := Lib.hid sE
                     clear hE sE))
                have hld := run_load_box HE.out
                refine bodyPost_ret (v := .tuple #[devV z1 z2 z3 r2, .int .i64 (c2 : Nat)]) (by simp [results, Tryz.results18, asAddr, hld]) rfl ?_
                have e9 := HSV2.out
                rw [if_neg (by rw [← HC2.out]; exact HCN.out)] at e9
                rw [e9]
                exact ⟨z1, z2, z3, r2, by rw [← HC2.out]; rfl, HST9.out.dv.stayB SE.out (fun j hj (e : j = w.heap.size + 2) => by have := HST9.out.far j hj; omega), HST9.out.sim, HST9.out.ok.mono (by have := HPB.out; omega), (fun j hj => (HST9.out.far j hj).elim (fun q => .inr q.2) (fun q => .inl (by omega))), stay_seal (X := fun j => w.heap.size ≤ j) (HST9.out.st.trans (SE.out.mono (fun j (e : j = w.heap.size + 2) => by omega))) (fun _ hk => hk)⟩
              · subst hcz
                have hfl := fun W (hW : Stay (fun _ => False) w9 W) => rflush_any W z1 z2 z3 r2 d.n _ (HST9.out.dv.stay0 hW) HST9.out.ok HN0.out hn
                have hsf := sim_flush HST9.out.sim
                have hrf := rok_flush HST9.out.ok
                have e9 := HSV2.out
                rw [if_pos HC2.out.symm] at e9
                obtain ⟨r3, hr3⟩ : ∃ r3, (flushR r2).1 = r3 := ⟨_, rfl⟩
                obtain ⟨c3, hc3⟩ : ∃ c3, (flushR r2).2 = c3 := ⟨_, rfl⟩
                rw [hr3, hc3] at hfl
                rw [hr3] at hrf hsf
                rw [hc3, ← e9] at hsf
                have HFL := Lib.hid hfl
                have HSF := Lib.hid hsf
                have HRF := Lib.hid hrf
                clear hfl hsf hrf e9 hr3 hc3
                go_wp2_with (refine load_box rfl (.tmp 3) rfl w.heap.size rfl _ _ _ _ HST9.out.box ?_)
                refine (HFL.out w9 (Stay.refl _ _)).mono ?_
                rintro e wf ⟨x1, x2, x3, rfl, hdf, hff, hsf⟩
                have HDF := Lib.hid hdf
                have HOF := Lib.hid hdf.one
                have HFF := Lib.hid (show ∀ j, blk3 x1 x2 x3 j → (j < w.heap.size ∧ blk3 v1 v2 v3 j) ∨ w.heap.size + 3 ≤ j from fun j hj => (hff j hj).elim (fun q => .inr (Nat.le_trans HST9.out.sz q)) (HST9.out.far j))
                have HSX := Lib.hid (HST9.out.stay0 hsf)
                clear hdf hff hsf
                go_wp2_with (refine store_box rfl (.tmp 6) (.tmp 104) rfl (w.heap.size + 2) rfl _ _ _ _ _ _ _ _ rfl HOF.out HSX.out.res ?_; intro wE hE sE; have HE := Lib.hid hE; have SE := Lib.hid sE; clear hE sE)
                have hld := run_load_box HE.out
                refine bodyPost_ret (v := .tuple #[devV x1 x2 x3 r3, .int .i64 (c3 : Nat)]) (by simp [results, Tryz.results18, asAddr, hld]) rfl ?_
                exact ⟨x1, x2, x3, r3, by rw [← HSF.out.2]; rfl, HDF.out.stayB SE.out (fun j hj (e : j = w.heap.size + 2) => by have := HFF.out j hj; omega), HSF.out.1, HRF.out.mono (by have := HPB.out; omega), (fun j hj => (HFF.out j hj).elim (fun q => .inr q.2) (fun q => .inl (by omega))), stay_seal (X := fun j => w.heap.size ≤ j) (HSX.out.st.trans (SE.out.mono (fun j (e : j = w.heap.size + 2) => by omega))) (fun _ hk => hk)⟩
          · skip
            have q := (HST7.out.ar.stay HTT.out (fun y => y)).c0
            go_simp
            refine hK _ _ ?_
            conv =>
              arg 7
              simp [Act.put]
            clear hK K q
            refine wpAny_listed #[false, true, true, true, true, true, true, true, true, false, false, false, false, false, false, false] (by kernel_rfl) ?_
            refine wpAny_ready (rs := [0, 9]) (by kernel_rfl) (by simp) (AllReady.cons rfl (fun K hK => ?_) (AllReady.cons rfl (fun K hK => ?_) (AllReady.nil)))
            · skip
              refine step_load_box rfl (.tmp 3) rfl w.heap.size rfl y1 y2 y3 r1 (HST7.out.box.stay HTT.out (fun y => y)) ?_
              refine hK _ _ ?_
              conv =>
                arg 7
                simp [Act.put]
              clear hK K
              refine wpAny_listed #[true, true, true, true, true, true, true, true, true, false, false, false, false, false, false, false] (by kernel_rfl) ?_
              refine wpAny_ready (rs := [9]) (by kernel_rfl) (by simp) (AllReady.cons rfl (fun K hK => ?_) (AllReady.nil))
              have q := conv_slc HOT.out
              unfold strV at q
              go_simp
              refine hK _ _ ?_
              conv =>
                arg 7
                simp [Act.put]
              clear hK K q
              refine wpAny_listed #[true, true, true, true, true, true, true, true, true, true, false, false, false, false, false, false] (by kernel_rfl) ?_
              refine wpAny_ready (rs := [10]) (by kernel_rfl) (by simp) (AllReady.cons rfl (fun K hK => ?_) (AllReady.nil))
              go_simp
              go_wp2_with (
                go_at_call 8
                refine (HWT.out wt HTT.out).mono ?_
                rintro e wq ⟨z1, z2, z3, rfl, hdq, hfq, hsq⟩
                have HDQ := Lib.hid hdq
                have HFQ := Lib.hid (show ∀ j, blk3 z1 z2 z3 j → (j < w.heap.size ∧ blk3 v1 v2 v3 j) ∨ w.heap.size + 3 ≤ j from fun j hj => (hfq j hj).elim (fun q => .inr (Nat.le_trans HST7.out.sz (Nat.le_trans HTT.out.size q))) (HST7.out.far j))
                have HSQ := Lib.hid (HTT.out.trans hsq)
                clear hdq hfq hsq)
              refine wpAny_listed #[true, true, true, true, true, true, true, true, true, true, true, false, false, false, false, false] (by kernel_rfl) ?_
              refine wpAny_takeL (i := 11) (v := .tuple #[devV z1 z2 z3 r2, .int .i64 (c2 : Nat)]) #[true, true, true, true, true, true, true, true, true, true, true, true, false, false, false, false] rfl (by kernel_rfl) (by kernel_rfl) (by kernel_rfl) (fun _ _ _ h => h) (by kernel_rfl) (Or.inl ⟨by rfl, fun W => ?_⟩) ?_
              · go_simp
              conv =>
                arg 7
                simp [Act.put]
              refine wpAny_takeL (i := 12) (v := devV z1 z2 z3 r2) #[true, true, true, true, true, true, true, true, true, true, true, true, true, false, false, false] rfl (by kernel_rfl) (by kernel_rfl) (by kernel_rfl) (fun _ _ _ h => h) (by kernel_rfl) (Or.inl ⟨by rfl, fun W => ?_⟩) ?_
              · go_simp
              conv =>
                arg 7
                simp [Act.put]
              refine wpAny_takeL (i := 13) (v := .int .i64 (c2 : Nat)) #[true, true, true, true, true, true, true, true, true, true, true, true, true, true, false, false] rfl (by kernel_rfl) (by kernel_rfl) (by kernel_rfl) (fun _ _ _ h => h) (by kernel_rfl) (Or.inl ⟨by rfl, fun W => ?_⟩) ?_
              · go_simp
              conv =>
                arg 7
                simp [Act.put]
              refine wpAny_ready (rs := [14]) (by kernel_rfl) (by simp) (AllReady.cons rfl (fun K hK => ?_) (AllReady.nil))
              refine step_store_box rfl (.tmp 3) (.tmp 96) rfl w.heap.size rfl z1 z2 z3 _ _ _ r2 _ rfl HDQ.out.one (HST7.out.box.stay HSQ.out (fun y => y)) ?_
              intro w9 hb9 s9
              have HST9 := Lib.hid ((HST7.out.stay0 HSQ.out).next hb9 s9 HDQ.out HSIM2.out HROK2.out HFQ.out)
              clear hb9 s9
              refine hK _ _ ?_
              conv =>
                arg 7
                simp [Act.put]
              clear hK K
              refine wpAny_listed #[true, true, true, true, true, true, true, true, true, true, true, true, true, true, true, false] (by kernel_rfl) ?_
              refine wpAny_takeL (i := 15) (v := .int .i64 (c2 : Nat)) #[true, true, true, true, true, true, true, true, true, true, true, true, true, true, true, true] rfl (by kernel_rfl) (by kernel_rfl) (by kernel_rfl) (fun _ _ _ h => h) (by kernel_rfl) (Or.inl ⟨by rfl, fun W => ?_⟩) ?_
              · go_simp
              conv =>
                arg 7
                simp [Act.put]
              refine wpAny_done (by kernel_rfl) ?_ _
              have HO9 := Lib.hid HST9.out.dv.one
              have hcase2 : (c2 ≠ 0 ∧ ((c2 : Int) == 0) = false) ∨ c2 = 0 := by
                by_cases e : c2 = 0
                · exact .inr e
                · exact .inl ⟨e, beq_eq_false_iff_ne.2 (by omega)⟩
              rcases hcase2 with ⟨hcn, hcb⟩ | hcz
              · have HCN := Lib.hid hcn
                clear hcn
                go_wp2_with (first
                  | (refine load_box rfl (.tmp 3) rfl w.heap.size rfl _ _ _ _ HST9.out.box ?_)
                  | (refine store_box rfl (.tmp 6) (.tmp 100) rfl (w.heap.size + 2) rfl _ _ _ _ _ _ _ _ rfl HO9.out HST9.out.res ?_
                     intro wE hE sE
                     have HE := Lib.hid hE
                     have SE := Lib.hid sE
                     clear hE sE))
                have hld := run_load_box HE.out
                refine bodyPost_ret (v := .tuple #[devV z1 z2 z3 r2, .int .i64 (c2 : Nat)]) (by simp [results, Tryz.results18, asAddr, hld]) rfl ?_
                have e9 := HSV2.out
                rw [if_neg (by rw [← HC2.out]; exact HCN.out)] at e9
                rw [e9]
                exact ⟨z1, z2, z3, r2, by rw [← HC2.out]; rfl, HST9.out.dv.stayB SE.out (fun j hj (e : j = w.heap.size + 2) => by have := HST9.out.far j hj; omega), HST9.out.sim, HST9.out.ok.mono (by have := HPB.out; omega), (fun j hj => (HST9.out.far j hj).elim (fun q => .inr q.2) (fun q => .inl (by omega))), stay_seal (X := fun j => w.heap.size ≤ j) (HST9.out.st.trans (SE.out.mono (fun j (e : j = w.heap.size + 2) => by omega))) (fun _ hk => hk)⟩
              · subst hcz
                have hfl := fun W (hW : Stay (fun _ => False) w9 W) => rflush_any W z1 z2 z3 r2 d.n _ (HST9.out.dv.stay0 hW) HST9.out.ok HN0.out hn
                have hsf := sim_flush HST9.out.sim
                have hrf := rok_flush HST9.out.ok
                have e9 := HSV2.out
                rw [if_pos HC2.out.symm] at e9
                obtain ⟨r3, hr3⟩ : ∃ r3, (flushR r2).1 = r3 := ⟨_, rfl⟩
                obtain ⟨c3, hc3⟩ : ∃ c3, (flushR r2).2 = c3 := ⟨_, rfl⟩
                rw [hr3, hc3] at hfl
                rw [hr3] at hrf hsf
                rw [hc3, ← e9] at hsf
                have HFL := Lib.hid hfl
                have HSF := Lib.hid hsf
                have HRF := Lib.hid hrf
                clear hfl hsf hrf e9 hr3 hc3
                go_wp2_with (refine load_box rfl (.tmp 3) rfl w.heap.size rfl _ _ _ _ HST9.out.box ?_)
                refine (HFL.out w9 (Stay.refl _ _)).mono ?_
                rintro e wf ⟨x1, x2, x3, rfl, hdf, hff, hsf⟩
                have HDF := Lib.hid hdf
                have HOF := Lib.hid hdf.one
                have HFF := Lib.hid (show ∀ j, blk3 x1 x2 x3 j → (j < w.heap.size ∧ blk3 v1 v2 v3 j) ∨ w.heap.size + 3 ≤ j from fun j hj => (hff j hj).elim (fun q => .inr (Nat.le_trans HST9.out.sz q)) (HST9.out.far j))
                have HSX := Lib.hid (HST9.out.stay0 hsf)
                clear hdf hff hsf
                go_wp2_with (refine store_box rfl (.tmp 6) (.tmp 104) rfl (w.heap.size + 2) rfl _ _ _ _ _ _ _ _ rfl HOF.out HSX.out.res ?_; intro wE hE sE; have HE := Lib.hid hE; have SE := Lib.hid sE; clear hE sE)
                have hld := run_load_box HE.out
                refine bodyPost_ret (v := .tuple #[devV x1 x2 x3 r3, .int .i64 (c3 : Nat)]) (by simp [results, Tryz.results18, asAddr, hld]) rfl ?_
                exact ⟨x1, x2, x3, r3, by rw [← HSF.out.2]; rfl, HDF.out.stayB SE.out (fun j hj (e : j = w.heap.size + 2) => by have := HFF.out j hj; omega), HSF.out.1, HRF.out.mono (by have := HPB.out; omega), (fun j hj => (HFF.out j hj).elim (fun q => .inr q.2) (fun q => .inl (by omega))), stay_seal (X := fun j => w.heap.size ≤ j) (HSX.out.st.trans (SE.out.mono (fun j (e : j = w.heap.size + 2) => by omega))) (fun _ hk => hk)⟩
            · skip
              have q := conv_slc HOT.out
              unfold strV at q
              go_simp
              refine hK _ _ ?_
              conv =>
                arg 7
                simp [Act.put]
              clear hK K q
              refine wpAny_listed #[false, true, true, true, true, true, true, true, true, true, false, false, false, false, false, false] (by kernel_rfl) ?_
              refine wpAny_ready (rs := [0]) (by kernel_rfl) (by simp) (AllReady.cons rfl (fun K hK => ?_) (AllReady.nil))
              refine step_load_box rfl (.tmp 3) rfl w.heap.size rfl y1 y2 y3 r1 (HST7.out.box.stay HTT.out (fun y => y)) ?_
              refine hK _ _ ?_
              conv =>
                arg 7
                simp [Act.put]
              clear hK K
              refine wpAny_listed #[true, true, true, true, true, true, true, true, true, true, false, false, false, false, false, false] (by kernel_rfl) ?_
              refine wpAny_ready (rs := [10]) (by kernel_rfl) (by simp) (AllReady.cons rfl (fun K hK => ?_) (AllReady.nil))
              go_simp
              go_wp2_with (
                go_at_call 8
                refine (HWT.out wt HTT.out).mono ?_
                rintro e wq ⟨z1, z2, z3, rfl, hdq, hfq, hsq⟩
                have HDQ := Lib.hid hdq
                have HFQ := Lib.hid (show ∀ j, blk3 z1 z2 z3 j → (j < w.heap.size ∧ blk3 v1 v2 v3 j) ∨ w.heap.size + 3 ≤ j from fun j hj => (hfq j hj).elim (fun q => .inr (Nat.le_trans HST7.out.sz (Nat.le_trans HTT.out.size q))) (HST7.out.far j))
                have HSQ := Lib.hid (HTT.out.trans hsq)
                clear hdq hfq hsq)
              refine wpAny_listed #[true, true, true, true, true, true, true, true, true, true, true, false, false, false, false, false] (by kernel_rfl) ?_
              refine wpAny_takeL (i := 11) (v := .tuple #[devV z1 z2 z3 r2, .int .i64 (c2 : Nat)]) #[true, true, true, true, true, true, true, true, true, true, true, true, false, false, false, false] rfl (by kernel_rfl) (by kernel_rfl) (by kernel_rfl) (fun _ _ _ h => h) (by kernel_rfl) (Or.inl ⟨by rfl, fun W => ?_⟩) ?_
              · go_simp
              conv =>
                arg 7
                simp [Act.put]
              refine wpAny_takeL (i := 12) (v := devV z1 z2 z3 r2) #[true, true, true, true, true, true, true, true, true, true, true, true, true, false, false, false] rfl (by kernel_rfl) (by kernel_rfl) (by kernel_rfl) (fun _ _ _ h => h) (by kernel_rfl) (Or.inl ⟨by rfl, fun W => ?_⟩) ?_
              · go_simp
              conv =>
                arg 7
                simp [Act.put]
              refine wpAny_takeL (i := 13) (v := .int .i64 (c2 : Nat)) #[true, true, true, true, true, true, true, true, true, true, true, true, true, true, false, false] rfl (by kernel_rfl) (by kernel_rfl) (by kernel_rfl) (fun _ _ _ h => h) (by kernel_rfl) (Or.inl ⟨by rfl, fun W => ?_⟩) ?_
              · go_simp
              conv =>
                arg 7
                simp [Act.put]
              refine wpAny_ready (rs := [14]) (by kernel_rfl) (by simp) (AllReady.cons rfl (fun K hK => ?_) (AllReady.nil))
              refine step_store_box rfl (.tmp 3) (.tmp 96) rfl w.heap.size rfl z1 z2 z3 _ _ _ r2 _ rfl HDQ.out.one (HST7.out.box.stay HSQ.out (fun y => y)) ?_
              intro w9 hb9 s9
              have HST9 := Lib.hid ((HST7.out.stay0 HSQ.out).next hb9 s9 HDQ.out HSIM2.out HROK2.out HFQ.out)
              clear hb9 s9
              refine hK _ _ ?_
              conv =>
                arg 7
                simp [Act.put]
              clear hK K
              refine wpAny_listed #[true, true, true, true, true, true, true, true, true, true, true, true, true, true, true, false] (by kernel_rfl) ?_
              refine wpAny_takeL (i := 15) (v := .int .i64 (c2 : Nat)) #[true, true, true, true, true, true, true, true, true, true, true, true, true, true, true, true] rfl (by kernel_rfl) (by kernel_rfl) (by kernel_rfl) (fun _ _ _ h => h) (by kernel_rfl) (Or.inl ⟨by rfl, fun W => ?_⟩) ?_
              · go_simp
              conv =>
                arg 7
                simp [Act.put]
              refine wpAny_done (by kernel_rfl) ?_ _
              have HO9 := Lib.hid HST9.out.dv.one
              have hcase2 : (c2 ≠ 0 ∧ ((c2 : Int) == 0) = false) ∨ c2 = 0 := by
                by_cases e : c2 = 0
                · exact .inr e
                · exact .inl ⟨e, beq_eq_false_iff_ne.2 (by omega)⟩
              rcases hcase2 with ⟨hcn, hcb⟩ | hcz
              · have HCN := Lib.hid hcn
                clear hcn
                go_wp2_with (first
                  | (refine load_box rfl (.tmp 3) rfl w.heap.size rfl _ _ _ _ HST9.out.box ?_)
                  | (refine store_box rfl (.tmp 6) (.tmp 100) rfl (w.heap.size + 2) rfl _ _ _ _ _ _ _ _ rfl HO9.out HST9.out.res ?_
                     intro wE hE sE
                     have HE := Lib.hid hE
                     have SE := Lib.hid sE
                     clear hE sE))
                have hld := run_load_box HE.out
                refine bodyPost_ret (v := .tuple #[devV z1 z2 z3 r2, .int .i64 (c2 : Nat)]) (by simp [results, Tryz.results18, asAddr, hld]) rfl ?_
                have e9 := HSV2.out
                rw [if_neg (by rw [← HC2.out]; exact HCN.out)] at e9
                rw [e9]
                exact ⟨z1, z2, z3, r2, by rw [← HC2.out]; rfl, HST9.out.dv.stayB SE.out (fun j hj (e : j = w.heap.size + 2) => by have := HST9.out.far j hj; omega), HST9.out.sim, HST9.out.ok.mono (by have := HPB.out; omega), (fun j hj => (HST9.out.far j hj).elim (fun q => .inr q.2) (fun q => .inl (by omega))), stay_seal (X := fun j => w.heap.size ≤ j) (HST9.out.st.trans (SE.out.mono (fun j (e : j = w.heap.size + 2) => by omega))) (fun _ hk => hk)⟩
              · subst hcz
                have hfl := fun W (hW : Stay (fun _ => False) w9 W) => rflush_any W z1 z2 z3 r2 d.n _ (HST9.out.dv.stay0 hW) HST9.out.ok HN0.out hn
                have hsf := sim_flush HST9.out.sim
                have hrf := rok_flush HST9.out.ok
                have e9 := HSV2.out
                rw [if_pos HC2.out.symm] at e9
                obtain ⟨r3, hr3⟩ : ∃ r3, (flushR r2).1 = r3 := ⟨_, rfl⟩
                obtain ⟨c3, hc3⟩ : ∃ c3, (flushR r2).2 = c3 := ⟨_, rfl⟩
                rw [hr3, hc3] at hfl
                rw [hr3] at hrf hsf
                rw [hc3, ← e9] at hsf
                have HFL := Lib.hid hfl
                have HSF := Lib.hid hsf
                have HRF := Lib.hid hrf
                clear hfl hsf hrf e9 hr3 hc3
                go_wp2_with (refine load_box rfl (.tmp 3) rfl w.heap.size rfl _ _ _ _ HST9.out.box ?_)
                refine (HFL.out w9 (Stay.refl _ _)).mono ?_
                rintro e wf ⟨x1, x2, x3, rfl, hdf, hff, hsf⟩
                have HDF := Lib.hid hdf
                have HOF := Lib.hid hdf.one
                have HFF := Lib.hid (show ∀ j, blk3 x1 x2 x3 j → (j < w.heap.size ∧ blk3 v1 v2 v3 j) ∨ w.heap.size + 3 ≤ j from fun j hj => (hff j hj).elim (fun q => .inr (Nat.le_trans HST9.out.sz q)) (HST9.out.far j))
                have HSX := Lib.hid (HST9.out.stay0 hsf)
                clear hdf hff hsf
                go_wp2_with (refine store_box rfl (.tmp 6) (.tmp 104) rfl (w.heap.size + 2) rfl _ _ _ _ _ _ _ _ rfl HOF.out HSX.out.res ?_; intro wE hE sE; have HE := Lib.hid hE; have SE := Lib.hid sE; clear hE sE)
                have hld := run_load_box HE.out
                refine bodyPost_ret (v := .tuple #[devV x1 x2 x3 r3, .int .i64 (c3 : Nat)]) (by simp [results, Tryz.results18, asAddr, hld]) rfl ?_
                exact ⟨x1, x2, x3, r3, by rw [← HSF.out.2]; rfl, HDF.out.stayB SE.out (fun j hj (e : j = w.heap.size + 2) => by have := HFF.out j hj; omega), HSF.out.1, HRF.out.mono (by have := HPB.out; omega), (fun j hj => (HFF.out j hj).elim (fun q => .inr q.2) (fun q => .inl (by omega))), stay_seal (X := fun j => w.heap.size ≤ j) (HSX.out.st.trans (SE.out.mono (fun j (e : j = w.heap.size + 2) => by omega))) (fun _ hk => hk)⟩
          · skip
            have q := conv_slc HOT.out
            unfold strV at q
            go_simp
            refine hK _ _ ?_
            conv =>
              arg 7
              simp [Act.put]
            clear hK K q
            refine wpAny_listed #[false, true, false, true, true, true, true, true, true, true, false, false, false, false, false, false] (by kernel_rfl) ?_
            refine wpAny_ready (rs := [0, 2]) (by kernel_rfl) (by simp) (AllReady.cons rfl (fun K hK => ?_) (AllReady.cons rfl (fun K hK => ?_) (AllReady.nil)))
            · skip
              refine step_load_box rfl (.tmp 3) rfl w.heap.size rfl y1 y2 y3 r1 (HST7.out.box.stay HTT.out (fun y => y)) ?_
              refine hK _ _ ?_
              conv =>
                arg 7
                simp [Act.put]
              clear hK K
              refine wpAny_listed #[true, true, false, true, true, true, true, true, true, true, false, false, false, false, false, false] (by kernel_rfl) ?_
              refine wpAny_ready (rs := [2]) (by kernel_rfl) (by simp) (AllReady.cons rfl (fun K hK => ?_) (AllReady.nil))
              have q := (HST7.out.ar.stay HTT.out (fun y => y)).c0
              go_simp
              refine hK _ _ ?_
              conv =>
                arg 7
                simp [Act.put]
              clear hK K q
              refine wpAny_listed #[true, true, true, true, true, true, true, true, true, true, false, false, false, false, false, false] (by kernel_rfl) ?_
              refine wpAny_ready (rs := [10]) (by kernel_rfl) (by simp) (AllReady.cons rfl (fun K hK => ?_) (AllReady.nil))
              go_simp
              go_wp2_with (
                go_at_call 8
                refine (HWT.out wt HTT.out).mono ?_
                rintro e wq ⟨z1, z2, z3, rfl, hdq, hfq, hsq⟩
                have HDQ := Lib.hid hdq
                have HFQ := Lib.hid (show ∀ j, blk3 z1 z2 z3 j → (j < w.heap.size ∧ blk3 v1 v2 v3 j) ∨ w.heap.size + 3 ≤ j from fun j hj => (hfq j hj).elim (fun q => .inr (Nat.le_trans HST7.out.sz (Nat.le_trans HTT.out.size q))) (HST7.out.far j))
                have HSQ := Lib.hid (HTT.out.trans hsq)
                clear hdq hfq hsq)
              refine wpAny_listed #[true, true, true, true, true, true, true, true, true, true, true, false, false, false, false, false] (by kernel_rfl) ?_
              refine wpAny_takeL (i := 11) (v := .tuple #[devV z1 z2 z3 r2, .int .i64 (c2 : Nat)]) #[true, true, true, true, true, true, true, true, true, true, true, true, false, false, false, false] rfl (by kernel_rfl) (by kernel_rfl) (by kernel_rfl) (fun _ _ _ h => h) (by kernel_rfl) (Or.inl ⟨by rfl, fun W => ?_⟩) ?_
              · go_simp
              conv =>
                arg 7
                simp [Act.put]
              refine wpAny_takeL (i := 12) (v := devV z1 z2 z3 r2) #[true, true, true, true, true, true, true, true, true, true, true, true, true, false, false, false] rfl (by kernel_rfl) (by kernel_rfl) (by kernel_rfl) (fun _ _ _ h => h) (by kernel_rfl) (Or.inl ⟨by rfl, fun W => ?_⟩) ?_
              · go_simp
              conv =>
                arg 7
                simp [Act.put]
              refine wpAny_takeL (i := 13) (v := .int .i64 (c2 : Nat)) #[true, true, true, true, true, true, true, true, true, true, true, true, true, true, false, false] rfl (by kernel_rfl) (by kernel_rfl) (by kernel_rfl) (fun _ _ _ h => h) (by kernel_rfl) (Or.inl ⟨by rfl, fun W => ?_⟩) ?_
              · go_simp
              conv =>
                arg 7
                simp [Act.put]
              refine wpAny_ready (rs := [14]) (by kernel_rfl) (by simp) (AllReady.cons rfl (fun K hK => ?_) (AllReady.nil))
              refine step_store_box rfl (.tmp 3) (.tmp 96) rfl w.heap.size rfl z1 z2 z3 _ _ _ r2 _ rfl HDQ.out.one (HST7.out.box.stay HSQ.out (fun y => y)) ?_
              intro w9 hb9 s9
              have HST9 := Lib.hid ((HST7.out.stay0 HSQ.out).next hb9 s9 HDQ.out HSIM2.out HROK2.out HFQ.out)
              clear hb9 s9
              refine hK _ _ ?_
              conv =>
                arg 7
                simp [Act.put]
              clear hK K
              refine wpAny_listed #[true, true, true, true, true, true, true, true, true, true, true, true, true, true, true, false] (by kernel_rfl) ?_
              refine wpAny_takeL (i := 15) (v := .int .i64 (c2 : Nat)) #[true, true, true, true, true, true, true, true, true, true, true, true, true, true, true, true] rfl (by kernel_rfl) (by kernel_rfl) (by kernel_rfl) (fun _ _ _ h => h) (by kernel_rfl) (Or.inl ⟨by rfl, fun W => ?_⟩) ?_
              · go_simp
              conv =>
                arg 7
                simp [Act.put]
              refine wpAny_done (by kernel_rfl) ?_ _
              have HO9 := Lib.hid HST9.out.dv.one
              have hcase2 : (c2 ≠ 0 ∧ ((c2 : Int) == 0) = false) ∨ c2 = 0 := by
                by_cases e : c2 = 0
                · exact .inr e
                · exact .inl ⟨e, beq_eq_false_iff_ne.2 (by omega)⟩
              rcases hcase2 with ⟨hcn, hcb⟩ | hcz
              · have HCN := Lib.hid hcn
                clear hcn
                go_wp2_with (first
                  | (refine load_box rfl (.tmp 3) rfl w.heap.size rfl _ _ _ _ HST9.out.box ?_)
                  | (refine store_box rfl (.tmp 6) (.tmp 100) rfl (w.heap.size + 2) rfl _ _ _ _ _ _ _ _ rfl HO9.out HST9.out.res ?_
                     intro wE hE sE
                     have HE := Lib.hid hE
                     have SE := Lib.hid sE
                     clear hE sE))
                have hld := run_load_box HE.out
                refine bodyPost_ret (v := .tuple #[devV z1 z2 z3 r2, .int .i64 (c2 : Nat)]) (by simp [results, Tryz.results18, asAddr, hld]) rfl ?_
                have e9 := HSV2.out
                rw [if_neg (by rw [← HC2.out]; exact HCN.out)] at e9
                rw [e9]
                exact ⟨z1, z2, z3, r2, by rw [← HC2.out]; rfl, HST9.out.dv.stayB SE.out (fun j hj (e : j = w.heap.size + 2) => by have := HST9.out.far j hj; omega), HST9.out.sim, HST9.out.ok.mono (by have := HPB.out; omega), (fun j hj => (HST9.out.far j hj).elim (fun q => .inr q.2) (fun q => .inl (by omega))), stay_seal (X := fun j => w.heap.size ≤ j) (HST9.out.st.trans (SE.out.mono (fun j (e : j = w.heap.size + 2) => by omega))) (fun _ hk => hk)⟩
              · subst hcz
                have hfl := fun W (hW : Stay (fun _ => False) w9 W) => rflush_any W z1 z2 z3 r2 d.n _ (HST9.out.dv.stay0 hW) HST9.out.ok HN0.out hn
                have hsf := sim_flush HST9.out.sim
                have hrf := rok_flush HST9.out.ok
                have e9 := HSV2.out
                rw [if_pos HC2.out.symm] at e9
                obtain ⟨r3, hr3⟩ : ∃ r3, (flushR r2).1 = r3 := ⟨_, rfl⟩
                obtain ⟨c3, hc3⟩ : ∃ c3, (flushR r2).2 = c3 := ⟨_, rfl⟩
                rw [hr3, hc3] at hfl
                rw [hr3] at hrf hsf
                rw [hc3, ← e9] at hsf
                have HFL := Lib.hid hfl
                have HSF := Lib.hid hsf
                have HRF := Lib.hid hrf
                clear hfl hsf hrf e9 hr3 hc3
                go_wp2_with (refine load_box rfl (.tmp 3) rfl w.heap.size rfl _ _ _ _ HST9.out.box ?_)
                refine (HFL.out w9 (Stay.refl _ _)).mono ?_
                rintro e wf ⟨x1, x2, x3, rfl, hdf, hff, hsf⟩
                have HDF := Lib.hid hdf
                have HOF := Lib.hid hdf.one
                have HFF := Lib.hid (show ∀ j, blk3 x1 x2 x3 j → (j < w.heap.size ∧ blk3 v1 v2 v3 j) ∨ w.heap.size + 3 ≤ j from fun j hj => (hff j hj).elim (fun q => .inr (Nat.le_trans HST9.out.sz q)) (HST9.out.far j))
                have HSX := Lib.hid (HST9.out.stay0 hsf)
                clear hdf hff hsf
                go_wp2_with (refine store_box rfl (.tmp 6) (.tmp 104) rfl (w.heap.size + 2) rfl _ _ _ _ _ _ _ _ rfl HOF.out HSX.out.res ?_; intro wE hE sE; have HE := Lib.hid hE; have SE := Lib.hid sE; clear hE sE)
                have hld := run_load_box HE.out
                refine bodyPost_ret (v := .tuple #[devV x1 x2 x3 r3, .int .i64 (c3 : Nat)]) (by simp [results, Tryz.results18, asAddr, hld]) rfl ?_
                exact ⟨x1, x2, x3, r3, by rw [← HSF.out.2]; rfl, HDF.out.stayB SE.out (fun j hj (e : j = w.heap.size + 2) => by have := HFF.out j hj; omega), HSF.out.1, HRF.out.mono (by have := HPB.out; omega), (fun j hj => (HFF.out j hj).elim (fun q => .inr q.2) (fun q => .inl (by omega))), stay_seal (X := fun j => w.heap.size ≤ j) (HSX.out.st.trans (SE.out.mono (fun j (e : j = w.heap.size + 2) => by omega))) (fun _ hk => hk)⟩
            · skip
              have q := (HST7.out.ar.stay HTT.out (fun y => y)).c0
              go_simp
              refine hK _ _ ?_
              conv =>
                arg 7
                simp [Act.put]
              clear hK K q
              refine wpAny_listed #[false, true, true, true, true, true, true, true, true, true, false, false, false, false, false, false] (by kernel_rfl) ?_
              refine wpAny_ready (rs := [0]) (by kernel_rfl) (by simp) (AllReady.cons rfl (fun K hK => ?_) (AllReady.nil))
              refine step_load_box rfl (.tmp 3) rfl w.heap.size rfl y1 y2 y3 r1 (HST7.out.box.stay HTT.out (fun y => y)) ?_
              refine hK _ _ ?_
              conv =>
                arg 7
                simp [Act.put]
              clear hK K
              refine wpAny_listed #[true, true, true, true, true, true, true, true, true, true, false, false, false, false, false, false] (by kernel_rfl) ?_
              refine wpAny_ready (rs := [10]) (by kernel_rfl) (by simp) (AllReady.cons rfl (fun K hK => ?_) (AllReady.nil))
              go_simp
              go_wp2_with (
                go_at_call 8
                refine (HWT.out wt HTT.out).mono ?_
                rintro e wq ⟨z1, z2, z3, rfl, hdq, hfq, hsq⟩
                have HDQ := Lib.hid hdq
                have HFQ := Lib.hid (show ∀ j, blk3 z1 z2 z3 j → (j < w.heap.size ∧ blk3 v1 v2 v3 j) ∨ w.heap.size + 3 ≤ j from fun j hj => (hfq j hj).elim (fun q => .inr (Nat.le_trans HST7.out.sz (Nat.le_trans HTT.out.size q))) (HST7.out.far j))
                have HSQ := Lib.hid (HTT.out.trans hsq)
                clear hdq hfq hsq)
              refine wpAny_listed #[true, true, true, true, true, true, true, true, true, true, true, false, false, false, false, false] (by kernel_rfl) ?_
              refine wpAny_takeL (i := 11) (v := .tuple #[devV z1 z2 z3 r2, .int .i64 (c2 : Nat)]) #[true, true, true, true, true, true, true, true, true, true, true, true, false, false, false, false] rfl (by kernel_rfl) (by kernel_rfl) (by kernel_rfl) (fun _ _ _ h => h) (by kernel_rfl) (Or.inl ⟨by rfl, fun W => ?_⟩) ?_
              · go_simp
              conv =>
                arg 7
                simp [Act.put]
              refine wpAny_takeL (i := 12) (v := devV z1 z2 z3 r2) #[true, true, true, true, true, true, true, true, true, true, true, true, true, false, false, false] rfl (by kernel_rfl) (by kernel_rfl) (by kernel_rfl) (fun _ _ _ h => h) (by kernel_rfl) (Or.inl ⟨by rfl, fun W => ?_⟩) ?_
              · go_simp
              conv =>
                arg 7
                simp [Act.put]
              refine wpAny_takeL (i := 13) (v := .int .i64 (c2 : Nat)) #[true, true, true, true, true, true, true, true, true, true, true, true, true, true, false, false] rfl (by kernel_rfl) (by kernel_rfl) (by kernel_rfl) (fun _ _ _ h => h) (by kernel_rfl) (Or.inl ⟨by rfl, fun W => ?_⟩) ?_
              · go_simp
              conv =>
                arg 7
                simp [Act.put]
              refine wpAny_ready (rs := [14]) (by kernel_rfl) (by simp) (AllReady.cons rfl (fun K hK => ?_) (AllReady.nil))
              refine step_store_box rfl (.tmp 3) (.tmp 96) rfl w.heap.size rfl z1 z2 z3 _ _ _ r2 _ rfl HDQ.out.one (HST7.out.box.stay HSQ.out (fun y => y)) ?_
              intro w9 hb9 s9
              have HST9 := Lib.hid ((HST7.out.stay0 HSQ.out).next hb9 s9 HDQ.out HSIM2.out HROK2.out HFQ.out)
              clear hb9 s9
              refine hK _ _ ?_
              conv =>
                arg 7
                simp [Act.put]
              clear hK K
              refine wpAny_listed #[true, true, true, true, true, true, true, true, true, true, true, true, true, true, true, false] (by kernel_rfl) ?_
              refine wpAny_takeL (i := 15) (v := .int .i64 (c2 : Nat)) #[true, true, true, true, true, true, true, true, true, true, true, true, true, true, true, true] rfl (by kernel_rfl) (by kernel_rfl) (by kernel_rfl) (fun _ _ _ h => h) (by kernel_rfl) (Or.inl ⟨by rfl, fun W => ?_⟩) ?_
              · go_simp
              conv =>
                arg 7
                simp [Act.put]
              refine wpAny_done (by kernel_rfl) ?_ _
              have HO9 := Lib.hid HST9.out.dv.one
              have hcase2 : (c2 ≠ 0 ∧ ((c2 : Int) == 0) = false) ∨ c2 = 0 := by
                by_cases e : c2 = 0
                · exact .inr e
                · exact .inl ⟨e, beq_eq_false_iff_ne.2 (by omega)⟩
              rcases hcase2 with ⟨hcn, hcb⟩ | hcz
              · have HCN := Lib.hid hcn
                clear hcn
                go_wp2_with (first
                  | (refine load_box rfl (.tmp 3) rfl w.heap.size rfl _ _ _ _ HST9.out.box ?_)
                  | (refine store_box rfl (.tmp 6) (.tmp 100) rfl (w.heap.size + 2) rfl _ _ _ _ _ _ _ _ rfl HO9.out HST9.out.res ?_
                     intro wE hE sE
                     have HE := Lib.hid hE
                     have SE := Lib.hid sE
                     clear hE sE))
                have hld := run_load_box HE.out
                refine bodyPost_ret (v := .tuple #[devV z1 z2 z3 r2, .int .i64 (c2 : Nat)]) (by simp [results, Tryz.results18, asAddr, hld]) rfl ?_
                have e9 := HSV2.out
                rw [if_neg (by rw [← HC2.out]; exact HCN.out)] at e9
                rw [e9]
                exact ⟨z1, z2, z3, r2, by rw [← HC2.out]; rfl, HST9.out.dv.stayB SE.out (fun j hj (e : j = w.heap.size + 2) => by have := HST9.out.far j hj; omega), HST9.out.sim, HST9.out.ok.mono (by have := HPB.out; omega), (fun j hj => (HST9.out.far j hj).elim (fun q => .inr q.2) (fun q => .inl (by omega))), stay_seal (X := fun j => w.heap.size ≤ j) (HST9.out.st.trans (SE.out.mono (fun j (e : j = w.heap.size + 2) => by omega))) (fun _ hk => hk)⟩
              · subst hcz
                have hfl := fun W (hW : Stay (fun _ => False) w9 W) => rflush_any W z1 z2 z3 r2 d.n _ (HST9.out.dv.stay0 hW) HST9.out.ok HN0.out hn
                have hsf := sim_flush HST9.out.sim
                have hrf := rok_flush HST9.out.ok
                have e9 := HSV2.out
                rw [if_pos HC2.out.symm] at e9
                obtain ⟨r3, hr3⟩ : ∃ r3, (flushR r2).1 = r3 := ⟨_, rfl⟩
                obtain ⟨c3, hc3⟩ : ∃ c3, (flushR r2).2 = c3 := ⟨_, rfl⟩
                rw [hr3, hc3] at hfl
                rw [hr3] at hrf hsf
                rw [hc3, ← e9] at hsf
                have HFL := Lib.hid hfl
                have HSF := Lib.hid hsf
                have HRF := Lib.hid hrf
                clear hfl hsf hrf e9 hr3 hc3
                go_wp2_with (refine load_box rfl (.tmp 3) rfl w.heap.size rfl _ _ _ _ HST9.out.box ?_)
                refine (HFL.out w9 (Stay.refl _ _)).mono ?_
                rintro e wf ⟨x1, x2, x3, rfl, hdf, hff, hsf⟩
                have HDF := Lib.hid hdf
                have HOF := Lib.hid hdf.one
                have HFF := Lib.hid (show ∀ j, blk3 x1 x2 x3 j → (j < w.heap.size ∧ blk3 v1 v2 v3 j) ∨ w.heap.size + 3 ≤ j from fun j hj => (hff j hj).elim (fun q => .inr (Nat.le_trans HST9.out.sz q)) (HST9.out.far j))
                have HSX := Lib.hid (HST9.out.stay0 hsf)
                clear hdf hff hsf
                go_wp2_with (refine store_box rfl (.tmp 6) (.tmp 104) rfl (w.heap.size + 2) rfl _ _ _ _ _ _ _ _ rfl HOF.out HSX.out.res ?_; intro wE hE sE; have HE := Lib.hid hE; have SE := Lib.hid sE; clear hE sE)
                have hld := run_load_box HE.out
                refine bodyPost_ret (v := .tuple #[devV x1 x2 x3 r3, .int .i64 (c3 : Nat)]) (by simp [results, Tryz.results18, asAddr, hld]) rfl ?_
                exact ⟨x1, x2, x3, r3, by rw [← HSF.out.2]; rfl, HDF.out.stayB SE.out (fun j hj (e : j = w.heap.size + 2) => by have := HFF.out j hj; omega), HSF.out.1, HRF.out.mono (by have := HPB.out; omega), (fun j hj => (HFF.out j hj).elim (fun q => .inr q.2) (fun q => .inl (by omega))), stay_seal (X := fun j => w.heap.size ≤ j) (HSX.out.st.trans (SE.out.mono (fun j (e : j = w.heap.size + 2) => by omega))) (fun _ hk => hk)⟩
end Go.Proofs.YtlmaooeeklhelaaGreatDoor.Tg
