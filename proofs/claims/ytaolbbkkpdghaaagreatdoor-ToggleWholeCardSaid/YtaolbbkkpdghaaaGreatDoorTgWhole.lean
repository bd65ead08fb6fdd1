/-
  ToggleWhole's walk.
-/
import Derived.Test.YtaolbbkkpdghaaaGreatDoorTgWholeG
namespace Go.Proofs.YtaolbbkkpdghaaaGreatDoor.Tg
open Go.RowKit Pk
set_option maxRecDepth 100000

set_option maxHeartbeats 8000000 in
theorem whole_walk (w : World) (lp : Option Addr) (c0 : Nat) (xs : List (Value × List UInt8)) (a1 : Option Addr) (c1 : Nat) (arms : List Int) (kv : Value) (ks : List Bool) (hx : Txts w lp xs) (ha : Nums w a1 arms) (hk : Marks w kv ks) (hkl : ks.length ≤ 140737488355328) (hg : ErrCell w) :
    Calls Tryz.prog 4 #[.slice lp xs.length c0, .slice a1 arms.length c1, kv] w fun e w' => e = .returned (.bool true) ∧ Stay (fun _ => False) w w' := by
  have hlen := hx.1
  have hlen1 := ha.1
  have HX := Lib.hid hx
  have HM := Lib.hid ha
  have HK := Lib.hid hk
  have HG := Lib.hid hg
  clear hx ha hk hg
  go_enter Tryz.func4, Tryz.ntmps4
  go_wp2_with fail
  refine (new_at 11 w (by omega) (by omega)).mono ?_
  rintro e w1 ⟨pd, ps, pm, rfl, h1, hF, hs1⟩
  have HF := Lib.hid hF
  have HS1 := Lib.hid hs1
  have HD1 := Lib.hid h1
  clear hs1 hF h1
  go_wp2_with fail
  obtain ⟨w2, hw2⟩ : ∃ w2, w1.alloc (.cells #[.int .i64 1, .int .i64 10] 36) = w2 := ⟨_, rfl⟩
  have HA2 := Lib.hid (show w2.heap[w1.heap.size]? = some (.cells #[.int .i64 1, .int .i64 10] 36 (0, 0)) from hw2 ▸ heap_alloc_new w1 _)
  have HS2 := Lib.hid (show Stay (fun _ => False) w1 w2 from hw2 ▸ Stay.alloc _ _)
  have HD2 := Lib.hid (HD1.out.stay HS2.out (fun x => x) (fun x => x) (fun x => x))
  rw [hw2]
  clear hw2
  have HNA := Lib.hid (show ¬ own pd ps pm w1.heap.size from fun q => absurd (dev_lts HD1.out _ q) (Nat.lt_irrefl _))
  have HGN := Lib.hid (show ¬ own pd ps pm 0 from HF.out.not_own (World.block_lt_of_cell? w _ HG.out))
  go_loopw [10, 11, 12] (fun a b c wr => ∃ (i : Nat) (d : DS) (o : Option (List UInt8)) (n : Nat), i ≤ xs.length ∧ i ≤ 20 ∧ c = .int .i64 (i : Int) ∧ WholeInv w2 pd ps pm i a b wr d o n) (fun _ _ c _ => 20 - valI c)
  case atStart =>
    exact ⟨0, fresh 11, none, 0, Nat.zero_le _, Nat.zero_le _, rfl, rfl, rfl, HD2.out, (dok_fresh 11).mono (by omega), holds_fresh 11 1 10 (by omega) (by omega) (by omega), Nat.le_refl _, Stay.refl _ _⟩
  case round =>
    obtain ⟨i, d, o, n, hi1, hi2, rfl, hv⟩ := hrel
    obtain ⟨rfl, rfl, hd, hok, hh, hle, hst⟩ := hv
    have HST := Lib.hid hst
    have HDR := Lib.hid hd
    have HOK := Lib.hid hok
    have HH := Lib.hid hh
    have HWR := Lib.hid (show Stay (own pd ps pm) w wr from ((HS1.out.trans HS2.out).mono (fun _ x => x.elim)).trans hst)
    have HAR4 := Lib.hid ((hst.block _ (lt_of_block HA2.out) HNA.out).trans HA2.out)
    clear hst hd hok hh
    by_cases hmore : i < xs.length ∧ i < 20
    · obtain ⟨hm1, hm2⟩ := hmore
      obtain ⟨lb, lo, rfl, hlb, hget⟩ := HX.out.2 (by omega)
      obtain ⟨⟨xv, l⟩, hxl⟩ : ∃ v, xs[i]? = some v := ⟨xs[i], List.getElem?_eq_getElem hm1⟩
      have hgi : w.cell? ⟨lb, lo + i, none⟩ = some xv ∧ Slc w xv l := hget i _ hxl
      have htx : Txt wr pd ps pm xv l := (txts_txt (v := (xv, l)) hgi HF.out).stay HWR.out (fun _ _ hX => hX)
      obtain ⟨ak, ck, hxv, _⟩ := hgi.2
      subst hxv
      have HGI := Lib.hid hgi
      have HTX := Lib.hid htx
      have HGW := Lib.hid (show wr.cell? ⟨lb, lo + i, none⟩ = some (.slice ak l.length ck) ∧ ¬ own pd ps pm lb from ⟨HWR.out.cell hgi.1 (HF.out.not_own hlb), HF.out.not_own hlb⟩)
      clear hget hxl hgi htx
      have hn20 : n ≤ 20 := by omega
      by_cases hak : i < arms.length
      · obtain ⟨ab, ao, rfl, hab, haget⟩ := HM.out.2 (by omega)
        obtain ⟨av, hav⟩ : ∃ v, arms[i]? = some v := ⟨arms[i], List.getElem?_eq_getElem hak⟩
        obtain ⟨k, hk9, hk⟩ := mod9 av
        have kar := HWR.out.cell (haget i _ hav) (HF.out.not_own hab)
        clear haget hav
        go_wp2_with fail
        refine (arm_up wr pd ps pm d k HDR.out HH.out.cr HH.out.lo (by omega)).mono ?_
        rintro e wa ⟨rfl, hda, hsa⟩
        have hoka := armed_ok HOK.out k hk9
        have hha := holds_armed HH.out (k : Int)
        generalize ({ d with ar := true, left := (k : Int) } : DS) = d1 at hda hoka hha
        have HDA := Lib.hid hda
        have HOKA := Lib.hid hoka
        have HHA := Lib.hid hha
        have HSA := Lib.hid hsa
        clear hda hoka hha hsa kar hk
        have htx : Txt wa pd ps pm (.slice ak l.length ck) l := HTX.out.stay HSA.out (fun _ _ hX => hX)
        have HTA := Lib.hid htx
        have HWA := Lib.hid (HWR.out.trans HSA.out)
        have HARA := Lib.hid ((HSA.out.block _ (lt_of_block HAR4.out) HNA.out).trans HAR4.out)
        obtain ⟨S, hSd⟩ : ∃ S : World → Prop, S = Stay (own pd ps pm) wa := ⟨_, rfl⟩
        have HS := Lib.hid (show ∀ W, S W → Stay (own pd ps pm) wa W by intro W h; rw [hSd] at h; exact h)
        have HSm := Lib.hid (show ∀ W, Stay (own pd ps pm) wa W → S W by intro W h; rw [hSd]; exact h)
        have HS0' := Lib.hid (HSm.out wa.drew Stay.drew)
        have hrowA := fun W (h : S W) => ((HS.out W h).block _ (lt_of_block HARA.out) HNA.out).trans HARA.out
        have HU0 := Lib.hid (fun W (h : S W) => cell_of_row W _ 0 _ _ _ (hrowA W h))
        have HU1 := Lib.hid (fun W (h : S W) => cell_of_row W _ 1 _ _ _ (hrowA W h))
        have HE0 := Lib.hid (show ∀ W, S W → W.cell? ⟨lb, lo + i, none⟩ = some (.slice ak l.length ck) from fun W h => (HWA.out.trans (HS.out W h)).cell HGI.out.1 (HF.out.not_own hlb))
        have hsv : Calls Tryz.prog 17 #[.pointer (some ⟨pd, 0, none⟩), .agg #[.int .i64 1, .int .i64 10], .slice ak l.length ck] wa.drew _ :=
          save_whole wa.drew pd ps pm d1 o n _ l _ (HDA.out.stay (Stay.drew (X := fun _ => False)) (fun x => x) (fun x => x) (fun x => x)) HOKA.out (by omega) (HTA.out.stay (Stay.drew (X := fun _ => False)) (fun _ _ x => x.elim)) HHA.out hn20
        have HSV := Lib.hid hsv
        clear hSd hrowA hsv htx
        go_wp2
        refine wp_region_held (S := S) (by kernel_rfl) ?_
        change wpAnyH _ _ _ _ _ _ _ _ (World.drew _)
        refine wpAnyH_takeL (i := 0) (v := .pointer (some ⟨pd, 0, none⟩)) #[true, false, false, false, false, false, false, false] rfl (by kernel_rfl) (by kernel_rfl) (by kernel_rfl) (fun _ _ _ h => h) (by kernel_rfl) HS0'.out (Or.inl ⟨by rfl, fun W hW => ?_⟩) ?_
        · go_simp
        conv =>
          arg 8
          simp [Act.put]
        refine wpAnyH_takeL (i := 1) (v := .agg #[.int .i64 1, .int .i64 10]) #[true, true, false, false, false, false, false, false] rfl (by kernel_rfl) (by kernel_rfl) (by kernel_rfl) (fun _ _ _ h => h) (by kernel_rfl) HS0'.out (Or.inl ⟨by rfl, fun W hW => ?_⟩) ?_
        · have k0 := HU0.out W hW
          have k1 := HU1.out W hW
          go_simp
        conv =>
          arg 8
          simp [Act.put]
        refine wpAnyH_takeL (i := 2) (v := .slice (some ⟨lb, lo, none⟩) xs.length c0) #[true, true, true, false, false, false, false, false] rfl (by kernel_rfl) (by kernel_rfl) (by kernel_rfl) (fun _ _ _ h => h) (by kernel_rfl) HS0'.out (Or.inl ⟨by rfl, fun W hW => ?_⟩) ?_
        · go_simp
        conv =>
          arg 8
          simp [Act.put]
        refine wpAnyH_takeL (i := 3) (v := .int .i64 (i : Int)) #[true, true, true, true, false, false, false, false] rfl (by kernel_rfl) (by kernel_rfl) (by kernel_rfl) (fun _ _ _ h => h) (by kernel_rfl) HS0'.out (Or.inl ⟨by rfl, fun W hW => ?_⟩) ?_
        · go_simp
        conv =>
          arg 8
          simp [Act.put]
        refine wpAnyH_takeL (i := 4) (v := .pointer (some ⟨lb, lo + i, none⟩)) #[true, true, true, true, true, false, false, false] rfl (by kernel_rfl) (by kernel_rfl) (by kernel_rfl) (fun _ _ _ h => h) (by kernel_rfl) HS0'.out (Or.inl ⟨by rfl, fun W hW => ?_⟩) ?_
        · go_simp
        conv =>
          arg 8
          simp [Act.put]
        refine wpAnyH_takeL (i := 5) (v := .slice ak l.length ck) #[true, true, true, true, true, true, false, false] rfl (by kernel_rfl) (by kernel_rfl) (by kernel_rfl) (fun _ _ _ h => h) (by kernel_rfl) HS0'.out (Or.inl ⟨by rfl, fun W hW => ?_⟩) ?_
        · have k0 := HE0.out W hW
          go_simp
        conv =>
          arg 8
          simp [Act.put]
        refine wpAnyH_one #[true, true, true, true, true, true, true, false] (i := 6) rfl (by kernel_rfl) (by kernel_rfl) (fun K hK => ?_)
        go_simp
        go_wp2_with (
          go_at_call 17
          refine (HSV.out).mono ?_
          rintro e w6 ⟨sv, rfl, hs6, d6, hd6, hok6, hc6⟩
          have HD6 := Lib.hid hd6
          have HK6 := Lib.hid hok6
          have HC6 := Lib.hid hc6
          have HS6 := Lib.hid ((Stay.drew (X := own pd ps pm) (w := wa)).trans hs6)
          clear hs6 hd6 hok6 hc6)
        refine hK _ _ ?_ ?_
        · exact HSm.out _ HS6.out
        conv =>
          arg 8
          simp [Act.put]
        refine wpAnyH_takeL (i := 7) (v := sv) #[true, true, true, true, true, true, true, true] rfl (by kernel_rfl) (by kernel_rfl) (by kernel_rfl) (fun _ _ _ h => h) (by kernel_rfl) (HSm.out _ HS6.out) (Or.inl ⟨by rfl, fun W hW => ?_⟩) ?_
        · go_simp
        conv =>
          arg 8
          simp [Act.put]
        refine wpAnyH_done (by kernel_rfl) ?_ _
        have HS6' := Lib.hid (HSA.out.trans HS6.out)
        have HW6 := Lib.hid (HWR.out.trans HS6'.out)
        have HG6 := Lib.hid (HG.out.stay HW6.out HGN.out)
        have HAR6 := Lib.hid ((HS6'.out.block _ (lt_of_block HAR4.out) HNA.out).trans HAR4.out)
        rcases HC6.out with ⟨hfit, rfl, hh6⟩ | ⟨hlong, rfl, hh6⟩ | ⟨rfl, hcr6, hlo6, hall6⟩
        · have HH6 := Lib.hid hh6
          go_wp2_with fail
          refine (downs_is w6 pd ps pm d6 false HD6.out (by rw [HH6.out.cr, HH6.out.lo]; rfl)).mono ?_
          rintro e w' ⟨rfl, rfl⟩
          clear hh6
          go_wp2
          obtain ⟨D, hDd⟩ : ∃ D : World → Prop, D = Stay (fun _ => False) w6 := ⟨_, rfl⟩
          have HD := Lib.hid (show ∀ W, D W → Stay (fun _ => False) w6 W by intro W h; rw [hDd] at h; exact h)
          have HDm := Lib.hid (show ∀ W, Stay (fun _ => False) w6 W → D W by intro W h; rw [hDd]; exact h)
          clear hDd
          have HN0 := Lib.hid (HDm.out w6.drew Stay.drew)
          have ke : ∀ i' : InC D, i'.w.cell? ⟨lb, lo + i, none⟩ = some (.slice ak l.length ck) := fun i' => (HS6'.out.trans ((HD.out _ i'.h).mono (fun _ x => x.elim))).cell HGW.out.1 HGW.out.2
          have hfitb : decide ((l.length : Int) ≤ 256) = true := by simp; omega
          haveI : Nonempty (InC D) := ⟨⟨_, HN0.out⟩⟩
          refine wp_region_class D HN0.out (by kernel_rfl) (by kernel_rfl) ?_
          repeat (go_big_quiet_step (fail))
          refine wpQuiet_nil ?_
          rintro W ⟨i', rfl⟩
          have hst9 := HD.out _ i'.h
          clear ke
          generalize i'.w = w9 at *
          have HS9 := Lib.hid (HS6'.out.trans (hst9.mono (Y := own pd ps pm) (fun _ x => x.elim)))
          have HT9 := Lib.hid hst9
          clear hst9
          have ke9 := HS9.out.cell HGW.out.1 HGW.out.2
          have hcs := conv_slc ((HTX.out.stay HS9.out (fun _ _ hX => hX)).s)
          go_wp2
          go_roundw
          case rel => exact ⟨i + 1, d6, some l, n + 1, by omega, by omega, by go_num, rfl, rfl, HD6.out.stay HT9.out (fun x => x) (fun x => x) (fun x => x), HK6.out.mono (by omega), HH6.out, by omega, HST.out.trans HS9.out⟩
          case measure => simp [valI]; omega
        · have HH6 := Lib.hid hh6
          go_wp2_with fail
          refine (downs_is w6 pd ps pm d6 false HD6.out (by rw [HH6.out.cr, HH6.out.lo]; rfl)).mono ?_
          rintro e w' ⟨rfl, rfl⟩
          clear hh6
          go_wp2
          obtain ⟨D, hDd⟩ : ∃ D : World → Prop, D = Stay (fun _ => False) w6 := ⟨_, rfl⟩
          have HD := Lib.hid (show ∀ W, D W → Stay (fun _ => False) w6 W by intro W h; rw [hDd] at h; exact h)
          have HDm := Lib.hid (show ∀ W, Stay (fun _ => False) w6 W → D W by intro W h; rw [hDd]; exact h)
          clear hDd
          have HN0 := Lib.hid (HDm.out w6.drew Stay.drew)
          have ke : ∀ i' : InC D, i'.w.cell? ⟨lb, lo + i, none⟩ = some (.slice ak l.length ck) := fun i' => (HS6'.out.trans ((HD.out _ i'.h).mono (fun _ x => x.elim))).cell HGW.out.1 HGW.out.2
          have hfitb : decide ((l.length : Int) ≤ 256) = false := by simp; omega
          haveI : Nonempty (InC D) := ⟨⟨_, HN0.out⟩⟩
          refine wp_region_class D HN0.out (by kernel_rfl) (by kernel_rfl) ?_
          repeat (go_big_quiet_step (fail))
          refine wpQuiet_nil ?_
          rintro W ⟨i', rfl⟩
          have hst9 := HD.out _ i'.h
          clear ke
          generalize i'.w = w9 at *
          have HS9 := Lib.hid (HS6'.out.trans (hst9.mono (Y := own pd ps pm) (fun _ x => x.elim)))
          have HT9 := Lib.hid hst9
          clear hst9
          have ke9 := HS9.out.cell HGW.out.1 HGW.out.2
          go_wp2
          go_roundw
          case rel => exact ⟨i + 1, d6, o, n, by omega, by omega, by go_num, rfl, rfl, HD6.out.stay HT9.out (fun x => x) (fun x => x) (fun x => x), HK6.out.mono (by omega), HH6.out, by omega, HST.out.trans HS9.out⟩
          case measure => simp [valI]; omega
        · have HCR := Lib.hid hcr6
          have HLO := Lib.hid hlo6
          have HALL := Lib.hid (hall6 ks)
          clear hcr6 hlo6 hall6
          go_wp2_with fail
          refine (downs_is w6 pd ps pm d6 true HD6.out (by rw [HCR.out]; rfl)).mono ?_
          rintro e w' ⟨rfl, rfl⟩
          go_wp2_with fail
          refine (num_errno 13 w6 HG6.out).mono ?_
          rintro e w7 ⟨rfl, hs7⟩
          have HS7 := Lib.hid (HS6'.out.trans (hs7.mono (Y := own pd ps pm) (fun _ x => x.elim)))
          have HD7 := Lib.hid (HD6.out.stay hs7 (fun x => x) (fun x => x) (fun x => x))
          clear hs7
          go_wp2_with fail
          refine (own_any w7 kv ks (HK.out.stay (HWR.out.trans HS7.out) (fun k hk hX => HF.out.not_own hk hX))).mono ?_
          rintro e w8 ⟨v8, rfl, hr8, hs8⟩
          have HR8 := Lib.hid hr8
          have HS8 := Lib.hid (HS7.out.trans (hs8.mono (Y := own pd ps pm) (fun _ x => x.elim)))
          have HD8 := Lib.hid (HD7.out.stay hs8 (fun x => x) (fun x => x) (fun x => x))
          clear hr8 hs8
          go_wp2_with fail
          refine (start_marks w8 pd ps pm d6 v8 ks w7.heap.size HD8.out HLO.out HR8.out (dev_lts HD7.out) hkl).mono ?_
          rintro e w9 ⟨rfl, hd9, hs9⟩
          have HD9 := Lib.hid hd9
          have HS9 := Lib.hid (HS8.out.trans hs9)
          have HG9 := Lib.hid (HG.out.stay (HWR.out.trans HS9.out) HGN.out)
          have HAR9 := Lib.hid ((HS9.out.block _ (lt_of_block HAR4.out) HNA.out).trans HAR4.out)
          have ka0 := cell_of_row w9 _ 0 _ _ _ HAR9.out
          have ka1 := cell_of_row w9 _ 1 _ _ _ HAR9.out
          clear hd9 hs9
          cases o with
          | none =>
            have hld : Calls Tryz.prog 19 #[.pointer (some ⟨pd, 0, none⟩), .agg #[.int .i64 1, .int .i64 10]] w9 _ := load_none0 w9 pd ps pm (d6.started ks) 1 10 n HD9.out HALL.out
            have HLD := Lib.hid hld
            clear hld
            go_wp2_with fail
            refine HLD.out.mono ?_
            rintro e w10 ⟨v10, rfl, ho10, hs10⟩
            have HS10 := Lib.hid hs10
            clear ho10 hs10
            go_wp2_with fail
            refine (num_errno 8 w10 (HG9.out.stay HS10.out (fun x => x))).mono ?_
            rintro e w11 ⟨rfl, hs11⟩
            have HS11 := Lib.hid (HS10.out.trans hs11)
            clear hs11
            go_wp2
            go_roundw
            case rel => exact ⟨i + 1, d6.started ks, none, n, by omega, by omega, by go_num, rfl, rfl, HD9.out.stay HS11.out (fun x => x) (fun x => x) (fun x => x), (started_ok HK6.out ks).mono (by omega), HALL.out, by omega, HST.out.trans (HS9.out.trans (HS11.out.mono (fun _ x => x.elim)))⟩
            case measure => simp [valI]; omega
          | some t =>
            have hld : Calls Tryz.prog 19 #[.pointer (some ⟨pd, 0, none⟩), .agg #[.int .i64 1, .int .i64 10]] w9 _ := load_some w9 pd ps pm (d6.started ks) 1 10 n t HD9.out HALL.out
            have HLD := Lib.hid hld
            clear hld
            have est : strV ((some t).getD []) = .string ⟨t.toArray⟩ := rfl
            rw [est]
            clear est
            go_wp2_with fail
            refine HLD.out.mono ?_
            rintro e w10 ⟨v10, rfl, ho10, hs10⟩
            have hcs := conv_slc ho10.slc
            unfold strV at hcs
            have HS10 := Lib.hid hs10
            clear ho10 hs10
            go_wp2
            go_roundw
            case rel => exact ⟨i + 1, d6.started ks, some t, n, by omega, by omega, by go_num, rfl, rfl, HD9.out.stay HS10.out (fun x => x) (fun x => x) (fun x => x), (started_ok HK6.out ks).mono (by omega), HALL.out, by omega, HST.out.trans (HS9.out.trans (HS10.out.mono (fun _ x => x.elim)))⟩
            case measure => simp [valI]; omega
      · obtain ⟨d1, hd1⟩ : ∃ d1, d1 = d := ⟨_, rfl⟩
        have HDA := Lib.hid (show DevAt wr pd ps pm d1 from hd1 ▸ HDR.out)
        have HOKA := Lib.hid (show DOk d1 (20000 * (i : Int)) from hd1 ▸ HOK.out)
        have HHA := Lib.hid (show Holds d1 1 10 o n from hd1 ▸ HH.out)
        have HSA := Lib.hid (show Stay (own pd ps pm) wr wr from Stay.refl _ _)
        clear hd1
        have htx : Txt wr pd ps pm (.slice ak l.length ck) l := HTX.out.stay HSA.out (fun _ _ hX => hX)
        have HTA := Lib.hid htx
        have HWA := Lib.hid (HWR.out.trans HSA.out)
        have HARA := Lib.hid ((HSA.out.block _ (lt_of_block HAR4.out) HNA.out).trans HAR4.out)
        obtain ⟨S, hSd⟩ : ∃ S : World → Prop, S = Stay (own pd ps pm) wr := ⟨_, rfl⟩
        have HS := Lib.hid (show ∀ W, S W → Stay (own pd ps pm) wr W by intro W h; rw [hSd] at h; exact h)
        have HSm := Lib.hid (show ∀ W, Stay (own pd ps pm) wr W → S W by intro W h; rw [hSd]; exact h)
        have HS0' := Lib.hid (HSm.out wr.drew Stay.drew)
        have hrowA := fun W (h : S W) => ((HS.out W h).block _ (lt_of_block HARA.out) HNA.out).trans HARA.out
        have HU0 := Lib.hid (fun W (h : S W) => cell_of_row W _ 0 _ _ _ (hrowA W h))
        have HU1 := Lib.hid (fun W (h : S W) => cell_of_row W _ 1 _ _ _ (hrowA W h))
        have HE0 := Lib.hid (show ∀ W, S W → W.cell? ⟨lb, lo + i, none⟩ = some (.slice ak l.length ck) from fun W h => (HWA.out.trans (HS.out W h)).cell HGI.out.1 (HF.out.not_own hlb))
        have hsv : Calls Tryz.prog 17 #[.pointer (some ⟨pd, 0, none⟩), .agg #[.int .i64 1, .int .i64 10], .slice ak l.length ck] wr.drew _ :=
          save_whole wr.drew pd ps pm d1 o n _ l _ (HDA.out.stay (Stay.drew (X := fun _ => False)) (fun x => x) (fun x => x) (fun x => x)) HOKA.out (by omega) (HTA.out.stay (Stay.drew (X := fun _ => False)) (fun _ _ x => x.elim)) HHA.out hn20
        have HSV := Lib.hid hsv
        clear hSd hrowA hsv htx
        go_wp2
        refine wp_region_held (S := S) (by kernel_rfl) ?_
        change wpAnyH _ _ _ _ _ _ _ _ (World.drew _)
        refine wpAnyH_takeL (i := 0) (v := .pointer (some ⟨pd, 0, none⟩)) #[true, false, false, false, false, false, false, false] rfl (by kernel_rfl) (by kernel_rfl) (by kernel_rfl) (fun _ _ _ h => h) (by kernel_rfl) HS0'.out (Or.inl ⟨by rfl, fun W hW => ?_⟩) ?_
        · go_simp
        conv =>
          arg 8
          simp [Act.put]
        refine wpAnyH_takeL (i := 1) (v := .agg #[.int .i64 1, .int .i64 10]) #[true, true, false, false, false, false, false, false] rfl (by kernel_rfl) (by kernel_rfl) (by kernel_rfl) (fun _ _ _ h => h) (by kernel_rfl) HS0'.out (Or.inl ⟨by rfl, fun W hW => ?_⟩) ?_
        · have k0 := HU0.out W hW
          have k1 := HU1.out W hW
          go_simp
        conv =>
          arg 8
          simp [Act.put]
        refine wpAnyH_takeL (i := 2) (v := .slice (some ⟨lb, lo, none⟩) xs.length c0) #[true, true, true, false, false, false, false, false] rfl (by kernel_rfl) (by kernel_rfl) (by kernel_rfl) (fun _ _ _ h => h) (by kernel_rfl) HS0'.out (Or.inl ⟨by rfl, fun W hW => ?_⟩) ?_
        · go_simp
        conv =>
          arg 8
          simp [Act.put]
        refine wpAnyH_takeL (i := 3) (v := .int .i64 (i : Int)) #[true, true, true, true, false, false, false, false] rfl (by kernel_rfl) (by kernel_rfl) (by kernel_rfl) (fun _ _ _ h => h) (by kernel_rfl) HS0'.out (Or.inl ⟨by rfl, fun W hW => ?_⟩) ?_
        · go_simp
        conv =>
          arg 8
          simp [Act.put]
        refine wpAnyH_takeL (i := 4) (v := .pointer (some ⟨lb, lo + i, none⟩)) #[true, true, true, true, true, false, false, false] rfl (by kernel_rfl) (by kernel_rfl) (by kernel_rfl) (fun _ _ _ h => h) (by kernel_rfl) HS0'.out (Or.inl ⟨by rfl, fun W hW => ?_⟩) ?_
        · go_simp
        conv =>
          arg 8
          simp [Act.put]
        refine wpAnyH_takeL (i := 5) (v := .slice ak l.length ck) #[true, true, true, true, true, true, false, false] rfl (by kernel_rfl) (by kernel_rfl) (by kernel_rfl) (fun _ _ _ h => h) (by kernel_rfl) HS0'.out (Or.inl ⟨by rfl, fun W hW => ?_⟩) ?_
        · have k0 := HE0.out W hW
          go_simp
        conv =>
          arg 8
          simp [Act.put]
        refine wpAnyH_one #[true, true, true, true, true, true, true, false] (i := 6) rfl (by kernel_rfl) (by kernel_rfl) (fun K hK => ?_)
        go_simp
        go_wp2_with (
          go_at_call 17
          refine (HSV.out).mono ?_
          rintro e w6 ⟨sv, rfl, hs6, d6, hd6, hok6, hc6⟩
          have HD6 := Lib.hid hd6
          have HK6 := Lib.hid hok6
          have HC6 := Lib.hid hc6
          have HS6 := Lib.hid ((Stay.drew (X := own pd ps pm) (w := wr)).trans hs6)
          clear hs6 hd6 hok6 hc6)
        refine hK _ _ ?_ ?_
        · exact HSm.out _ HS6.out
        conv =>
          arg 8
          simp [Act.put]
        refine wpAnyH_takeL (i := 7) (v := sv) #[true, true, true, true, true, true, true, true] rfl (by kernel_rfl) (by kernel_rfl) (by kernel_rfl) (fun _ _ _ h => h) (by kernel_rfl) (HSm.out _ HS6.out) (Or.inl ⟨by rfl, fun W hW => ?_⟩) ?_
        · go_simp
        conv =>
          arg 8
          simp [Act.put]
        refine wpAnyH_done (by kernel_rfl) ?_ _
        have HS6' := Lib.hid (HSA.out.trans HS6.out)
        have HW6 := Lib.hid (HWR.out.trans HS6'.out)
        have HG6 := Lib.hid (HG.out.stay HW6.out HGN.out)
        have HAR6 := Lib.hid ((HS6'.out.block _ (lt_of_block HAR4.out) HNA.out).trans HAR4.out)
        rcases HC6.out with ⟨hfit, rfl, hh6⟩ | ⟨hlong, rfl, hh6⟩ | ⟨rfl, hcr6, hlo6, hall6⟩
        · have HH6 := Lib.hid hh6
          go_wp2_with fail
          refine (downs_is w6 pd ps pm d6 false HD6.out (by rw [HH6.out.cr, HH6.out.lo]; rfl)).mono ?_
          rintro e w' ⟨rfl, rfl⟩
          clear hh6
          go_wp2
          obtain ⟨D, hDd⟩ : ∃ D : World → Prop, D = Stay (fun _ => False) w6 := ⟨_, rfl⟩
          have HD := Lib.hid (show ∀ W, D W → Stay (fun _ => False) w6 W by intro W h; rw [hDd] at h; exact h)
          have HDm := Lib.hid (show ∀ W, Stay (fun _ => False) w6 W → D W by intro W h; rw [hDd]; exact h)
          clear hDd
          have HN0 := Lib.hid (HDm.out w6.drew Stay.drew)
          have ke : ∀ i' : InC D, i'.w.cell? ⟨lb, lo + i, none⟩ = some (.slice ak l.length ck) := fun i' => (HS6'.out.trans ((HD.out _ i'.h).mono (fun _ x => x.elim))).cell HGW.out.1 HGW.out.2
          have hfitb : decide ((l.length : Int) ≤ 256) = true := by simp; omega
          haveI : Nonempty (InC D) := ⟨⟨_, HN0.out⟩⟩
          refine wp_region_class D HN0.out (by kernel_rfl) (by kernel_rfl) ?_
          repeat (go_big_quiet_step (fail))
          refine wpQuiet_nil ?_
          rintro W ⟨i', rfl⟩
          have hst9 := HD.out _ i'.h
          clear ke
          generalize i'.w = w9 at *
          have HS9 := Lib.hid (HS6'.out.trans (hst9.mono (Y := own pd ps pm) (fun _ x => x.elim)))
          have HT9 := Lib.hid hst9
          clear hst9
          have ke9 := HS9.out.cell HGW.out.1 HGW.out.2
          have hcs := conv_slc ((HTX.out.stay HS9.out (fun _ _ hX => hX)).s)
          go_wp2
          go_roundw
          case rel => exact ⟨i + 1, d6, some l, n + 1, by omega, by omega, by go_num, rfl, rfl, HD6.out.stay HT9.out (fun x => x) (fun x => x) (fun x => x), HK6.out.mono (by omega), HH6.out, by omega, HST.out.trans HS9.out⟩
          case measure => simp [valI]; omega
        · have HH6 := Lib.hid hh6
          go_wp2_with fail
          refine (downs_is w6 pd ps pm d6 false HD6.out (by rw [HH6.out.cr, HH6.out.lo]; rfl)).mono ?_
          rintro e w' ⟨rfl, rfl⟩
          clear hh6
          go_wp2
          obtain ⟨D, hDd⟩ : ∃ D : World → Prop, D = Stay (fun _ => False) w6 := ⟨_, rfl⟩
          have HD := Lib.hid (show ∀ W, D W → Stay (fun _ => False) w6 W by intro W h; rw [hDd] at h; exact h)
          have HDm := Lib.hid (show ∀ W, Stay (fun _ => False) w6 W → D W by intro W h; rw [hDd]; exact h)
          clear hDd
          have HN0 := Lib.hid (HDm.out w6.drew Stay.drew)
          have ke : ∀ i' : InC D, i'.w.cell? ⟨lb, lo + i, none⟩ = some (.slice ak l.length ck) := fun i' => (HS6'.out.trans ((HD.out _ i'.h).mono (fun _ x => x.elim))).cell HGW.out.1 HGW.out.2
          have hfitb : decide ((l.length : Int) ≤ 256) = false := by simp; omega
          haveI : Nonempty (InC D) := ⟨⟨_, HN0.out⟩⟩
          refine wp_region_class D HN0.out (by kernel_rfl) (by kernel_rfl) ?_
          repeat (go_big_quiet_step (fail))
          refine wpQuiet_nil ?_
          rintro W ⟨i', rfl⟩
          have hst9 := HD.out _ i'.h
          clear ke
          generalize i'.w = w9 at *
          have HS9 := Lib.hid (HS6'.out.trans (hst9.mono (Y := own pd ps pm) (fun _ x => x.elim)))
          have HT9 := Lib.hid hst9
          clear hst9
          have ke9 := HS9.out.cell HGW.out.1 HGW.out.2
          go_wp2
          go_roundw
          case rel => exact ⟨i + 1, d6, o, n, by omega, by omega, by go_num, rfl, rfl, HD6.out.stay HT9.out (fun x => x) (fun x => x) (fun x => x), HK6.out.mono (by omega), HH6.out, by omega, HST.out.trans HS9.out⟩
          case measure => simp [valI]; omega
        · have HCR := Lib.hid hcr6
          have HLO := Lib.hid hlo6
          have HALL := Lib.hid (hall6 ks)
          clear hcr6 hlo6 hall6
          go_wp2_with fail
          refine (downs_is w6 pd ps pm d6 true HD6.out (by rw [HCR.out]; rfl)).mono ?_
          rintro e w' ⟨rfl, rfl⟩
          go_wp2_with fail
          refine (num_errno 13 w6 HG6.out).mono ?_
          rintro e w7 ⟨rfl, hs7⟩
          have HS7 := Lib.hid (HS6'.out.trans (hs7.mono (Y := own pd ps pm) (fun _ x => x.elim)))
          have HD7 := Lib.hid (HD6.out.stay hs7 (fun x => x) (fun x => x) (fun x => x))
          clear hs7
          go_wp2_with fail
          refine (own_any w7 kv ks (HK.out.stay (HWR.out.trans HS7.out) (fun k hk hX => HF.out.not_own hk hX))).mono ?_
          rintro e w8 ⟨v8, rfl, hr8, hs8⟩
          have HR8 := Lib.hid hr8
          have HS8 := Lib.hid (HS7.out.trans (hs8.mono (Y := own pd ps pm) (fun _ x => x.elim)))
          have HD8 := Lib.hid (HD7.out.stay hs8 (fun x => x) (fun x => x) (fun x => x))
          clear hr8 hs8
          go_wp2_with fail
          refine (start_marks w8 pd ps pm d6 v8 ks w7.heap.size HD8.out HLO.out HR8.out (dev_lts HD7.out) hkl).mono ?_
          rintro e w9 ⟨rfl, hd9, hs9⟩
          have HD9 := Lib.hid hd9
          have HS9 := Lib.hid (HS8.out.trans hs9)
          have HG9 := Lib.hid (HG.out.stay (HWR.out.trans HS9.out) HGN.out)
          have HAR9 := Lib.hid ((HS9.out.block _ (lt_of_block HAR4.out) HNA.out).trans HAR4.out)
          have ka0 := cell_of_row w9 _ 0 _ _ _ HAR9.out
          have ka1 := cell_of_row w9 _ 1 _ _ _ HAR9.out
          clear hd9 hs9
          cases o with
          | none =>
            have hld : Calls Tryz.prog 19 #[.pointer (some ⟨pd, 0, none⟩), .agg #[.int .i64 1, .int .i64 10]] w9 _ := load_none0 w9 pd ps pm (d6.started ks) 1 10 n HD9.out HALL.out
            have HLD := Lib.hid hld
            clear hld
            go_wp2_with fail
            refine HLD.out.mono ?_
            rintro e w10 ⟨v10, rfl, ho10, hs10⟩
            have HS10 := Lib.hid hs10
            clear ho10 hs10
            go_wp2_with fail
            refine (num_errno 8 w10 (HG9.out.stay HS10.out (fun x => x))).mono ?_
            rintro e w11 ⟨rfl, hs11⟩
            have HS11 := Lib.hid (HS10.out.trans hs11)
            clear hs11
            go_wp2
            go_roundw
            case rel => exact ⟨i + 1, d6.started ks, none, n, by omega, by omega, by go_num, rfl, rfl, HD9.out.stay HS11.out (fun x => x) (fun x => x) (fun x => x), (started_ok HK6.out ks).mono (by omega), HALL.out, by omega, HST.out.trans (HS9.out.trans (HS11.out.mono (fun _ x => x.elim)))⟩
            case measure => simp [valI]; omega
          | some t =>
            have hld : Calls Tryz.prog 19 #[.pointer (some ⟨pd, 0, none⟩), .agg #[.int .i64 1, .int .i64 10]] w9 _ := load_some w9 pd ps pm (d6.started ks) 1 10 n t HD9.out HALL.out
            have HLD := Lib.hid hld
            clear hld
            have est : strV ((some t).getD []) = .string ⟨t.toArray⟩ := rfl
            rw [est]
            clear est
            go_wp2_with fail
            refine HLD.out.mono ?_
            rintro e w10 ⟨v10, rfl, ho10, hs10⟩
            have hcs := conv_slc ho10.slc
            unfold strV at hcs
            have HS10 := Lib.hid hs10
            clear ho10 hs10
            go_wp2
            go_roundw
            case rel => exact ⟨i + 1, d6.started ks, some t, n, by omega, by omega, by go_num, rfl, rfl, HD9.out.stay HS10.out (fun x => x) (fun x => x) (fun x => x), (started_ok HK6.out ks).mono (by omega), HALL.out, by omega, HST.out.trans (HS9.out.trans (HS10.out.mono (fun _ x => x.elim)))⟩
            case measure => simp [valI]; omega
    · have HSW := Lib.hid (show Stay (own pd ps pm) w1 wr from (HS2.out.mono (fun _ x => x.elim)).trans HST.out)
      have hend : ¬ ((i : Int) < (xs.length : Int)) ∨ ((i : Int) < (xs.length : Int) ∧ ¬ ((i : Int) < 20)) := by
        by_cases h : i < xs.length
        · exact .inr ⟨by omega, by omega⟩
        · exact .inl (by omega)
      have ka0 := cell_of_row wr _ 0 _ _ _ HAR4.out
      have ka1 := cell_of_row wr _ 1 _ _ _ HAR4.out
      cases o with
      | none =>
        have hld : Calls Tryz.prog 19 #[.pointer (some ⟨pd, 0, none⟩), .agg #[.int .i64 1, .int .i64 10]] wr _ := load_none0 wr pd ps pm d 1 10 n HDR.out HH.out
        have HLD := Lib.hid hld
        have est : strV ((none : Option (List UInt8)).getD []) = .string ⟨#[]⟩ := rfl
        rw [est]
        clear hld est
        rcases hend with hend | ⟨hend1, hend2⟩
        all_goals
          go_wp2_with fail
          refine HLD.out.mono ?_
          rintro e w7 ⟨v7, rfl, ho7, hs7⟩
          have hcs := conv_slc ho7.slc
          unfold strV at hcs
          have HS7 := Lib.hid hs7
          clear ho7 hs7
          go_wp2_with (
            go_at_call 24
            refine (sure_any _).mono ?_
            rintro e w11 ⟨rfl, hs11⟩
            have HS11 := Lib.hid (HS7.out.trans hs11)
            clear hs11)
          go_ret
          exact ⟨rfl, HS1.out.andThen (HSW.out.trans (HS11.out.mono (fun _ x => x.elim))) (fun k hk hq => HF.out.not_own hk hq)⟩
      | some t =>
        have hld : Calls Tryz.prog 19 #[.pointer (some ⟨pd, 0, none⟩), .agg #[.int .i64 1, .int .i64 10]] wr _ := load_some wr pd ps pm d 1 10 n t HDR.out HH.out
        have HLD := Lib.hid hld
        have est : strV ((some t).getD []) = .string ⟨t.toArray⟩ := rfl
        rw [est]
        clear hld est
        rcases hend with hend | ⟨hend1, hend2⟩
        all_goals
          go_wp2_with fail
          refine HLD.out.mono ?_
          rintro e w7 ⟨v7, rfl, ho7, hs7⟩
          have hcs := conv_slc ho7.slc
          unfold strV at hcs
          have HS7 := Lib.hid hs7
          clear ho7 hs7
          go_wp2_with (
            go_at_call 24
            refine (sure_any _).mono ?_
            rintro e w11 ⟨rfl, hs11⟩
            have HS11 := Lib.hid (HS7.out.trans hs11)
            clear hs11)
          go_ret
          exact ⟨rfl, HS1.out.andThen (HSW.out.trans (HS11.out.mono (fun _ x => x.elim))) (fun k hk hq => HF.out.not_own hk hq)⟩

end Go.Proofs.YtaolbbkkpdghaaaGreatDoor.Tg
