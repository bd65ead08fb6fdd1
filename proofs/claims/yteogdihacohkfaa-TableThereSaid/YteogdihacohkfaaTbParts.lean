/-
  table's laws: TableParts, walked.
-/
import Derived.Test.YteogdihacohkfaaTbO
import Derived.Test.YteogdihacohkfaaGaB
namespace Go.Proofs.Yteogdihacohkfaa.Tb
open Go.RowKit
open Pk (stay_seal)
open Me (En EnS EnO Box enC enV enRows norm ltB Sorted getL posN hasB sizeL entOf putsL putL Short)
open Pk (Slc Owns)
set_option maxRecDepth 100000
set_option linter.unusedVariables false

theorem small_mod (x : Int) (m : Nat) (h1 : 1 ≤ m) (h2 : m ≤ 1000) : ∃ s : Nat, wrap64 (1 + wrap64 ((IntKind.u64.wrap x).tmod m)) = (s : Int) ∧ 1 ≤ s ∧ s ≤ m := by
  obtain ⟨h0, h3⟩ := Bo.u64_in x
  rw [Int.tmod_eq_emod_of_nonneg h0]
  generalize IntKind.u64.wrap x = u at *
  have h4 := Int.emod_nonneg u (show (m : Int) ≠ 0 by omega)
  have h5 := Int.emod_lt_of_pos u (show (0 : Int) < m by omega)
  refine ⟨(1 + u % m).toNat, ?_, by omega, by omega⟩
  rw [Bo.wrap_small (u % m) (by omega) (by omega), Bo.wrap_small _ (by omega) (by omega)]
  omega

set_option maxHeartbeats 4000000 in
theorem parts_walk (w : World) (x : Value) (L : List En) (z : Int) (hx : EnS w x L) (hs : Short L) :
    Calls Try.prog 4 #[x, .int .i64 z] w fun e w' => e = .returned (.bool true) ∧ Stay (fun _ => False) w w' := by
  have HX := Lib.hid hx
  have HSH := Lib.hid hs
  obtain ⟨a0, c, rfl⟩ := hx.form
  clear hx hs
  go_enter Try.func4, Try.ntmps4
  go_wp2
  go_loopw [5, 6] (fun v i wr => ∃ j : Nat, i = .int .i64 (j : Int) ∧ j ≤ L.length ∧ j ≤ 40 ∧ Hid (EnS wr v (putsL L j)) ∧ Stay (fun _ => False) w wr) (fun _ i _ => L.length - (intOf i).toNat)
  case atStart => exact ⟨0, rfl, Nat.zero_le _, Nat.zero_le _, Lib.hid (EnS.nil _), Stay.refl _ _⟩
  case round =>
    obtain ⟨j, rfl, hj, hj40, hv, hst⟩ := hrel
    have HS := Lib.hid hst
    have HM := Lib.hid (show (putsL L j).length ≤ 1000 by have := Me.putsL_len L j; omega)
    clear hst
    by_cases hlt : j < L.length
    · by_cases hlt40 : j < 40
      · obtain ⟨q, hq⟩ : ∃ q, L[j]? = some q := ⟨_, List.getElem?_eq_getElem (by omega)⟩
        obtain ⟨g, o, rfl, _, hc⟩ := (HX.out.stay0 HS.out).at (by omega)
        obtain ⟨h0, h1, h2⟩ := hc _ q hq
        have kl := Lib.hid (Me.run_load_at h0 h1 h2)
        have HP := Lib.hid (Me.putsL_succ hq)
        clear hq hc h0 h1 h2
        go_wp2_with (first
          | (refine Me.wpList_load_run (by rfl) 28 (.tmp 29) rfl ⟨g, o + j * 3, none⟩ rfl _ kl.out ?_))
        refine (Me.rput_any wr _ (putsL L j) q hv.out HM.out).mono ?_
        rintro y w2 ⟨v2, rfl, ho2, hs2⟩
        rw [← HP.out] at ho2
        have HO2 := Lib.hid ho2.ens
        have HS2 := Lib.hid (HS.out.trans hs2)
        clear ho2 hs2
        go_wp2
        refine ⟨⟨j + 1, by go_num, hlt, hlt40, HO2, HS2.out⟩, by simp [intOf]; omega⟩
      · skip
        have HST := Lib.hid (show ∀ W, Calls Try.prog 7 #[] W fun e w' => e = .returned (.bool true) ∧ Stay (fun _ => False) W w' from sure_any)
        have hml : (putsL L j).length ≤ 40 := by have := Me.putsL_len L j; omega
        obtain ⟨M, hM⟩ : ∃ M, M = putsL L j := ⟨_, rfl⟩
        have hMs : Sorted M := hM ▸ Me.putsL_sorted L j
        have hMn : ∀ e ∈ M, norm e = e := hM ▸ norm_puts L j
        have hMz : sizeL M ≤ M.length * 281474976702464 := Me.short_size (hM ▸ Me.short_puts HSH.out j)
        rw [← hM] at hv HM hml
        clear hM
        obtain ⟨n, hn⟩ : ∃ n, n = M.length := ⟨_, rfl⟩
        have HNL := Lib.hid hn
        have HMS := Lib.hid hMs
        have HMN := Lib.hid hMn
        obtain ⟨av, cv, rfl⟩ := hv.out.form
        rw [← hn] at hv hml hMz ⊢
        have hcn : n ≤ cv := by
          obtain ⟨_, c1, e, h1, _⟩ := hv.out
          cases e
          rw [hn]
          exact h1
        have hnm : (n : Int) ≤ 40 := by omega
        have HSZ := Lib.hid (show Calls Try.prog 6 #[.slice av n cv] wr fun e w' => e = .returned (.int .i64 (sizeL M : Int)) ∧ Stay (fun _ => False) wr w' from Me.rsize_any wr _ M hv.out (by omega))
        clear hn hMs hMn
        by_cases h0 : n = 0
        · have hn0 : ((n : Int) == 0) = true := by simp [h0]
          go_wp2_with fail
          refine (HST.out wr).mono ?_
          rintro e w3 ⟨rfl, s3⟩
          have HF := Lib.hid (HS.out.trans s3)
          clear s3
          go_wp2
          go_ret
          exact ⟨rfl, HF.out⟩
        · have hn0 : ((n : Int) == 0) = false := beq_eq_false_iff_ne.2 (by omega)
          go_wp2_with fail
          refine HSZ.out.mono ?_
          rintro e w3 ⟨rfl, s3⟩
          have HS3 := Lib.hid (HS.out.trans s3)
          have hv3 := Lib.hid (hv.out.stay0 s3)
          clear s3
          obtain ⟨sz, hsz⟩ : ∃ sz, sz = sizeL M := ⟨_, rfl⟩
          have HZ := Lib.hid hsz
          rw [← hsz]
          clear hsz
          by_cases hbig : 10000 < sz
          · go_wp2_with fail
            refine (HST.out w3).mono ?_
            rintro e w4 ⟨rfl, s4⟩
            have HF := Lib.hid (HS3.out.trans s4)
            clear s4
            go_wp2
            go_ret
            exact ⟨rfl, HF.out⟩
          · obtain ⟨k, hk, hk1, hk5⟩ : ∃ k : Nat, wrap64 (1 + wrap64 ((IntKind.u64.wrap z).tmod 5)) = (k : Int) ∧ 1 ≤ k ∧ k ≤ 5 := small_mod z 5 (by omega) (by omega)
            have HKW := Lib.hid hk
            have hkm : (k : Int) ≤ 5 := by omega
            have hkp : (1 : Int) ≤ k := by omega
            have hG : Good M k 4 := ⟨hk1, by omega, by have := HNL.out; omega, by have := HNL.out; omega, HMS.out, HMN.out, by have := HZ.out; omega, by have := HNL.out; omega⟩
            have hTL : (tabB M k 4).length ≤ 1048576 := by
              have h1 := length_tabB (L := M) (p := k) (q := 4) hk1 (by have := HNL.out; omega)
              have h2 := HNL.out
              have h3 := HZ.out
              omega
            have HG := Lib.hid hG
            have HTL := Lib.hid hTL
            clear hk hG hTL
            go_wp2_with fail
            rw [HKW.out]
            refine (Me.own_any w3 _ M hv3.out (by have := HNL.out; omega)).mono ?_
            rintro e w4 ⟨v4, rfl, ho4, s4⟩
            have HE4 := Lib.hid ho4.ens
            have HS4 := Lib.hid (HS3.out.trans s4)
            have hv4 := Lib.hid (hv3.out.stay0 s4)
            clear ho4 s4
            go_wp2_with fail
            refine (build_ok w4 v4 M k 4 HE4.out HMS.out hk1 (by omega) (by omega) (by omega) HG.out.n1 HG.out.n2 (by have := HG.out.sz; omega) HTL.out).mono ?_
            rintro e w5 ⟨⟨v5, rfl, ho5⟩, s5⟩
            have HS5 := Lib.hid (HS4.out.trans s5)
            have hv5 := Lib.hid (hv4.out.stay0 s5)
            have HSL5 := Lib.hid ho5.slc
            obtain ⟨T, hT⟩ : ∃ T, T = tabB M k 4 := ⟨_, rfl⟩
            obtain ⟨a5, c5, rfl⟩ : ∃ a5 c5, v5 = .slice a5 T.length c5 := by
              obtain ⟨a5, c5, e⟩ := ho5.form
              exact ⟨a5, c5, by rw [hT]; exact e⟩
            have HOP := Lib.hid (open_any w5 _ M k 4 HSL5.out HG.out)
            clear ho5 s5 hT HE4 HSL5
            go_wp2_with fail
            refine HOP.out.mono ?_
            rintro e w6 ⟨⟨t, rfl, _, ht⟩, s6⟩
            have HS6 := Lib.hid (HS5.out.trans s6)
            have hv6 := Lib.hid (hv5.out.stay0 s6)
            have HT6 := Lib.hid ht
            clear ht s6 HOP
            have hcN : ((n : Int) + k - 1) / k = (cN n k : Int) := by
              unfold cN
              rw [show ((n : Int) + k - 1) = ((n + k - 1 : Nat) : Int) by omega, Int.natCast_ediv]
            have HCN := Lib.hid hcN
            obtain ⟨D, hDd⟩ : ∃ D : World → Prop, D = Stay (fun _ => False) w6 := ⟨_, rfl⟩
            have HD := Lib.hid (show ∀ W, D W → Stay (fun _ => False) w6 W by intro W h; rw [hDd] at h; exact h)
            have HDm := Lib.hid (show ∀ W, Stay (fun _ => False) w6 W → D W by intro W h; rw [hDd]; exact h)
            clear hDd hcN
            have HN0 := Lib.hid (HDm.out _ (Stay.drew (w := w6)))
            have H1 := Lib.hid (show ∀ W, D W → Calls Try.prog 20 #[.pointer (some ⟨t, 0, none⟩)] W fun e w' => e = .returned (.int .i64 (cN n k : Nat)) ∧ D w' from fun W hW => by
              have h2 := parts_any W t k 4 M (HT6.out.stay0 (HD.out _ hW))
              rw [← HNL.out] at h2
              exact h2.mono fun e w' ⟨h3, h4⟩ => ⟨h3, h4 ▸ hW⟩)
            haveI : Nonempty (InC D) := ⟨⟨_, HN0.out⟩⟩
            go_wp2
            have hq : ((cN n k : Int) != ((n : Int) + k - 1) / k) = false := by rw [HCN.out]; simp
            refine wp_region_class D HN0.out (by kernel_rfl) (by kernel_rfl) ?_
            repeat (go_big_quiet_step ((first
              | with_reducible exact calls_class H1.out)))
            refine wpQuiet_nil ?_
            rintro W ⟨iw, rfl⟩
            have hst := HD.out _ iw.h
            generalize iw.w = w7 at *
            have HS7 := Lib.hid (HS6.out.trans hst)
            have hv7 := Lib.hid (hv6.out.stay0 hst)
            have HT7 := Lib.hid (HT6.out.stay0 hst)
            clear hst hq
            obtain ⟨g, o, rfl, _, _⟩ := hv7.out.at (by have := HNL.out; omega)
            obtain ⟨N, hN⟩ : ∃ N, N = cN n k := ⟨_, rfl⟩
            have HN := Lib.hid hN
            have hNn : N ≤ n := by rw [hN]; exact cN_le hk1
            have hNm : (N : Int) ≤ 40 := by omega
            have HEN := Lib.hid (show n ≤ N * k by rw [hN]; exact cN_end hk1)
            have HLT := Lib.hid (show ∀ i, i < N → i * k < n from fun i hi => (cN_lt hk1).1 (hN ▸ hi))
            have HLT2 := Lib.hid (show ∀ i, ¬ i < N → ¬ i * k < n from fun i hi h => hi (hN ▸ (cN_lt hk1).2 h))
            clear hN
            obtain ⟨wo, hwo⟩ : ∃ wo, wo = w7 := ⟨_, rfl⟩
            rw [← hwo] at HS7 hv7 HT7 ⊢
            clear hwo
            go_wp2
            go_loopw [12, 13] (fun a i wr => ∃ (i' a' : Nat), a = .int .i64 (a' : Int) ∧ i = .int .i64 (i' : Int) ∧ i' ≤ N ∧ Hid (a' = min n (i' * k)) ∧ Stay (fun _ => False) wo wr) (fun _ i _ => N - (intOf i).toNat)
            case atStart => exact ⟨0, 0, rfl, rfl, Nat.zero_le _, Lib.hid (by omega), Stay.refl _ _⟩
            case round =>
              obtain ⟨i, m, rfl, rfl, hi, hm, hst⟩ := hrel
              have HSR := Lib.hid (HS7.out.trans hst)
              have HVR := Lib.hid (hv7.out.stay0 hst)
              have HTR := Lib.hid (HT7.out.stay0 hst)
              have HWR := Lib.hid hst
              have HPA := Lib.hid (show ∀ W, Stay (fun _ => False) wo W → Calls Try.prog 20 #[.pointer (some ⟨t, 0, none⟩)] W fun e w' => e = .returned (.int .i64 (N : Int)) ∧ W = w' from fun W hW => by
                have h2 := parts_any W t k 4 M (HT7.out.stay0 hW)
                rw [← HNL.out, ← HN.out] at h2
                exact h2)
              clear hst
              go_wp2_with fail
              refine (HPA.out wr HWR.out).mono ?_
              rintro e w8 ⟨rfl, rfl⟩
              by_cases hin : i < N
              · have hmn := HLT.out i hin
                have hme : m = i * k := by have := hm.out; omega
                have hlc := length_chunk M k i
                rw [← HNL.out, ← hme] at hlc
                obtain ⟨ch, hch⟩ : ∃ ch, ch = chunk M k i := ⟨_, rfl⟩
                have HCH := Lib.hid hch
                rw [← hch] at hlc
                have hmn' : m < n := by omega
                have HNX := Lib.hid (show i + 1 < N → m + k < n from fun h => by have := HLT.out (i + 1) h; rw [Nat.add_mul] at this; omega)
                have HNX2 := Lib.hid (show ¬ i + 1 < N → n ≤ m + k from fun h => by have := HLT2.out (i + 1) h; rw [Nat.add_mul] at this; omega)
                have HPT := Lib.hid (part_any wr t k 4 i M HTR.out (by rw [← HNL.out, ← HN.out]; exact hin))
                rw [← hch] at HPT
                have HME := Lib.hid hme
                clear hch hme hmn
                go_wp2_with fail
                refine HPT.out.mono ?_
                rintro e w9 ⟨⟨v9, rfl, ho9⟩, s9⟩
                have HE9 := Lib.hid ho9.ens
                obtain ⟨l9, hl9⟩ : ∃ l9, l9 = ch.length := ⟨_, rfl⟩
                obtain ⟨a9, c9, rfl⟩ : ∃ a9 c9, v9 = .slice a9 l9 c9 := by
                  obtain ⟨a9, c9, e⟩ := ho9.form
                  exact ⟨a9, c9, by rw [hl9]; exact e⟩
                rw [← hl9] at hlc
                have HL9 := Lib.hid hl9
                have HS9 := Lib.hid (HSR.out.trans s9)
                have HV9 := Lib.hid (HVR.out.stay0 s9)
                have HT9 := Lib.hid (HTR.out.stay0 s9)
                have HW9 := Lib.hid (HWR.out.trans s9)
                have hcm : ¬ cv = m := by omega
                have HSL := Lib.hid (show EnS w9 (.slice (some ⟨g, o + m * 3, none⟩) l9 (cv - m)) ch from by
                  have h1 := HV9.out.cut (i := m) (by have := HNL.out; omega)
                  rw [if_neg hcm, Option.map_some, add_at] at h1
                  have h2 := h1.first (i := l9) (by rw [List.length_drop, ← HNL.out]; omega)
                  have h3 : (M.drop m).take l9 = ch := by
                    rw [HCH.out, HME.out]
                    unfold chunk
                    rw [hlc]
                    rcases Nat.le_total k (n - m) with h | h
                    · rw [Nat.min_eq_left h]
                    · rw [Nat.min_eq_right h, List.take_of_length_le (by rw [List.length_drop, ← HNL.out, ← HME.out]; omega), List.take_of_length_le (by rw [List.length_drop, ← HNL.out, ← HME.out]; omega)]
                  rw [h3] at h2
                  exact h2)
                have HEQ := Lib.hid (show ∀ W, Stay (fun _ => False) w9 W → Calls Try.prog 16 #[.slice a9 l9 c9, .slice (some ⟨g, o + m * 3, none⟩) l9 (cv - m)] W fun e w' => e = .returned (.bool true) ∧ Stay (fun _ => False) W w' from fun W hW => by
                  have h1 := Me.entries_eq W _ _ ch ch (HE9.out.stay0 hW) (HSL.out.stay0 hW)
                  rw [decide_eq_true rfl] at h1
                  exact h1)
                have hlk : (l9 : Int) ≤ k := by omega
                have hnn := HNL.out
                by_cases hnx : i + 1 < N
                · have h3 := HNX.out hnx
                  obtain rfl : l9 = k := by omega
                  have hmk : ((m : Int) + l9) < n := by omega
                  clear ho9 s9 hl9 hnn hlc
                  have HSI := Lib.hid (show (min (n : Int) ((m : Int) + l9)).toNat - m = l9 by omega)
                  have HAT := Lib.hid (show m + l9 = min n ((i + 1) * l9) by rw [Nat.add_mul, Nat.one_mul, ← HME.out]; omega)
                  go_wp2_with fail
                  refine (HPA.out w9 HW9.out).mono ?_
                  rintro e w10 ⟨rfl, rfl⟩
                  go_wp2_with fail
                  rw [HSI.out]
                  refine (HEQ.out w9 (Stay.refl _ _)).mono ?_
                  rintro e w10 ⟨rfl, s10⟩
                  have HW10 := Lib.hid (HW9.out.trans s10)
                  clear s10
                  go_wp2
                  go_roundw
                  case rel => exact ⟨i + 1, m + l9, by go_num, by go_num, hin, HAT, HW10.out⟩
                  case measure => simp [intOf]; omega
                · have h3 := HNX2.out hnx
                  have hl9' : l9 = n - m := by omega
                  have hmk : (m : Int) + l9 = n := by omega
                  have HSI := Lib.hid (show (min (n : Int) ((m : Int) + k)).toNat - m = l9 by omega)
                  have HAT := Lib.hid (show m + l9 = min n ((i + 1) * k) by rw [Nat.add_mul, Nat.one_mul, ← HME.out]; omega)
                  have hni : ¬ ((i : Int) < (N : Int) - 1) := by omega
                  have hnk : (n : Int) ≤ m + k := by omega
                  clear ho9 s9 hl9 hl9' hnn hlc
                  go_wp2_with fail
                  refine (HPA.out w9 HW9.out).mono ?_
                  rintro e w10 ⟨rfl, rfl⟩
                  go_wp2_with fail
                  rw [HSI.out]
                  refine (HEQ.out w9 (Stay.refl _ _)).mono ?_
                  rintro e w10 ⟨rfl, s10⟩
                  have HW10 := Lib.hid (HW9.out.trans s10)
                  clear s10
                  go_wp2
                  go_roundw
                  case rel => exact ⟨i + 1, m + l9, by go_num, by go_num, hin, HAT, HW10.out⟩
                  case measure => simp [intOf]; omega
              · obtain rfl : i = N := by omega
                have hmn : m = n := by have := hm.out; have := HEN.out; omega
                subst hmn
                go_wp2_with fail
                refine (HST.out wr).mono ?_
                rintro e w9 ⟨rfl, s9⟩
                have HF := Lib.hid (HSR.out.trans s9)
                clear s9
                go_wp2
                go_ret
                exact ⟨rfl, HF.out⟩
    · skip
      have HST := Lib.hid (show ∀ W, Calls Try.prog 7 #[] W fun e w' => e = .returned (.bool true) ∧ Stay (fun _ => False) W w' from sure_any)
      have hml : (putsL L j).length ≤ 40 := by have := Me.putsL_len L j; omega
      obtain ⟨M, hM⟩ : ∃ M, M = putsL L j := ⟨_, rfl⟩
      have hMs : Sorted M := hM ▸ Me.putsL_sorted L j
      have hMn : ∀ e ∈ M, norm e = e := hM ▸ norm_puts L j
      have hMz : sizeL M ≤ M.length * 281474976702464 := Me.short_size (hM ▸ Me.short_puts HSH.out j)
      rw [← hM] at hv HM hml
      clear hM
      obtain ⟨n, hn⟩ : ∃ n, n = M.length := ⟨_, rfl⟩
      have HNL := Lib.hid hn
      have HMS := Lib.hid hMs
      have HMN := Lib.hid hMn
      obtain ⟨av, cv, rfl⟩ := hv.out.form
      rw [← hn] at hv hml hMz ⊢
      have hcn : n ≤ cv := by
        obtain ⟨_, c1, e, h1, _⟩ := hv.out
        cases e
        rw [hn]
        exact h1
      have hnm : (n : Int) ≤ 40 := by omega
      have HSZ := Lib.hid (show Calls Try.prog 6 #[.slice av n cv] wr fun e w' => e = .returned (.int .i64 (sizeL M : Int)) ∧ Stay (fun _ => False) wr w' from Me.rsize_any wr _ M hv.out (by omega))
      clear hn hMs hMn
      by_cases h0 : n = 0
      · have hn0 : ((n : Int) == 0) = true := by simp [h0]
        go_wp2_with fail
        refine (HST.out wr).mono ?_
        rintro e w3 ⟨rfl, s3⟩
        have HF := Lib.hid (HS.out.trans s3)
        clear s3
        go_wp2
        go_ret
        exact ⟨rfl, HF.out⟩
      · have hn0 : ((n : Int) == 0) = false := beq_eq_false_iff_ne.2 (by omega)
        go_wp2_with fail
        refine HSZ.out.mono ?_
        rintro e w3 ⟨rfl, s3⟩
        have HS3 := Lib.hid (HS.out.trans s3)
        have hv3 := Lib.hid (hv.out.stay0 s3)
        clear s3
        obtain ⟨sz, hsz⟩ : ∃ sz, sz = sizeL M := ⟨_, rfl⟩
        have HZ := Lib.hid hsz
        rw [← hsz]
        clear hsz
        by_cases hbig : 10000 < sz
        · go_wp2_with fail
          refine (HST.out w3).mono ?_
          rintro e w4 ⟨rfl, s4⟩
          have HF := Lib.hid (HS3.out.trans s4)
          clear s4
          go_wp2
          go_ret
          exact ⟨rfl, HF.out⟩
        · obtain ⟨k, hk, hk1, hk5⟩ : ∃ k : Nat, wrap64 (1 + wrap64 ((IntKind.u64.wrap z).tmod 5)) = (k : Int) ∧ 1 ≤ k ∧ k ≤ 5 := small_mod z 5 (by omega) (by omega)
          have HKW := Lib.hid hk
          have hkm : (k : Int) ≤ 5 := by omega
          have hkp : (1 : Int) ≤ k := by omega
          have hG : Good M k 4 := ⟨hk1, by omega, by have := HNL.out; omega, by have := HNL.out; omega, HMS.out, HMN.out, by have := HZ.out; omega, by have := HNL.out; omega⟩
          have hTL : (tabB M k 4).length ≤ 1048576 := by
            have h1 := length_tabB (L := M) (p := k) (q := 4) hk1 (by have := HNL.out; omega)
            have h2 := HNL.out
            have h3 := HZ.out
            omega
          have HG := Lib.hid hG
          have HTL := Lib.hid hTL
          clear hk hG hTL
          go_wp2_with fail
          rw [HKW.out]
          refine (Me.own_any w3 _ M hv3.out (by have := HNL.out; omega)).mono ?_
          rintro e w4 ⟨v4, rfl, ho4, s4⟩
          have HE4 := Lib.hid ho4.ens
          have HS4 := Lib.hid (HS3.out.trans s4)
          have hv4 := Lib.hid (hv3.out.stay0 s4)
          clear ho4 s4
          go_wp2_with fail
          refine (build_ok w4 v4 M k 4 HE4.out HMS.out hk1 (by omega) (by omega) (by omega) HG.out.n1 HG.out.n2 (by have := HG.out.sz; omega) HTL.out).mono ?_
          rintro e w5 ⟨⟨v5, rfl, ho5⟩, s5⟩
          have HS5 := Lib.hid (HS4.out.trans s5)
          have hv5 := Lib.hid (hv4.out.stay0 s5)
          have HSL5 := Lib.hid ho5.slc
          obtain ⟨T, hT⟩ : ∃ T, T = tabB M k 4 := ⟨_, rfl⟩
          obtain ⟨a5, c5, rfl⟩ : ∃ a5 c5, v5 = .slice a5 T.length c5 := by
            obtain ⟨a5, c5, e⟩ := ho5.form
            exact ⟨a5, c5, by rw [hT]; exact e⟩
          have HOP := Lib.hid (open_any w5 _ M k 4 HSL5.out HG.out)
          clear ho5 s5 hT HE4 HSL5
          go_wp2_with fail
          refine HOP.out.mono ?_
          rintro e w6 ⟨⟨t, rfl, _, ht⟩, s6⟩
          have HS6 := Lib.hid (HS5.out.trans s6)
          have hv6 := Lib.hid (hv5.out.stay0 s6)
          have HT6 := Lib.hid ht
          clear ht s6 HOP
          have hcN : ((n : Int) + k - 1) / k = (cN n k : Int) := by
            unfold cN
            rw [show ((n : Int) + k - 1) = ((n + k - 1 : Nat) : Int) by omega, Int.natCast_ediv]
          have HCN := Lib.hid hcN
          obtain ⟨D, hDd⟩ : ∃ D : World → Prop, D = Stay (fun _ => False) w6 := ⟨_, rfl⟩
          have HD := Lib.hid (show ∀ W, D W → Stay (fun _ => False) w6 W by intro W h; rw [hDd] at h; exact h)
          have HDm := Lib.hid (show ∀ W, Stay (fun _ => False) w6 W → D W by intro W h; rw [hDd]; exact h)
          clear hDd hcN
          have HN0 := Lib.hid (HDm.out _ (Stay.drew (w := w6)))
          have H1 := Lib.hid (show ∀ W, D W → Calls Try.prog 20 #[.pointer (some ⟨t, 0, none⟩)] W fun e w' => e = .returned (.int .i64 (cN n k : Nat)) ∧ D w' from fun W hW => by
            have h2 := parts_any W t k 4 M (HT6.out.stay0 (HD.out _ hW))
            rw [← HNL.out] at h2
            exact h2.mono fun e w' ⟨h3, h4⟩ => ⟨h3, h4 ▸ hW⟩)
          haveI : Nonempty (InC D) := ⟨⟨_, HN0.out⟩⟩
          go_wp2
          have hq : ((cN n k : Int) != ((n : Int) + k - 1) / k) = false := by rw [HCN.out]; simp
          refine wp_region_class D HN0.out (by kernel_rfl) (by kernel_rfl) ?_
          repeat (go_big_quiet_step ((first
            | with_reducible exact calls_class H1.out)))
          refine wpQuiet_nil ?_
          rintro W ⟨iw, rfl⟩
          have hst := HD.out _ iw.h
          generalize iw.w = w7 at *
          have HS7 := Lib.hid (HS6.out.trans hst)
          have hv7 := Lib.hid (hv6.out.stay0 hst)
          have HT7 := Lib.hid (HT6.out.stay0 hst)
          clear hst hq
          obtain ⟨g, o, rfl, _, _⟩ := hv7.out.at (by have := HNL.out; omega)
          obtain ⟨N, hN⟩ : ∃ N, N = cN n k := ⟨_, rfl⟩
          have HN := Lib.hid hN
          have hNn : N ≤ n := by rw [hN]; exact cN_le hk1
          have hNm : (N : Int) ≤ 40 := by omega
          have HEN := Lib.hid (show n ≤ N * k by rw [hN]; exact cN_end hk1)
          have HLT := Lib.hid (show ∀ i, i < N → i * k < n from fun i hi => (cN_lt hk1).1 (hN ▸ hi))
          have HLT2 := Lib.hid (show ∀ i, ¬ i < N → ¬ i * k < n from fun i hi h => hi (hN ▸ (cN_lt hk1).2 h))
          clear hN
          obtain ⟨wo, hwo⟩ : ∃ wo, wo = w7 := ⟨_, rfl⟩
          rw [← hwo] at HS7 hv7 HT7 ⊢
          clear hwo
          go_wp2
          go_loopw [12, 13] (fun a i wr => ∃ (i' a' : Nat), a = .int .i64 (a' : Int) ∧ i = .int .i64 (i' : Int) ∧ i' ≤ N ∧ Hid (a' = min n (i' * k)) ∧ Stay (fun _ => False) wo wr) (fun _ i _ => N - (intOf i).toNat)
          case atStart => exact ⟨0, 0, rfl, rfl, Nat.zero_le _, Lib.hid (by omega), Stay.refl _ _⟩
          case round =>
            obtain ⟨i, m, rfl, rfl, hi, hm, hst⟩ := hrel
            have HSR := Lib.hid (HS7.out.trans hst)
            have HVR := Lib.hid (hv7.out.stay0 hst)
            have HTR := Lib.hid (HT7.out.stay0 hst)
            have HWR := Lib.hid hst
            have HPA := Lib.hid (show ∀ W, Stay (fun _ => False) wo W → Calls Try.prog 20 #[.pointer (some ⟨t, 0, none⟩)] W fun e w' => e = .returned (.int .i64 (N : Int)) ∧ W = w' from fun W hW => by
              have h2 := parts_any W t k 4 M (HT7.out.stay0 hW)
              rw [← HNL.out, ← HN.out] at h2
              exact h2)
            clear hst
            go_wp2_with fail
            refine (HPA.out wr HWR.out).mono ?_
            rintro e w8 ⟨rfl, rfl⟩
            by_cases hin : i < N
            · have hmn := HLT.out i hin
              have hme : m = i * k := by have := hm.out; omega
              have hlc := length_chunk M k i
              rw [← HNL.out, ← hme] at hlc
              obtain ⟨ch, hch⟩ : ∃ ch, ch = chunk M k i := ⟨_, rfl⟩
              have HCH := Lib.hid hch
              rw [← hch] at hlc
              have hmn' : m < n := by omega
              have HNX := Lib.hid (show i + 1 < N → m + k < n from fun h => by have := HLT.out (i + 1) h; rw [Nat.add_mul] at this; omega)
              have HNX2 := Lib.hid (show ¬ i + 1 < N → n ≤ m + k from fun h => by have := HLT2.out (i + 1) h; rw [Nat.add_mul] at this; omega)
              have HPT := Lib.hid (part_any wr t k 4 i M HTR.out (by rw [← HNL.out, ← HN.out]; exact hin))
              rw [← hch] at HPT
              have HME := Lib.hid hme
              clear hch hme hmn
              go_wp2_with fail
              refine HPT.out.mono ?_
              rintro e w9 ⟨⟨v9, rfl, ho9⟩, s9⟩
              have HE9 := Lib.hid ho9.ens
              obtain ⟨l9, hl9⟩ : ∃ l9, l9 = ch.length := ⟨_, rfl⟩
              obtain ⟨a9, c9, rfl⟩ : ∃ a9 c9, v9 = .slice a9 l9 c9 := by
                obtain ⟨a9, c9, e⟩ := ho9.form
                exact ⟨a9, c9, by rw [hl9]; exact e⟩
              rw [← hl9] at hlc
              have HL9 := Lib.hid hl9
              have HS9 := Lib.hid (HSR.out.trans s9)
              have HV9 := Lib.hid (HVR.out.stay0 s9)
              have HT9 := Lib.hid (HTR.out.stay0 s9)
              have HW9 := Lib.hid (HWR.out.trans s9)
              have hcm : ¬ cv = m := by omega
              have HSL := Lib.hid (show EnS w9 (.slice (some ⟨g, o + m * 3, none⟩) l9 (cv - m)) ch from by
                have h1 := HV9.out.cut (i := m) (by have := HNL.out; omega)
                rw [if_neg hcm, Option.map_some, add_at] at h1
                have h2 := h1.first (i := l9) (by rw [List.length_drop, ← HNL.out]; omega)
                have h3 : (M.drop m).take l9 = ch := by
                  rw [HCH.out, HME.out]
                  unfold chunk
                  rw [hlc]
                  rcases Nat.le_total k (n - m) with h | h
                  · rw [Nat.min_eq_left h]
                  · rw [Nat.min_eq_right h, List.take_of_length_le (by rw [List.length_drop, ← HNL.out, ← HME.out]; omega), List.take_of_length_le (by rw [List.length_drop, ← HNL.out, ← HME.out]; omega)]
                rw [h3] at h2
                exact h2)
              have HEQ := Lib.hid (show ∀ W, Stay (fun _ => False) w9 W → Calls Try.prog 16 #[.slice a9 l9 c9, .slice (some ⟨g, o + m * 3, none⟩) l9 (cv - m)] W fun e w' => e = .returned (.bool true) ∧ Stay (fun _ => False) W w' from fun W hW => by
                have h1 := Me.entries_eq W _ _ ch ch (HE9.out.stay0 hW) (HSL.out.stay0 hW)
                rw [decide_eq_true rfl] at h1
                exact h1)
              have hlk : (l9 : Int) ≤ k := by omega
              have hnn := HNL.out
              by_cases hnx : i + 1 < N
              · have h3 := HNX.out hnx
                obtain rfl : l9 = k := by omega
                have hmk : ((m : Int) + l9) < n := by omega
                clear ho9 s9 hl9 hnn hlc
                have HSI := Lib.hid (show (min (n : Int) ((m : Int) + l9)).toNat - m = l9 by omega)
                have HAT := Lib.hid (show m + l9 = min n ((i + 1) * l9) by rw [Nat.add_mul, Nat.one_mul, ← HME.out]; omega)
                go_wp2_with fail
                refine (HPA.out w9 HW9.out).mono ?_
                rintro e w10 ⟨rfl, rfl⟩
                go_wp2_with fail
                rw [HSI.out]
                refine (HEQ.out w9 (Stay.refl _ _)).mono ?_
                rintro e w10 ⟨rfl, s10⟩
                have HW10 := Lib.hid (HW9.out.trans s10)
                clear s10
                go_wp2
                go_roundw
                case rel => exact ⟨i + 1, m + l9, by go_num, by go_num, hin, HAT, HW10.out⟩
                case measure => simp [intOf]; omega
              · have h3 := HNX2.out hnx
                have hl9' : l9 = n - m := by omega
                have hmk : (m : Int) + l9 = n := by omega
                have HSI := Lib.hid (show (min (n : Int) ((m : Int) + k)).toNat - m = l9 by omega)
                have HAT := Lib.hid (show m + l9 = min n ((i + 1) * k) by rw [Nat.add_mul, Nat.one_mul, ← HME.out]; omega)
                have hni : ¬ ((i : Int) < (N : Int) - 1) := by omega
                have hnk : (n : Int) ≤ m + k := by omega
                clear ho9 s9 hl9 hl9' hnn hlc
                go_wp2_with fail
                refine (HPA.out w9 HW9.out).mono ?_
                rintro e w10 ⟨rfl, rfl⟩
                go_wp2_with fail
                rw [HSI.out]
                refine (HEQ.out w9 (Stay.refl _ _)).mono ?_
                rintro e w10 ⟨rfl, s10⟩
                have HW10 := Lib.hid (HW9.out.trans s10)
                clear s10
                go_wp2
                go_roundw
                case rel => exact ⟨i + 1, m + l9, by go_num, by go_num, hin, HAT, HW10.out⟩
                case measure => simp [intOf]; omega
            · obtain rfl : i = N := by omega
              have hmn : m = n := by have := hm.out; have := HEN.out; omega
              subst hmn
              go_wp2_with fail
              refine (HST.out wr).mono ?_
              rintro e w9 ⟨rfl, s9⟩
              have HF := Lib.hid (HSR.out.trans s9)
              clear s9
              go_wp2
              go_ret
              exact ⟨rfl, HF.out⟩
end Go.Proofs.Yteogdihacohkfaa.Tb
