/-
  table's laws: TableSpoilt, walked.
-/
import Derived.Test.YteogdihacohkfaaGreatDoorTbR
import Derived.Test.YteogdihacohkfaaGreatDoorErrPk
namespace Go.Proofs.YteogdihacohkfaaGreatDoor.Tb
open Go.RowKit
open Pk (stay_seal)
open Me (En EnS EnO Box enC enV enRows norm ltB Sorted getL posN hasB sizeL entOf putsL putL Short)
open Pk (Slc Owns)
set_option maxRecDepth 100000
set_option linter.unusedVariables false

set_option maxHeartbeats 4000000 in
theorem spoilt_walk (w : World) (x : Value) (L : List En) (z : Int) (y : Nat) (hy : y < 256) (hg : ErrCell w) (hx : EnS w x L) (hs : Short L) :
    Calls Tryz.prog 4 #[x, .int .i64 z, .int .u8 (y : Int)] w fun e w' => e = .returned (.bool true) ∧ Stay (fun _ => False) w w' := by
  have HX := Lib.hid hx
  have HSH := Lib.hid hs
  have HGE := Lib.hid hg
  obtain ⟨y8, rfl⟩ : ∃ y8 : UInt8, y = y8.toNat := ⟨UInt8.ofNat y, by simp; omega⟩
  have hyy : (y8.toNat : Int) ≤ 255 := by omega
  obtain ⟨a0, c, rfl⟩ := hx.form
  clear hx hs hg
  go_enter Tryz.func4, Tryz.ntmps4
  go_wp2
  go_loopw [7, 8] (fun v i wr => ∃ j : Nat, i = .int .i64 (j : Int) ∧ j ≤ L.length ∧ j ≤ 40 ∧ Hid (EnS wr v (putsL L j)) ∧ Stay (fun _ => False) w wr) (fun _ i _ => L.length - (intOf i).toNat)
  case atStart => exact ⟨0, rfl, Nat.zero_le _, Nat.zero_le _, Lib.hid (EnS.nil _), Stay.refl _ _⟩
  case round =>
    obtain ⟨j, rfl, hj, hj40, hv, hst⟩ := hrel
    have HS := Lib.hid hst
    have HM := Lib.hid (show (putsL L j).length ≤ 1000 by have := Me.putsL_len L j; omega)
    clear hst
    by_cases hlt : j < L.length
    · by_cases hlt40 : j < 40
      · obtain ⟨q, hq⟩ : ∃ q, L[j]? = some q := ⟨_, List.getElem?_eq_getElem (by omega)⟩
        obtain ⟨g, o, rfl, _, hc⟩ := (HX.out.stay0 HS.out).at (by omega)
        obtain ⟨h0, h1, h2⟩ := hc _ q hq
        have kl := Lib.hid (Me.run_load_at h0 h1 h2)
        have HP := Lib.hid (Me.putsL_succ hq)
        clear hq hc h0 h1 h2
        go_wp2_with (first
          | (refine Me.wpList_load_run (by rfl) 38 (.tmp 32) rfl ⟨g, o + j * 3, none⟩ rfl _ kl.out ?_))
        refine (Me.rput_any wr _ (putsL L j) q hv.out HM.out).mono ?_
        rintro y w2 ⟨v2, rfl, ho2, hs2⟩
        rw [← HP.out] at ho2
        have HO2 := Lib.hid ho2.ens
        have HS2 := Lib.hid (HS.out.trans hs2)
        clear ho2 hs2
        go_wp2
        refine ⟨⟨j + 1, by go_num, hlt, hlt40, HO2, HS2.out⟩, by simp [intOf]; omega⟩
      · skip
        have hml : (putsL L j).length ≤ 40 := by have := Me.putsL_len L j; omega
        obtain ⟨M, hM⟩ : ∃ M, M = putsL L j := ⟨_, rfl⟩
        have hMs : Sorted M := hM ▸ Me.putsL_sorted L j
        have hMz : sizeL M ≤ M.length * 281474976702464 := Me.short_size (hM ▸ Me.short_puts HSH.out j)
        rw [← hM] at hv HM hml
        clear hM
        obtain ⟨n, hn⟩ : ∃ n, n = M.length := ⟨_, rfl⟩
        have HNL := Lib.hid hn
        have HMS := Lib.hid hMs
        obtain ⟨av, cv, rfl⟩ := hv.out.form
        rw [← hn] at hv hml hMz ⊢
        have hnm : (n : Int) ≤ 40 := by omega
        have HSZ := Lib.hid (show Calls Tryz.prog 12 #[.slice av n cv] wr fun e w' => e = .returned (.int .i64 (sizeL M : Int)) ∧ Stay (fun _ => False) wr w' from Me.rsize_any wr _ M hv.out (by omega))
        clear hn hMs
        by_cases h0 : n = 0
        · have hn0 : ((n : Int) == 0) = true := by simp [h0]
          go_wp2_with fail
          refine (sure_any wr).mono ?_
          rintro e wz ⟨rfl, sz9⟩
          have HF := Lib.hid (HS.out.trans sz9)
          clear sz9
          go_wp2
          go_ret
          exact ⟨rfl, HF.out⟩
        · have hn0 : ((n : Int) == 0) = false := beq_eq_false_iff_ne.2 (by omega)
          by_cases hy0 : y8.toNat = 0
          · have hyb : ((y8.toNat : Int) == 0) = true := by simp [hy0]
            go_wp2_with fail
            refine (sure_any wr).mono ?_
            rintro e wz ⟨rfl, sz9⟩
            have HF := Lib.hid (HS.out.trans sz9)
            clear sz9
            go_wp2
            go_ret
            exact ⟨rfl, HF.out⟩
          · have hyb : ((y8.toNat : Int) == 0) = false := beq_eq_false_iff_ne.2 (by omega)
            go_wp2_with fail
            refine HSZ.out.mono ?_
            rintro e w3 ⟨rfl, s3⟩
            have HS3 := Lib.hid (HS.out.trans s3)
            have hv3 := Lib.hid (hv.out.stay0 s3)
            clear s3
            obtain ⟨sz, hsz⟩ : ∃ sz, sz = sizeL M := ⟨_, rfl⟩
            have HZ := Lib.hid hsz
            rw [← hsz]
            clear hsz
            by_cases hbig : 100000 < sz
            · go_wp2_with fail
              refine (sure_any w3).mono ?_
              rintro e wz ⟨rfl, sz9⟩
              have HF := Lib.hid (HS3.out.trans sz9)
              clear sz9
              go_wp2
              go_ret
              exact ⟨rfl, HF.out⟩
            · have hTL : (tabB M 2 8).length ≤ 1000000 := by
                have h1 := length_tabB (L := M) (p := 2) (q := 8) (by decide) (by have := HNL.out; omega)
                have h2 := HNL.out
                have h3 := HZ.out
                omega
              have HBL := Lib.hid (build_ok w3 _ M 2 8 hv3.out HMS.out (by decide) (by decide) (by decide) (by decide) (by have := HNL.out; omega) (by have := HNL.out; omega) (by have := HZ.out; omega) (by omega))
              have hT5 := tab_five M 2 8
              obtain ⟨T, hT⟩ : ∃ T, T = tabB M 2 8 := ⟨_, rfl⟩
              rw [← hT] at hTL HBL hT5
              have HSE := Lib.hid (show ∃ X, T = Hn.sealB X from ⟨_, hT⟩)
              clear hT
              go_wp2_with fail
              refine HBL.out.mono ?_
              rintro e w4 ⟨⟨v4, rfl, ho4⟩, s4⟩
              have HS4 := Lib.hid (HS3.out.trans s4)
              have HB4 := Lib.hid ho4.slc
              obtain ⟨l, hl⟩ : ∃ l, l = T.length := ⟨_, rfl⟩
              have HLT := Lib.hid hl
              obtain ⟨a4, c4, rfl⟩ : ∃ a c, v4 = .slice a l c := by
                obtain ⟨a, c, e⟩ := ho4.form
                exact ⟨a, c, by rw [hl]; exact e⟩
              rw [← hl] at hTL hT5
              have hlc : (l : Int) ≤ c4 := by
                obtain ⟨_, cc, e, _, _, h, _⟩ := HB4.out
                cases e
                have := HLT.out
                omega
              have hl5 : (5 : Int) ≤ l := by omega
              have hlm : (l : Int) ≤ 1000000 := by omega
              obtain ⟨i, hi, hil⟩ := small_idx z l (by omega) (by omega)
              have HII := Lib.hid hi
              have hlne : (l : Int) ≠ 0 := by omega
              obtain ⟨i0, hi0, hz0, hz1, hz2⟩ := info_parts Pk.info5
              have HI := Lib.hid hi0
              have HZ0 := Lib.hid hz0
              have HZ1 := Lib.hid hz1
              have HZ2 := Lib.hid hz2
              obtain ⟨ci, hci⟩ : ∃ ci, T[i]? = some ci := ⟨_, List.getElem?_eq_getElem (by omega)⟩
              have HCI := Lib.hid hci
              have HRW := Lib.hid (show ∀ W g5 c5, Owns w4.heap.size W (.slice (some ⟨g5, 0, none⟩) l c5) T → W.ownsRow w4.heap.size 5 1 (.slice (some ⟨g5, 0, none⟩) l c5) l (cellsB T) from fun W g5 c5 h => by
                unfold Pk.Owns at h
                rw [← hl] at h
                exact h)
              have HCF := Lib.hid (show ∀ W g5 c5, Owns w4.heap.size W (.slice (some ⟨g5, 0, none⟩) l c5) T → W.cell? ⟨g5, i, none⟩ = some (.int .u8 (ci.toNat : Int)) from fun W g5 c5 h => Bo.row_cell (HRW.out W g5 c5 h) (by simp [cellsB, HCI.out, byteV]))
              have HFR := Lib.hid (show ∀ W g5 c5, Owns w4.heap.size W (.slice (some ⟨g5, 0, none⟩) l c5) T → W.frozen? ⟨g5, i, none⟩ = false from fun W g5 c5 h => Bo.row_fr (HRW.out W g5 c5 h) i)
              have hil' : (i : Int) < l := by omega
              clear ho4 s4 hl hi HBL HSZ hi0 hz0 hz1 hz2 hci
              go_wp2_with (at_builtin; refine Pk.wpList_append_slc rfl (.tmp 67) (.tmp 68) 26 rfl w4.heap.size i0 Tryz.underlying26 HI.out HZ0.out HZ1.out HZ2.out (.slice none 0 0) (.slice a4 l c4) [] T rfl rfl (Owns.nil _ _) HB4.out (by have := HLT.out; simp; omega) (Nat.le_refl _) ?_; intro v5 w5 hown hgr hnn; have HO5 := Lib.hid (show Owns w4.heap.size w5 v5 T by simpa using hown); have HST5 := Lib.hid (show Stay (fun _ => False) w4 w5 from Hn.stay_nil hgr); obtain ⟨g5, c5, hv5, _⟩ := HO5.out.at (by have := HLT.out; omega); rw [← HLT.out] at hv5; subst hv5; have hc5 := HCF.out w5 g5 c5 HO5.out; have hf5 := HFR.out w5 g5 c5 HO5.out; rw [HII.out]; clear hown hgr hnn)
              rw [xor_byte]
              have HO6' := Bo.owns_set HLT.out HO5.out i (ci ^^^ y8)
              have hs6' : Stay (fun _ => False) w4 (w5.setCell ⟨g5, i, none⟩ (byteV (ci ^^^ y8))) := stay_seal (X := fun k => w4.heap.size ≤ k) ((HST5.out.mono (fun _ x => x.elim)).trans (Stay.setCell _ _ _ (by show w4.heap.size ≤ g5; exact (HO5.out.lt g5 rfl).1))) (fun k hk => hk)
              obtain ⟨w6, hw6⟩ : ∃ w6, w5.setCell ⟨g5, i, none⟩ (byteV (ci ^^^ y8)) = w6 := ⟨_, rfl⟩
              rw [hw6] at HO6' hs6'
              have W6 := Lib.hid (show w5.setCell ⟨g5, i, none⟩ (.int .u8 ((ci ^^^ y8).toNat : Int)) = w6 from hw6)
              have HOB := Lib.hid (show Hn.openB (T.set i (ci ^^^ y8)) = .error 11 by
                obtain ⟨X, hX⟩ := HSE.out
                rw [hX]
                exact spoilt X i ci y8 (by rw [← hX]; exact HCI.out) (fun h => hy0 (by rw [h]; rfl)))
              have HBAD := Lib.hid (bad_any w6 _ (T.set i (ci ^^^ y8)) 11 HO6'.slc (by rw [List.length_set, ← HLT.out]; omega) HOB.out)
              have HS6 := Lib.hid (HS4.out.trans hs6')
              have HB6 := Lib.hid (HB4.out.stay0 hs6')
              rw [W6.out]
              clear HO6' hs6' hw6 hc5 hf5
              unfold Hn.errI at HBAD
              refine HBAD.out.mono ?_
              rintro e w7 ⟨rfl, s7⟩
              have HS7 := Lib.hid (HS6.out.trans s7)
              have HB7 := Lib.hid (HB6.out.stay0 s7)
              clear s7 HBAD HOB
              obtain ⟨l1, hl1⟩ : ∃ l1, l1 = l - 1 := ⟨_, rfl⟩
              obtain ⟨T1, hT1⟩ : ∃ T1, T1 = T.take (l - 1) := ⟨_, rfl⟩
              have hT1l : T1.length = l1 := by rw [hT1, List.length_take, ← HLT.out, hl1]; omega
              have HB8 := Lib.hid (show Slc w7 (.slice a4 l1 c4) T1 from by
                have h1 := HB7.out
                rw [HLT.out] at h1
                have h2 := h1.first (k := l - 1) (by rw [← HLT.out]; omega)
                rw [← hT1, ← hl1] at h2
                exact h2)
              have HLL := Lib.hid hl1
              have hlw : IntKind.i64.wrap ((l : Int) - 1) = (l : Int) - 1 := IntWalk.i64_in _ (by omega)
              have HRO := Lib.hid (Hn.ropen_any _ T1 w7 HB8.out (by omega))
              have HOP := Lib.hid (show ∀ W, Stay (fun _ => False) w7 W → Slc W (.slice a4 l1 c4) T1 from fun W hW => HB8.out.stay0 hW)
              have HGB := Lib.hid (show Hn.codeB T1 = (match Hn.openB T1 with | .error c => c | .ok _ => 0) from rfl)
              cases hop : Hn.openB T1 with
              | error cc =>
                have HCC := Lib.hid (open_code hop)
                have HCO := Lib.hid (show Hn.codeB T1 = cc by rw [HGB.out, hop])
                have HBA := Lib.hid (fun W (hW : Stay (fun _ => False) w7 W) => bad_any W _ T1 cc (HOP.out W hW) (by omega) hop)
                have hcc0 : ((cc : Int) == 0) = false := beq_eq_false_iff_ne.2 (by have := HCC.out; omega)
                clear hop hT1 hl1 hlw
                go_wp2_with fail
                rw [← HLL.out]
                refine HRO.out.mono ?_
                rintro e w8 ⟨⟨v8, rfl, _⟩, s8⟩
                rw [HCO.out]
                have HW8 := Lib.hid s8
                have HS8 := Lib.hid (HS7.out.trans s8)
                clear s8 HRO
                unfold Hn.errI at HBA
                go_wp2_with fail
                rw [← HLL.out]
                refine (HBA.out w8 HW8.out).mono ?_
                rintro e w9 ⟨rfl, s9⟩
                have HS9 := Lib.hid (HS8.out.trans s9)
                clear s9 HBA
                go_wp2_with fail
                refine (Pk.num_any 11 w9 (Pk.ErrCell.stay0 HGE.out HS9.out) _ (by simp)).mono ?_
                rintro e w10 ⟨rfl, s10⟩
                have HS10 := Lib.hid (HS9.out.trans s10)
                clear s10
                go_wp2_with fail
                refine (Pk.num_any cc w10 (Pk.ErrCell.stay0 HGE.out HS10.out) _ (by rw [if_neg (by have := HCC.out; omega)])).mono ?_
                rintro e w14 ⟨rfl, s14⟩
                have HS14 := Lib.hid (HS10.out.trans s14)
                clear s14
                go_wp2_with fail
                refine (sure_any w14).mono ?_
                rintro e wz ⟨rfl, sz9⟩
                have HF := Lib.hid (HS14.out.trans sz9)
                clear sz9
                go_wp2
                go_ret
                exact ⟨rfl, HF.out⟩
              | ok rr =>
                have HCO := Lib.hid (show Hn.codeB T1 = 0 by rw [HGB.out, hop])
                have hrl := len_open hop
                have HOG := Lib.hid (fun W (hW : Stay (fun _ => False) w7 W) => open_gen W _ T1 rr (HOP.out W hW) (by omega) hop (by omega))
                clear hop hT1 hl1 hlw
                go_wp2_with fail
                rw [← HLL.out]
                refine HRO.out.mono ?_
                rintro e w8 ⟨⟨v8, rfl, _⟩, s8⟩
                rw [HCO.out]
                have HW8 := Lib.hid s8
                have HS8 := Lib.hid (HS7.out.trans s8)
                clear s8 HRO
                go_wp2_with fail
                rw [← HLL.out]
                refine (HOG.out w8 HW8.out).mono ?_
                rintro e w9 ⟨⟨u9, ev9, rfl⟩, s9⟩
                have HS9 := Lib.hid (HS8.out.trans s9)
                clear s9 HOG
                go_wp2_with fail
                refine (Pk.num_any 11 w9 (Pk.ErrCell.stay0 HGE.out HS9.out) _ (by simp)).mono ?_
                rintro e w14 ⟨rfl, s14⟩
                have HS14 := Lib.hid (HS9.out.trans s14)
                clear s14
                go_wp2_with fail
                refine (sure_any w14).mono ?_
                rintro e wz ⟨rfl, sz9⟩
                have HF := Lib.hid (HS14.out.trans sz9)
                clear sz9
                go_wp2
                go_ret
                exact ⟨rfl, HF.out⟩
    · skip
      have hml : (putsL L j).length ≤ 40 := by have := Me.putsL_len L j; omega
      obtain ⟨M, hM⟩ : ∃ M, M = putsL L j := ⟨_, rfl⟩
      have hMs : Sorted M := hM ▸ Me.putsL_sorted L j
      have hMz : sizeL M ≤ M.length * 281474976702464 := Me.short_size (hM ▸ Me.short_puts HSH.out j)
      rw [← hM] at hv HM hml
      clear hM
      obtain ⟨n, hn⟩ : ∃ n, n = M.length := ⟨_, rfl⟩
      have HNL := Lib.hid hn
      have HMS := Lib.hid hMs
      obtain ⟨av, cv, rfl⟩ := hv.out.form
      rw [← hn] at hv hml hMz ⊢
      have hnm : (n : Int) ≤ 40 := by omega
      have HSZ := Lib.hid (show Calls Tryz.prog 12 #[.slice av n cv] wr fun e w' => e = .returned (.int .i64 (sizeL M : Int)) ∧ Stay (fun _ => False) wr w' from Me.rsize_any wr _ M hv.out (by omega))
      clear hn hMs
      by_cases h0 : n = 0
      · have hn0 : ((n : Int) == 0) = true := by simp [h0]
        go_wp2_with fail
        refine (sure_any wr).mono ?_
        rintro e wz ⟨rfl, sz9⟩
        have HF := Lib.hid (HS.out.trans sz9)
        clear sz9
        go_wp2
        go_ret
        exact ⟨rfl, HF.out⟩
      · have hn0 : ((n : Int) == 0) = false := beq_eq_false_iff_ne.2 (by omega)
        by_cases hy0 : y8.toNat = 0
        · have hyb : ((y8.toNat : Int) == 0) = true := by simp [hy0]
          go_wp2_with fail
          refine (sure_any wr).mono ?_
          rintro e wz ⟨rfl, sz9⟩
          have HF := Lib.hid (HS.out.trans sz9)
          clear sz9
          go_wp2
          go_ret
          exact ⟨rfl, HF.out⟩
        · have hyb : ((y8.toNat : Int) == 0) = false := beq_eq_false_iff_ne.2 (by omega)
          go_wp2_with fail
          refine HSZ.out.mono ?_
          rintro e w3 ⟨rfl, s3⟩
          have HS3 := Lib.hid (HS.out.trans s3)
          have hv3 := Lib.hid (hv.out.stay0 s3)
          clear s3
          obtain ⟨sz, hsz⟩ : ∃ sz, sz = sizeL M := ⟨_, rfl⟩
          have HZ := Lib.hid hsz
          rw [← hsz]
          clear hsz
          by_cases hbig : 100000 < sz
          · go_wp2_with fail
            refine (sure_any w3).mono ?_
            rintro e wz ⟨rfl, sz9⟩
            have HF := Lib.hid (HS3.out.trans sz9)
            clear sz9
            go_wp2
            go_ret
            exact ⟨rfl, HF.out⟩
          · have hTL : (tabB M 2 8).length ≤ 1000000 := by
              have h1 := length_tabB (L := M) (p := 2) (q := 8) (by decide) (by have := HNL.out; omega)
              have h2 := HNL.out
              have h3 := HZ.out
              omega
            have HBL := Lib.hid (build_ok w3 _ M 2 8 hv3.out HMS.out (by decide) (by decide) (by decide) (by decide) (by have := HNL.out; omega) (by have := HNL.out; omega) (by have := HZ.out; omega) (by omega))
            have hT5 := tab_five M 2 8
            obtain ⟨T, hT⟩ : ∃ T, T = tabB M 2 8 := ⟨_, rfl⟩
            rw [← hT] at hTL HBL hT5
            have HSE := Lib.hid (show ∃ X, T = Hn.sealB X from ⟨_, hT⟩)
            clear hT
            go_wp2_with fail
            refine HBL.out.mono ?_
            rintro e w4 ⟨⟨v4, rfl, ho4⟩, s4⟩
            have HS4 := Lib.hid (HS3.out.trans s4)
            have HB4 := Lib.hid ho4.slc
            obtain ⟨l, hl⟩ : ∃ l, l = T.length := ⟨_, rfl⟩
            have HLT := Lib.hid hl
            obtain ⟨a4, c4, rfl⟩ : ∃ a c, v4 = .slice a l c := by
              obtain ⟨a, c, e⟩ := ho4.form
              exact ⟨a, c, by rw [hl]; exact e⟩
            rw [← hl] at hTL hT5
            have hlc : (l : Int) ≤ c4 := by
              obtain ⟨_, cc, e, _, _, h, _⟩ := HB4.out
              cases e
              have := HLT.out
              omega
            have hl5 : (5 : Int) ≤ l := by omega
            have hlm : (l : Int) ≤ 1000000 := by omega
            obtain ⟨i, hi, hil⟩ := small_idx z l (by omega) (by omega)
            have HII := Lib.hid hi
            have hlne : (l : Int) ≠ 0 := by omega
            obtain ⟨i0, hi0, hz0, hz1, hz2⟩ := info_parts Pk.info5
            have HI := Lib.hid hi0
            have HZ0 := Lib.hid hz0
            have HZ1 := Lib.hid hz1
            have HZ2 := Lib.hid hz2
            obtain ⟨ci, hci⟩ : ∃ ci, T[i]? = some ci := ⟨_, List.getElem?_eq_getElem (by omega)⟩
            have HCI := Lib.hid hci
            have HRW := Lib.hid (show ∀ W g5 c5, Owns w4.heap.size W (.slice (some ⟨g5, 0, none⟩) l c5) T → W.ownsRow w4.heap.size 5 1 (.slice (some ⟨g5, 0, none⟩) l c5) l (cellsB T) from fun W g5 c5 h => by
              unfold Pk.Owns at h
              rw [← hl] at h
              exact h)
            have HCF := Lib.hid (show ∀ W g5 c5, Owns w4.heap.size W (.slice (some ⟨g5, 0, none⟩) l c5) T → W.cell? ⟨g5, i, none⟩ = some (.int .u8 (ci.toNat : Int)) from fun W g5 c5 h => Bo.row_cell (HRW.out W g5 c5 h) (by simp [cellsB, HCI.out, byteV]))
            have HFR := Lib.hid (show ∀ W g5 c5, Owns w4.heap.size W (.slice (some ⟨g5, 0, none⟩) l c5) T → W.frozen? ⟨g5, i, none⟩ = false from fun W g5 c5 h => Bo.row_fr (HRW.out W g5 c5 h) i)
            have hil' : (i : Int) < l := by omega
            clear ho4 s4 hl hi HBL HSZ hi0 hz0 hz1 hz2 hci
            go_wp2_with (at_builtin; refine Pk.wpList_append_slc rfl (.tmp 67) (.tmp 68) 26 rfl w4.heap.size i0 Tryz.underlying26 HI.out HZ0.out HZ1.out HZ2.out (.slice none 0 0) (.slice a4 l c4) [] T rfl rfl (Owns.nil _ _) HB4.out (by have := HLT.out; simp; omega) (Nat.le_refl _) ?_; intro v5 w5 hown hgr hnn; have HO5 := Lib.hid (show Owns w4.heap.size w5 v5 T by simpa using hown); have HST5 := Lib.hid (show Stay (fun _ => False) w4 w5 from Hn.stay_nil hgr); obtain ⟨g5, c5, hv5, _⟩ := HO5.out.at (by have := HLT.out; omega); rw [← HLT.out] at hv5; subst hv5; have hc5 := HCF.out w5 g5 c5 HO5.out; have hf5 := HFR.out w5 g5 c5 HO5.out; rw [HII.out]; clear hown hgr hnn)
            rw [xor_byte]
            have HO6' := Bo.owns_set HLT.out HO5.out i (ci ^^^ y8)
            have hs6' : Stay (fun _ => False) w4 (w5.setCell ⟨g5, i, none⟩ (byteV (ci ^^^ y8))) := stay_seal (X := fun k => w4.heap.size ≤ k) ((HST5.out.mono (fun _ x => x.elim)).trans (Stay.setCell _ _ _ (by show w4.heap.size ≤ g5; exact (HO5.out.lt g5 rfl).1))) (fun k hk => hk)
            obtain ⟨w6, hw6⟩ : ∃ w6, w5.setCell ⟨g5, i, none⟩ (byteV (ci ^^^ y8)) = w6 := ⟨_, rfl⟩
            rw [hw6] at HO6' hs6'
            have W6 := Lib.hid (show w5.setCell ⟨g5, i, none⟩ (.int .u8 ((ci ^^^ y8).toNat : Int)) = w6 from hw6)
            have HOB := Lib.hid (show Hn.openB (T.set i (ci ^^^ y8)) = .error 11 by
              obtain ⟨X, hX⟩ := HSE.out
              rw [hX]
              exact spoilt X i ci y8 (by rw [← hX]; exact HCI.out) (fun h => hy0 (by rw [h]; rfl)))
            have HBAD := Lib.hid (bad_any w6 _ (T.set i (ci ^^^ y8)) 11 HO6'.slc (by rw [List.length_set, ← HLT.out]; omega) HOB.out)
            have HS6 := Lib.hid (HS4.out.trans hs6')
            have HB6 := Lib.hid (HB4.out.stay0 hs6')
            rw [W6.out]
            clear HO6' hs6' hw6 hc5 hf5
            unfold Hn.errI at HBAD
            refine HBAD.out.mono ?_
            rintro e w7 ⟨rfl, s7⟩
            have HS7 := Lib.hid (HS6.out.trans s7)
            have HB7 := Lib.hid (HB6.out.stay0 s7)
            clear s7 HBAD HOB
            obtain ⟨l1, hl1⟩ : ∃ l1, l1 = l - 1 := ⟨_, rfl⟩
            obtain ⟨T1, hT1⟩ : ∃ T1, T1 = T.take (l - 1) := ⟨_, rfl⟩
            have hT1l : T1.length = l1 := by rw [hT1, List.length_take, ← HLT.out, hl1]; omega
            have HB8 := Lib.hid (show Slc w7 (.slice a4 l1 c4) T1 from by
              have h1 := HB7.out
              rw [HLT.out] at h1
              have h2 := h1.first (k := l - 1) (by rw [← HLT.out]; omega)
              rw [← hT1, ← hl1] at h2
              exact h2)
            have HLL := Lib.hid hl1
            have hlw : IntKind.i64.wrap ((l : Int) - 1) = (l : Int) - 1 := IntWalk.i64_in _ (by omega)
            have HRO := Lib.hid (Hn.ropen_any _ T1 w7 HB8.out (by omega))
            have HOP := Lib.hid (show ∀ W, Stay (fun _ => False) w7 W → Slc W (.slice a4 l1 c4) T1 from fun W hW => HB8.out.stay0 hW)
            have HGB := Lib.hid (show Hn.codeB T1 = (match Hn.openB T1 with | .error c => c | .ok _ => 0) from rfl)
            cases hop : Hn.openB T1 with
            | error cc =>
              have HCC := Lib.hid (open_code hop)
              have HCO := Lib.hid (show Hn.codeB T1 = cc by rw [HGB.out, hop])
              have HBA := Lib.hid (fun W (hW : Stay (fun _ => False) w7 W) => bad_any W _ T1 cc (HOP.out W hW) (by omega) hop)
              have hcc0 : ((cc : Int) == 0) = false := beq_eq_false_iff_ne.2 (by have := HCC.out; omega)
              clear hop hT1 hl1 hlw
              go_wp2_with fail
              rw [← HLL.out]
              refine HRO.out.mono ?_
              rintro e w8 ⟨⟨v8, rfl, _⟩, s8⟩
              rw [HCO.out]
              have HW8 := Lib.hid s8
              have HS8 := Lib.hid (HS7.out.trans s8)
              clear s8 HRO
              unfold Hn.errI at HBA
              go_wp2_with fail
              rw [← HLL.out]
              refine (HBA.out w8 HW8.out).mono ?_
              rintro e w9 ⟨rfl, s9⟩
              have HS9 := Lib.hid (HS8.out.trans s9)
              clear s9 HBA
              go_wp2_with fail
              refine (Pk.num_any 11 w9 (Pk.ErrCell.stay0 HGE.out HS9.out) _ (by simp)).mono ?_
              rintro e w10 ⟨rfl, s10⟩
              have HS10 := Lib.hid (HS9.out.trans s10)
              clear s10
              go_wp2_with fail
              refine (Pk.num_any cc w10 (Pk.ErrCell.stay0 HGE.out HS10.out) _ (by rw [if_neg (by have := HCC.out; omega)])).mono ?_
              rintro e w14 ⟨rfl, s14⟩
              have HS14 := Lib.hid (HS10.out.trans s14)
              clear s14
              go_wp2_with fail
              refine (sure_any w14).mono ?_
              rintro e wz ⟨rfl, sz9⟩
              have HF := Lib.hid (HS14.out.trans sz9)
              clear sz9
              go_wp2
              go_ret
              exact ⟨rfl, HF.out⟩
            | ok rr =>
              have HCO := Lib.hid (show Hn.codeB T1 = 0 by rw [HGB.out, hop])
              have hrl := len_open hop
              have HOG := Lib.hid (fun W (hW : Stay (fun _ => False) w7 W) => open_gen W _ T1 rr (HOP.out W hW) (by omega) hop (by omega))
              clear hop hT1 hl1 hlw
              go_wp2_with fail
              rw [← HLL.out]
              refine HRO.out.mono ?_
              rintro e w8 ⟨⟨v8, rfl, _⟩, s8⟩
              rw [HCO.out]
              have HW8 := Lib.hid s8
              have HS8 := Lib.hid (HS7.out.trans s8)
              clear s8 HRO
              go_wp2_with fail
              rw [← HLL.out]
              refine (HOG.out w8 HW8.out).mono ?_
              rintro e w9 ⟨⟨u9, ev9, rfl⟩, s9⟩
              have HS9 := Lib.hid (HS8.out.trans s9)
              clear s9 HOG
              go_wp2_with fail
              refine (Pk.num_any 11 w9 (Pk.ErrCell.stay0 HGE.out HS9.out) _ (by simp)).mono ?_
              rintro e w14 ⟨rfl, s14⟩
              have HS14 := Lib.hid (HS9.out.trans s14)
              clear s14
              go_wp2_with fail
              refine (sure_any w14).mono ?_
              rintro e wz ⟨rfl, sz9⟩
              have HF := Lib.hid (HS14.out.trans sz9)
              clear sz9
              go_wp2
              go_ret
              exact ⟨rfl, HF.out⟩
end Go.Proofs.YteogdihacohkfaaGreatDoor.Tb
