/-
  BloomThere's walk.
-/
import Derived.Test.YtgchdgdhjafdbaaBoSz
namespace Go.Proofs.Ytgchdgdhjafdbaa.Bo
open Go.RowKit Pk
set_option maxRecDepth 100000

set_option maxHeartbeats 4000000 in
theorem there_walk (w : World) (x0 x1 : Int) (a0 : Option Addr) (c : Nat) (ks : List (List UInt8)) (hx : Keys w a0 ks) (hk : ∀ k ∈ ks, k.length ≤ 140737488351232) :
    Calls Try.prog 3 #[.agg #[.int .i64 x0, .int .i64 x1], .slice a0 ks.length c] w fun e w' => e = .returned (.bool true) ∧ Stay (fun _ => False) w w' := by
  have HX := Lib.hid hx
  have HK := Lib.hid hk
  have hkl := hx.1
  have hkl2 : (ks.length : Int) ≤ 9223372036854775807 := by omega
  obtain ⟨s, hs, hs1, hs2⟩ := small_300 x0
  obtain ⟨q, hq, hq1, hq2⟩ := small_16 x1
  obtain ⟨w0, hw0⟩ : ∃ w0, w0 = w.alloc (.cells #[.int .i64 x0, .int .i64 x1] 23) := ⟨_, rfl⟩
  have HZ0 := Lib.hid (show SzAt w0 w.heap.size x0 x1 from hw0 ▸ heap_alloc_new w _)
  have HS0 := Lib.hid (show Stay (fun _ => False) w w0 from hw0 ▸ Stay.alloc w _)
  have hz0 : w0.heap.size = w.heap.size + 1 := by rw [hw0]; simp
  have HW0 := Lib.hid hw0
  have HQ := Lib.hid hq
  have HSS := Lib.hid hs
  obtain ⟨n, hn⟩ : ∃ n : Nat, n = min ks.length 40 := ⟨_, rfl⟩
  have hn40 : n ≤ 40 := by omega
  have hnk : n ≤ ks.length := by omega
  have HN := Lib.hid hn
  clear hx hk hw0 hn
  go_enter Try.func3, Try.ntmps3
  go_wp2_with fail
  rw [← HW0.out]
  refine (new_any s q w0 hs1 (by omega) hq1 hq2).mono ?_
  rintro e w1 ⟨p, g, rfl, hp, hg, hf, hst⟩
  have HB := Lib.hid (show SzAt w1 w.heap.size x0 x1 from HZ0.out.stay0 hst)
  have HF := Lib.hid hf
  have HT1 := Lib.hid (HS0.out.trans hst)
  have hgw : w.heap.size < g := by omega
  have hpw : w.heap.size < p := by omega
  clear hf hst hp hg
  have HB0L := Lib.hid (show (List.replicate s false).length = s from List.length_replicate)
  go_wp2
  all_goals
    first
      | rw [show (40 : Int) = (n : Int) by have := HN.out; omega]
      | rw [show (ks.length : Int) = (n : Int) by have := HN.out; omega]
    go_loopw [8] (fun i wr => ∃ j : Nat, j ≤ n ∧ i = .int .i64 (j : Int) ∧ FAt wr p g q (addAll q (List.replicate s false) (ks.take j)) ∧ Stay (fun i => i = g) w1 wr) (fun i _ => n - (intOf i).toNat)
    case atStart => exact ⟨0, Nat.zero_le _, rfl, HF.out, Stay.refl _ _⟩
    case round =>
      obtain ⟨j, hj, rfl, hf, hst⟩ := hrel
      obtain ⟨B, hB⟩ : ∃ B, B = addAll q (List.replicate s false) (ks.take j) := ⟨_, rfl⟩
      rw [← hB] at hf
      have hBl : B.length = s := by rw [hB, addAll_len, List.length_replicate]
      have hww : Stay (fun k => w.heap.size ≤ k) w wr := (HT1.out.mono (fun _ x => x.elim)).trans (hst.mono (fun i (e : i = g) => by omega))
      by_cases hlt : j < n
      · obtain ⟨k, hk⟩ : ∃ k, ks[j]? = some k := ⟨_, List.getElem?_eq_getElem (by omega)⟩
        have hkb := HK.out k (List.mem_of_getElem? hk)
        obtain ⟨lb, lo, rfl, hlb, hc⟩ := HX.out.at (by omega)
        have HC := Lib.hid (fun W (h : Stay (fun k => w.heap.size ≤ k) w W) => hc W _ h (by omega) j k hk)
        have HSN := Lib.hid (show addAll q (List.replicate s false) (ks.take (j + 1)) = addK q B k by rw [List.take_add_one, hk, hB]; exact addAll_snoc _ _ _ _)
        have hjk : j < ks.length := by omega
        have HST := Lib.hid hst
        have HZ := Lib.hid ((HB.out).stay hst (fun (e : w.heap.size = g) => by omega))
        clear hc hk hst hB
        go_wp2_with fail
        refine (full_st' wr p g q B hf).mono ?_
        rintro e w2 ⟨rfl, hs2⟩
        have hf2 := hf.stay0 hs2
        have kc := HC.out w2 (hww.trans (hs2.mono (fun _ x => x.elim)))
        obtain ⟨t, ht⟩ : ∃ t, t = fullB B := ⟨_, rfl⟩
        rw [← ht]
        have HT0 := Lib.hid ht
        clear ht
        have hadd := fullB_add (bitsN B.length q k) B (fun m hm => bitsN_lt (by omega) hm)
        rw [bitsN_len] at hadd
        have hfl := fullB_le (addB B (bitsN B.length q k))
        rw [addB_len] at hfl
        go_wp2_with fail
        refine (add_any w2 p g q B k hf2 (by omega)).mono ?_
        rintro e wz ⟨rfl, hf3, hs3⟩
        obtain ⟨t2, ht2⟩ : ∃ t2, t2 = fullB (addB B (bitsN B.length q k)) := ⟨_, rfl⟩
        rw [← ht2, ← HT0.out] at hadd
        rw [← ht2] at hfl
        have HT2 := Lib.hid ht2
        have HFZ := Lib.hid hf3
        have HSZ := Lib.hid (show Stay (fun i => i = g) w1 wz from (HST.out.trans (hs2.mono (fun _ x => x.elim))).trans hs3)
        have HZZ := Lib.hid ((HZ.out.stay0 hs2).stay hs3 (fun (e : w.heap.size = g) => by omega))
        have h1 : (t : Int) ≤ (t2 : Int) := by omega
        have h2 : (t2 : Int) - (t : Int) ≤ (q : Int) := by omega
        have h3 : (t2 : Int) ≤ 300 := by omega
        have hq := HQ.out
        clear ht2 hf3 hs2 hs3 hadd hfl hf hf2 kc hww hkb
        go_wp2
        refine wp_region_held (S := Stay (fun _ => False) wz.drew) (by kernel_rfl) ?_
        change wpAnyH _ _ _ _ _ _ _ _ (World.drew _)
        have hst : Stay (fun _ => False) wz wz.drew := Stay.drew
        refine wpAnyH_takeL (i := 0) (v := .pointer (some ⟨p, 0, none⟩)) #[true, false, false, false, false, false, false, false, false, false, false, false, false, false, false, false, false] rfl (by kernel_rfl) (by kernel_rfl) (by kernel_rfl) (fun _ _ _ h => h) (by kernel_rfl) (Stay.refl _ _) (Or.inl ⟨by rfl, fun W hW => ?_⟩) ?_
        · go_simp
        conv => arg 8; simp [Act.put]
        refine wpAnyH_takeL (i := 2) (v := .int .i64 (t : Int)) #[true, false, true, false, false, false, false, false, false, false, false, false, false, false, false, false, false] rfl (by kernel_rfl) (by kernel_rfl) (by kernel_rfl) (fun _ _ _ h => h) (by kernel_rfl) (Stay.refl _ _) (Or.inl ⟨by rfl, fun W hW => ?_⟩) ?_
        · go_simp
        conv => arg 8; simp [Act.put]
        refine wpAnyH_takeL (i := 4) (v := .pointer (some ⟨w.heap.size, 1, none⟩)) #[true, false, true, false, true, false, false, false, false, false, false, false, false, false, false, false, false] rfl (by kernel_rfl) (by kernel_rfl) (by kernel_rfl) (fun _ _ _ h => h) (by kernel_rfl) (Stay.refl _ _) (Or.inl ⟨by rfl, fun W hW => ?_⟩) ?_
        · go_simp
        conv => arg 8; simp [Act.put]
        refine wpAnyH_takeL (i := 5) (v := .int .i64 x1) #[true, false, true, false, true, true, false, false, false, false, false, false, false, false, false, false, false] rfl (by kernel_rfl) (by kernel_rfl) (by kernel_rfl) (fun _ _ _ h => h) (by kernel_rfl) (Stay.refl _ _) (Or.inl ⟨by rfl, fun W hW => ?_⟩) ?_
        · have kc := (HZZ.out.stay0 (hst.trans hW)).c1
          go_simp
        conv => arg 8; simp [Act.put]
        refine wpAnyH_takeL (i := 6) (v := .int .u64 (IntKind.u64.wrap x1)) #[true, false, true, false, true, true, true, false, false, false, false, false, false, false, false, false, false] rfl (by kernel_rfl) (by kernel_rfl) (by kernel_rfl) (fun _ _ _ h => h) (by kernel_rfl) (Stay.refl _ _) (Or.inl ⟨by rfl, fun W hW => ?_⟩) ?_
        · go_simp
        conv => arg 8; simp [Act.put]
        refine wpAnyH_takeL (i := 7) (v := .int .u64 ((IntKind.u64.wrap x1).tmod 16)) #[true, false, true, false, true, true, true, true, false, false, false, false, false, false, false, false, false] rfl (by kernel_rfl) (by kernel_rfl) (by kernel_rfl) (fun _ _ _ h => h) (by kernel_rfl) (Stay.refl _ _) (Or.inl ⟨by rfl, fun W hW => ?_⟩) ?_
        · go_simp
        conv => arg 8; simp [Act.put]
        refine wpAnyH_takeL (i := 8) (v := .int .i64 (wrap64 ((IntKind.u64.wrap x1).tmod 16))) #[true, false, true, false, true, true, true, true, true, false, false, false, false, false, false, false, false] rfl (by kernel_rfl) (by kernel_rfl) (by kernel_rfl) (fun _ _ _ h => h) (by kernel_rfl) (Stay.refl _ _) (Or.inl ⟨by rfl, fun W hW => ?_⟩) ?_
        · go_simp
          exact i64_wrap _
        conv => arg 8; simp [Act.put]
        refine wpAnyH_takeL (i := 9) (v := .int .i64 (q : Int)) #[true, false, true, false, true, true, true, true, true, true, false, false, false, false, false, false, false] rfl (by kernel_rfl) (by kernel_rfl) (by kernel_rfl) (fun _ _ _ h => h) (by kernel_rfl) (Stay.refl _ _) (Or.inl ⟨by rfl, fun W hW => ?_⟩) ?_
        · go_simp
          exact (i64_wrap _).trans HQ.out
        conv => arg 8; simp [Act.put]
        refine wpAnyH_one #[true, true, true, false, true, true, true, true, true, true, false, false, false, false, false, false, false] (i := 1) rfl (by kernel_rfl) (by kernel_rfl) (fun K hK => ?_)
        go_simp
        go_wp2_with (go_at_call 6; refine (full_st' wz.drew p g q _ (HFZ.out.stay0 hst)).mono ?_; rintro e z1 ⟨rfl, s⟩; rw [← HT2.out])
        replace hst := hst.trans s
        refine hK _ _ s ?_
        clear hK
        conv => arg 8; simp [Act.put]
        refine wpAnyH_narrow (S' := Stay (fun _ => False) z1) (fun _ h => s.trans h) _ _ _ _ ?_
        clear s
        refine wpAnyH_takeL (i := 3) (v := .int .i64 ((t2 : Int) - (t : Int))) #[true, true, true, true, true, true, true, true, true, true, false, false, false, false, false, false, false] rfl (by kernel_rfl) (by kernel_rfl) (by kernel_rfl) (fun _ _ _ h => h) (by kernel_rfl) (Stay.refl _ _) (Or.inl ⟨by rfl, fun W hW => ?_⟩) ?_
        · go_simp
          exact (i64_wrap _).trans (wrap_small _ (by omega) (by omega))
        conv => arg 8; simp [Act.put]
        refine wpAnyH_takeL (i := 10) (v := .bool false) #[true, true, true, true, true, true, true, true, true, true, true, false, false, false, false, false, false] rfl (by kernel_rfl) (by kernel_rfl) (by kernel_rfl) (fun _ _ _ h => h) (by kernel_rfl) (Stay.refl _ _) (Or.inl ⟨by rfl, fun W hW => ?_⟩) ?_
        · go_simp
        conv => arg 8; simp [Act.put]
        refine wpAnyH_takeL (i := 11) (v := .bool false) #[true, true, true, true, true, true, true, true, true, true, true, true, false, false, false, false, false] rfl (by kernel_rfl) (by kernel_rfl) (by kernel_rfl) (fun _ _ _ h => h) (by kernel_rfl) (Stay.refl _ _) (Or.inl ⟨by rfl, fun W hW => ?_⟩) ?_
        · go_simp
        conv => arg 8; simp [Act.put]
        refine wpAnyH_takeL (i := 12) (v := .pointer (some ⟨p, 0, none⟩)) #[true, true, true, true, true, true, true, true, true, true, true, true, true, false, false, false, false] rfl (by kernel_rfl) (by kernel_rfl) (by kernel_rfl) (fun _ _ _ h => h) (by kernel_rfl) (Stay.refl _ _) (Or.inl ⟨by rfl, fun W hW => ?_⟩) ?_
        · go_simp
        conv => arg 8; simp [Act.put]
        refine wpAnyH_takeL (i := 14) (v := .int .i64 (t : Int)) #[true, true, true, true, true, true, true, true, true, true, true, true, true, false, true, false, false] rfl (by kernel_rfl) (by kernel_rfl) (by kernel_rfl) (fun _ _ _ h => h) (by kernel_rfl) (Stay.refl _ _) (Or.inl ⟨by rfl, fun W hW => ?_⟩) ?_
        · go_simp
        conv => arg 8; simp [Act.put]
        refine wpAnyH_one #[true, true, true, true, true, true, true, true, true, true, true, true, true, true, true, false, false] (i := 13) rfl (by kernel_rfl) (by kernel_rfl) (fun K hK => ?_)
        go_simp
        go_wp2_with (go_at_call 6; refine (full_st' z1 p g q _ (HFZ.out.stay0 hst)).mono ?_; rintro e z2 ⟨rfl, s⟩; rw [← HT2.out])
        replace hst := hst.trans s
        refine hK _ _ s ?_
        clear hK
        conv => arg 8; simp [Act.put]
        refine wpAnyH_narrow (S' := Stay (fun _ => False) z2) (fun _ h => s.trans h) _ _ _ _ ?_
        clear s
        refine wpAnyH_takeL (i := 15) (v := .bool false) #[true, true, true, true, true, true, true, true, true, true, true, true, true, true, true, true, false] rfl (by kernel_rfl) (by kernel_rfl) (by kernel_rfl) (fun _ _ _ h => h) (by kernel_rfl) (Stay.refl _ _) (Or.inl ⟨by rfl, fun W hW => ?_⟩) ?_
        · go_simp
          omega
        conv => arg 8; simp [Act.put]
        refine wpAnyH_takeL (i := 16) (v := .bool false) #[true, true, true, true, true, true, true, true, true, true, true, true, true, true, true, true, true] rfl (by kernel_rfl) (by kernel_rfl) (by kernel_rfl) (fun _ _ _ h => h) (by kernel_rfl) (Stay.refl _ _) (Or.inl ⟨by rfl, fun W hW => ?_⟩) ?_
        · go_simp
        conv => arg 8; simp [Act.put]
        refine wpAnyH_done (by kernel_rfl) ?_ _
        go_wp2
        refine ⟨⟨j + 1, hlt, by go_num, ?_, HSZ.out.trans (hst.mono (fun _ x => x.elim))⟩, by simp [intOf]; omega⟩
        rw [HSN.out]
        exact HFZ.out.stay0 hst
      · obtain rfl : j = n := by omega
        have HFJ := Lib.hid hf
        have HWR := Lib.hid (show Stay (fun _ => False) w wr from stay_seal hww (fun k hk => hk))
        have HBB := Lib.hid hB
        have HBL := Lib.hid hBl
        clear hf hst hB hBl hww
        obtain ⟨e1, e2, e3⟩ := enc_good (q := q) (B := B) (by rw [HBL.out]; exact hs1) (by rw [HBL.out]; omega) hq1 hq2
        have HE1 := Lib.hid e1
        have HE2 := Lib.hid e2
        have HE3 := Lib.hid e3
        clear e1 e2 e3
        go_wp2_with fail
        refine (encode_any wr p g q B HFJ.out).mono ?_
        rintro e w2 ⟨v, rfl, ho, hs2⟩
        obtain ⟨va, vc, rfl⟩ := ho.form
        have HO := Lib.hid ho
        have hs2s := hs2.size
        go_wp2_with fail
        refine (decode_any w2 _ (encB q B) HO.out.slc (enc_len (by rw [HBL.out]; omega))).mono ?_
        rintro e w3 ⟨hr, hs3⟩
        unfold DecRet at hr
        rw [if_pos HE1.out, HE2.out, HE3.out] at hr
        obtain ⟨p2, g2, rfl, hp2, hg2, hf3⟩ := hr
        have HF2 := Lib.hid hf3
        have HF1 := Lib.hid (HFJ.out.stay0 (hs2.trans hs3))
        have HW3 := Lib.hid (HWR.out.trans (hs2.trans hs3))
        clear ho hs2 hs3 hf3 hs2s HO HFJ hp2 hg2
        go_wp2_with fail
        refine (full_st' w3 p2 g2 q B HF2.out).mono ?_
        rintro e w4 ⟨rfl, hs4⟩
        go_wp2_with fail
        refine (full_st' w4 p g q B (HF1.out.stay0 hs4)).mono ?_
        rintro e w5 ⟨rfl, hs5⟩
        have HF3 := Lib.hid (HF2.out.stay0 (hs4.trans hs5))
        have HF4 := Lib.hid (HF1.out.stay0 (hs4.trans hs5))
        have HW5 := Lib.hid (HW3.out.trans (hs4.trans hs5))
        clear hs4 hs5
        go_wp2
        go_loopw [12] (fun i wr => ∃ i2 : Nat, i2 ≤ j ∧ i = .int .i64 (i2 : Int) ∧ Stay (fun _ => False) w5 wr) (fun i _ => j - (intOf i).toNat)
        case atStart => exact ⟨0, Nat.zero_le _, rfl, Stay.refl _ _⟩
        case round =>
          obtain ⟨i2, hi2, rfl, hst⟩ := hrel
          have HST := Lib.hid hst
          clear hst
          by_cases hlt2 : i2 < j
          · obtain ⟨k, hk⟩ : ∃ k, ks[i2]? = some k := ⟨_, List.getElem?_eq_getElem (by omega)⟩
            have hkb := HK.out k (List.mem_of_getElem? hk)
            obtain ⟨lb, lo, rfl, hlb, hc⟩ := HX.out.at (by omega)
            have HC := Lib.hid (fun W (h : Stay (fun _ => False) w W) => hc W _ h (fun x => x) i2 k hk)
            have hin : k ∈ ks.take j := List.mem_of_getElem? (i := i2) (by rw [List.getElem?_take_of_lt hlt2]; exact hk)
            have hmay : mayB B (bitsN B.length q k) = true := by
              have := may_all (q := q) (B := List.replicate s false) (by rw [List.length_replicate]; exact hs1) hin
              rw [← HBB.out] at this
              rw [HBL.out]
              rw [List.length_replicate] at this
              exact this
            have HMAY := Lib.hid hmay
            have kc := HC.out wr (HW5.out.trans HST.out)
            have hik : i2 < ks.length := by omega
            clear hc hk hin hmay
            go_wp2_with fail
            refine (may_any wr p g q B k (HF4.out.stay0 HST.out) (by omega)).mono ?_
            rintro e w6 ⟨rfl, hs6⟩
            rw [HMAY.out]
            have kc6 := HC.out w6 (HW5.out.trans (HST.out.trans hs6))
            go_wp2_with fail
            refine (may_any w6 p2 g2 q B k (HF3.out.stay0 (HST.out.trans hs6)) (by omega)).mono ?_
            rintro e w7 ⟨rfl, hs7⟩
            rw [HMAY.out]
            have HS7 := Lib.hid (HST.out.trans (hs6.trans hs7))
            clear hs6 hs7 kc kc6
            go_wp2
            exact ⟨⟨i2 + 1, hlt2, by go_num, HS7.out⟩, by simp [intOf]; omega⟩
          · obtain rfl : i2 = j := by omega
            go_wp2_with fail
            refine (sure_any wr).mono ?_
            rintro e w6 ⟨rfl, hs6⟩
            go_wp2
            go_ret
            exact ⟨rfl, (HW5.out.trans HST.out).trans hs6⟩

end Go.Proofs.Ytgchdgdhjafdbaa.Bo

