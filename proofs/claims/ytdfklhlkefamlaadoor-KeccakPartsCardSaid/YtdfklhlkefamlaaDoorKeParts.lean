/-
  KeccakParts, walked.
-/
import Derived.Test.YtdfklhlkefamlaaDoorKeTx
import Derived.Test.YtdfklhlkefamlaaDoorKeY
namespace Go.Proofs.YtdfklhlkefamlaaDoor.Ke
open Go.RowKit
set_option maxRecDepth 100000

theorem sum_eta (A : List UInt8) : outK (endK ((eats (zeroSt, 0) A).1, (eats (zeroSt, 0) A).2) 6) 32 = sumK A := rfl

set_option maxHeartbeats 2000000 in
theorem parts_walk (w : World) (a0 : Option Addr) (c0 : Nat) (xs : List (Value × List UInt8)) (hx : Txts w a0 xs) (hp : PathAt w) (hg : 1 < w.heap.size) :
    Calls Tryd.prog 5 #[.slice a0 xs.length c0] w fun e w' => e = .returned (.bool true) ∧ Stay (fun _ => False) w w' := by
  obtain ⟨i0, hi, hz0, hz1, hz2⟩ := info_parts info5
  have HI := Lib.hid hi
  have HZ0 := Lib.hid hz0
  have HZ1 := Lib.hid hz1
  have HZ2 := Lib.hid hz2
  obtain ⟨hxl, hx⟩ := hx
  have HX := Lib.hid hx
  have HP := Lib.hid hp
  have HG := Lib.hid hg
  have xl : (xs.length : Int) ≤ 9223372036854775807 := by omega
  clear hx hp hg hi hz0 hz1 hz2 hxl
  have hz : ∀ W : World, (Op.equalIn 10000 25 (.agg (cellsB z32).toArray) (.agg #[.int .u8 0, .int .u8 0, .int .u8 0, .int .u8 0, .int .u8 0, .int .u8 0, .int .u8 0, .int .u8 0, .int .u8 0, .int .u8 0, .int .u8 0, .int .u8 0, .int .u8 0, .int .u8 0, .int .u8 0, .int .u8 0, .int .u8 0, .int .u8 0, .int .u8 0, .int .u8 0, .int .u8 0, .int .u8 0, .int .u8 0, .int .u8 0, .int .u8 0, .int .u8 0, .int .u8 0, .int .u8 0, .int .u8 0, .int .u8 0, .int .u8 0, .int .u8 0])).run Tryd.prog W = .ok true W := fun W => by
    have h := eq_prt W z32 z32 (by decide) (by decide)
    rw [show (z32 == z32) = true by decide] at h
    exact h
  go_enter Tryd.func5, Tryd.ntmps5
  go_wp2_with fail
  refine (write_none _ w).mono ?_
  rintro e w' ⟨rfl, rfl⟩
  go_wp2_with fail
  refine (statesum_none w).mono ?_
  rintro e w1 ⟨rfl, s1⟩
  have HS1 := Lib.hid s1
  clear s1
  unfold arrV
  go_wp2_with fail
  clear hz
  refine (new_any w1).mono ?_
  rintro e w2 ⟨rfl, hs2, st2⟩
  have HS2 := Lib.hid hs2
  have HST2 := Lib.hid (HS1.out.trans st2)
  have HWG := Lib.hid (show w.heap.size ≤ w1.heap.size from HS1.out.size)
  have HNG := Lib.hid (show w1.heap.size ≠ 1 by have := HG.out; have := HS1.out.size; omega)
  obtain ⟨g, hgg⟩ : ∃ g, g = w1.heap.size := ⟨_, rfl⟩
  rw [← hgg] at HS2 HWG HNG ⊢
  clear hs2 st2 hgg
  go_wp2_with fail
  go_loopw [5, 6] (fun v i wr => ∃ (k : Nat) (all : List UInt8), k ≤ xs.length ∧ k ≤ 12 ∧ i = .int .i64 (k : Int) ∧ all.length ≤ 2000 ∧ Owns w.heap.size wr v all ∧ StAt wr g (eats (zeroSt, 0) all).1 (eats (zeroSt, 0) all).2 ∧ Stay (fun _ => False) w wr ∧ ∀ j, v.ownBlock = some j → j ≠ g) (fun _ i _ => 12 - (intOf i).toNat)
  case atStart => exact ⟨0, [], Nat.zero_le _, by omega, rfl, by simp, Owns.nil _ _, HS2.out, HST2.out, fun j e => by cases e⟩
  case round =>
    obtain ⟨k, all, hk, hk12, rfl, hal, how, hs, hst, hnb⟩ := hrel
    obtain ⟨a5, c5, rfl⟩ := how.form
    have al1 : (all.length : Int) ≤ 2000 := by omega
    have HOW := Lib.hid how
    have HS := Lib.hid hs
    have HST := Lib.hid hst
    have HNB := Lib.hid hnb
    have HAL := Lib.hid hal
    clear how hs hst hnb hal
    by_cases hgo : k < xs.length ∧ k < 12 ∧ all.length < 1200
    · obtain ⟨g1, g2, g3⟩ := hgo
      have q1 : (k : Int) < (xs.length : Int) := by omega
      have q2 : (k : Int) < 12 := by omega
      have q3 : (all.length : Int) < 1200 := by omega
      obtain ⟨lb, lo, rfl, hlb, hcells⟩ := HX.out (by omega)
      obtain ⟨⟨x, b⟩, hxb⟩ : ∃ v, xs[k]? = some v := ⟨_, List.getElem?_eq_getElem g1⟩
      obtain ⟨hc, hsl⟩ := hcells k _ hxb
      simp only at hc hsl
      have cx := HST.out.cell hc (fun x => x)
      have HSL := Lib.hid (hsl.stay0 HST.out)
      have HXL := Lib.hid (fun h0 j hj => Slc.lt hsl h0 j hj)
      obtain ⟨ax, cx0, rfl, _⟩ := id hsl
      have HK := Lib.hid (show k < xs.length ∧ k < 12 ∧ all.length < 1200 from ⟨g1, g2, g3⟩)
      have HSW := Lib.hid hsl
      have HLB := Lib.hid (show lb ≠ g by have := HWG.out; omega)
      clear hc hsl hcells hxb hlb g1 g2 g3
      by_cases hbig : 800 < b.length
      · have q4 : (800 : Int) < (b.length : Int) := by omega
        clear hbig
        go_wp2
        have hkk := HK.out
        first
          | exact ⟨⟨k + 1, all, by omega, by omega, by go_num, HAL.out, HOW.out, HS.out, HST.out, HNB.out⟩, by simp [intOf]; omega⟩
          | (go_round
             case rel => exact ⟨k + 1, all, by omega, by omega, by go_num, HAL.out, HOW.out, HS.out, HST.out, HNB.out⟩
             case measure => simp [intOf]; omega)
      · have q4 : ¬ (800 : Int) < (b.length : Int) := by omega
        have HBL := Lib.hid (show b.length ≤ 800 by omega)
        clear hbig
        go_wp2_with fail
        refine (write_any wr g (eats (zeroSt, 0) all) _ b HS.out (eats_lt _ _ (by decide)) (HP.out.stay HST.out (fun x => x)) HNG.out HSL.out (fun h0 j hj e => by have := HXL.out h0 j hj; have := HWG.out; omega)).mono ?_
        rintro e w4 ⟨rfl, hs4, st4⟩
        rw [← eats_append] at hs4
        have HS4 := Lib.hid hs4
        have HO4 := Lib.hid (HOW.out.stay st4 (fun j e => HNB.out j e))
        have HST4 := Lib.hid (stay_seal (X := fun j => w.heap.size ≤ j) ((HST.out.mono (fun _ x => x.elim)).trans (st4.mono (Y := fun j => w.heap.size ≤ j) (fun j (e : j = g) => by have := HWG.out; omega))) (fun _ hk => hk))
        have cx4 := st4.cell cx HLB.out
        clear hs4 st4 cx
        by_cases hodd : k % 2 = 1
        · have o1 : (k : Int) % 2 = 1 := by omega
          have o2 : ((k : Int) % 2 == 1) = true := by rw [o1]; rfl
          clear hodd
          go_wp2_with (at_builtin
                       refine wpList_append_slc rfl (.tmp 41) (.tmp 45) 22 rfl w.heap.size i0 Tryd.underlying22 HI.out HZ0.out HZ1.out HZ2.out (.slice a5 all.length c5) (.slice ax b.length cx0) all b rfl rfl HO4.out (HSW.out.stay0 HST4.out) (by have := HBL.out; have := HAL.out; omega) HST4.out.size ?_
                       intro v5 w5 hown5 hgr5 hnn5
                       obtain ⟨A, hA⟩ : ∃ A, A = all ++ b := ⟨_, rfl⟩
                       rw [← hA] at hown5
                       have HLA := Lib.hid (show A.length ≤ 2000 by have := HBL.out; have := HK.out.2.2; rw [hA, List.length_append]; omega)
                       have HS5 := Lib.hid (show StAt w5 g (eats (zeroSt, 0) A).1 (eats (zeroSt, 0) A).2 by rw [hA]; exact HS4.out.stay (Stay.grown (X := fun j => (Value.slice a5 all.length c5).ownBlock = some j) hgr5 (fun j hj => hj)) (fun e => HNB.out _ e rfl))
                       have HST5 := Lib.hid (stay_own HST4.out HO4.out (Nat.le_refl _) hgr5)
                       have HNB5 := Lib.hid (show ∀ j, v5.ownBlock = some j → j ≠ g from fun j hj => by
                         rcases hnn5 with h | h
                         · exact HNB.out j (h.symm.trans hj)
                         · rw [h] at hj
                           have h1 := HS4.out.lt
                           have h2 : j = w4.heap.size := by simpa using (Option.some.inj hj).symm
                           omega)
                       obtain ⟨a7, c7, rfl⟩ := hown5.form
                       have HO5 := Lib.hid hown5
                       have HA := Lib.hid hA
                       clear hown5 hgr5 hnn5 cx4 hA)
          have HL := Lib.hid (length_sumK A)
          generalize hh : sumK A = h at HL
          have HH := Lib.hid hh
          clear hh
          have KS := Lib.hid (show ∀ W, Stay (fun _ => False) w5 W → Calls Tryd.prog 17 #[.pointer (some ⟨g, 0, none⟩)] W fun e w' => e = .returned (.agg (cellsB h).toArray) ∧ Stay (fun _ => False) W w' from fun W hW => (statesum_any W g _ _ (HS5.out.stay hW (fun x => x)) (eats_lt _ _ (by decide)) (HP.out.stay (HST5.out.trans hW) (fun x => x)) (Nat.lt_of_lt_of_le HG.out (HST5.out.trans hW).size)).mono fun e w' ⟨h1, h2⟩ => ⟨by rw [h1, sum_eta, HH.out]; rfl, h2⟩)
          have KR := Lib.hid (show ∀ W, Stay (fun _ => False) w5 W → Calls Tryd.prog 10 #[.slice a7 A.length c7] W fun e w' => e = .returned (.agg (cellsB h).toArray) ∧ Stay (fun _ => False) W w' from fun W hW => (rsum_any W _ A ((HO5.out.stay0 hW).slc) (by have := HLA.out; omega)).mono fun e w' ⟨h1, h2⟩ => ⟨by rw [h1, HH.out]; rfl, h2⟩)
          have keq : ∀ W : World, (Op.equalIn 10000 25 (.agg (cellsB h).toArray) (.agg (cellsB h).toArray)).run Tryd.prog W = .ok true W := fun W => by
            have h9 := eq_prt W h h HL.out HL.out
            rw [show (h == h) = true by simp] at h9
            exact h9
          refine (KS.out w5 (Stay.refl _ _)).mono ?_
          rintro e w6 ⟨rfl, s6⟩
          go_wp2_with fail
          refine (KR.out w6 s6).mono ?_
          rintro e w7 ⟨rfl, s7⟩
          have T7 := Lib.hid (s6.trans s7)
          clear s6 s7
          go_wp2_with fail
          refine (KS.out w7 T7.out).mono ?_
          rintro e w8 ⟨rfl, s8⟩
          go_wp2_with fail
          refine (KR.out w8 (T7.out.trans s8)).mono ?_
          rintro e w9 ⟨rfl, s9⟩
          have T9 := Lib.hid (T7.out.trans (s8.trans s9))
          have HS9 := Lib.hid (HS5.out.stay T9.out (fun x => x))
          have HO9 := Lib.hid (HO5.out.stay0 T9.out)
          have HST9 := Lib.hid (HST5.out.trans T9.out)
          clear s8 s9
          go_wp2
          have hkk := HK.out
          first
            | exact ⟨⟨k + 1, A, by omega, by omega, by go_num, HLA.out, HO9.out, HS9.out, HST9.out, HNB5.out⟩, by simp [intOf]; omega⟩
            | (go_round
               case rel => exact ⟨k + 1, A, by omega, by omega, by go_num, HLA.out, HO9.out, HS9.out, HST9.out, HNB5.out⟩
               case measure => simp [intOf]; omega)
        · have o1 : ¬ (k : Int) % 2 = 1 := by omega
          have o2 : ((k : Int) % 2 == 1) = false := by rw [beq_eq_false_iff_ne]; exact o1
          clear hodd
          go_wp2_with (at_builtin
                       refine wpList_append_slc rfl (.tmp 41) (.tmp 45) 22 rfl w.heap.size i0 Tryd.underlying22 HI.out HZ0.out HZ1.out HZ2.out (.slice a5 all.length c5) (.slice ax b.length cx0) all b rfl rfl HO4.out (HSW.out.stay0 HST4.out) (by have := HBL.out; have := HAL.out; omega) HST4.out.size ?_
                       intro v5 w5 hown5 hgr5 hnn5
                       obtain ⟨A, hA⟩ : ∃ A, A = all ++ b := ⟨_, rfl⟩
                       rw [← hA] at hown5
                       have HLA := Lib.hid (show A.length ≤ 2000 by have := HBL.out; have := HK.out.2.2; rw [hA, List.length_append]; omega)
                       have HS5 := Lib.hid (show StAt w5 g (eats (zeroSt, 0) A).1 (eats (zeroSt, 0) A).2 by rw [hA]; exact HS4.out.stay (Stay.grown (X := fun j => (Value.slice a5 all.length c5).ownBlock = some j) hgr5 (fun j hj => hj)) (fun e => HNB.out _ e rfl))
                       have HST5 := Lib.hid (stay_own HST4.out HO4.out (Nat.le_refl _) hgr5)
                       have HNB5 := Lib.hid (show ∀ j, v5.ownBlock = some j → j ≠ g from fun j hj => by
                         rcases hnn5 with h | h
                         · exact HNB.out j (h.symm.trans hj)
                         · rw [h] at hj
                           have h1 := HS4.out.lt
                           have h2 : j = w4.heap.size := by simpa using (Option.some.inj hj).symm
                           omega)
                       obtain ⟨a7, c7, rfl⟩ := hown5.form
                       have HO5 := Lib.hid hown5
                       have HA := Lib.hid hA
                       clear hown5 hgr5 hnn5 cx4 hA)
          have hkk := HK.out
          first
            | exact ⟨⟨k + 1, A, by omega, by omega, by go_num, HLA.out, HO5.out, HS5.out, HST5.out, HNB5.out⟩, by simp [intOf]; omega⟩
            | (go_round
               case rel => exact ⟨k + 1, A, by omega, by omega, by go_num, HLA.out, HO5.out, HS5.out, HST5.out, HNB5.out⟩
               case measure => simp [intOf]; omega)
    · have hcase : ¬ k < xs.length ∨ (k < xs.length ∧ ¬ k < 12) ∨ (k < xs.length ∧ k < 12 ∧ ¬ all.length < 1200) := by omega
      clear hgo
      have HL := Lib.hid (length_sumK all)
      generalize hh : sumK all = h at HL
      have HH := Lib.hid hh
      clear hh
      have KS := Lib.hid (show ∀ W, Stay (fun _ => False) wr W → Calls Tryd.prog 17 #[.pointer (some ⟨g, 0, none⟩)] W fun e w' => e = .returned (.agg (cellsB h).toArray) ∧ Stay (fun _ => False) W w' from fun W hW => (statesum_any W g _ _ (HS.out.stay hW (fun x => x)) (eats_lt _ _ (by decide)) (HP.out.stay (HST.out.trans hW) (fun x => x)) (Nat.lt_of_lt_of_le HG.out (HST.out.trans hW).size)).mono fun e w' ⟨h1, h2⟩ => ⟨by rw [h1, sum_eta, HH.out]; rfl, h2⟩)
      have KR := Lib.hid (show ∀ W, Stay (fun _ => False) wr W → Calls Tryd.prog 10 #[.slice a5 all.length c5] W fun e w' => e = .returned (.agg (cellsB h).toArray) ∧ Stay (fun _ => False) W w' from fun W hW => (rsum_any W _ all ((HOW.out.stay0 hW).slc) (by have := HAL.out; omega)).mono fun e w' ⟨h1, h2⟩ => ⟨by rw [h1, HH.out]; rfl, h2⟩)
      have keq : ∀ W : World, (Op.equalIn 10000 25 (.agg (cellsB h).toArray) (.agg (cellsB h).toArray)).run Tryd.prog W = .ok true W := fun W => by
        have h9 := eq_prt W h h HL.out HL.out
        rw [show (h == h) = true by simp] at h9
        exact h9
      have KK := Lib.hid (show ∀ W, Stay (fun _ => False) wr W → Calls Tryd.prog 9 #[.slice a5 all.length c5] W fun e w' => e = .returned (.agg (cellsB h).toArray) ∧ Stay (fun _ => False) W w' from fun W hW => (ksum_any W _ all ((HOW.out.stay0 hW).slc) (HP.out.stay (HST.out.trans hW) (fun x => x)) (Nat.lt_of_lt_of_le HG.out (HST.out.trans hW).size)).mono fun e w' ⟨h1, h2⟩ => ⟨by rw [h1, HH.out]; rfl, h2⟩)
      have KY := Lib.hid (fun (W : World) (hs : Stay (fun _ => False) wr W) => sure_any W (HP.out.stay (HST.out.trans hs) (fun x => x)) (Nat.lt_of_lt_of_le HG.out (HST.out.trans hs).size))
      rcases hcase with c1 | ⟨c1, c2⟩ | ⟨c1, c2, c3⟩
      · have q1 : ¬ (k : Int) < (xs.length : Int) := by omega
        clear c1
        go_wp2_with fail
        refine (KS.out wr (Stay.refl _ _)).mono ?_
        rintro e w6 ⟨rfl, s6⟩
        go_wp2_with fail
        refine (KR.out w6 s6).mono ?_
        rintro e w7 ⟨rfl, s7⟩
        have T7 := Lib.hid (s6.trans s7)
        clear s6 s7
        go_wp2_with fail
        refine (KK.out w7 T7.out).mono ?_
        rintro e w8 ⟨rfl, s8⟩
        have T8 := Lib.hid (T7.out.trans s8)
        clear s8
        go_wp2_with fail
        refine (KS.out w8 T8.out).mono ?_
        rintro e w9 ⟨rfl, s9⟩
        have T9 := Lib.hid (T8.out.trans s9)
        clear s9
        go_wp2_with fail
        refine (KY.out w9 T9.out).mono ?_
        rintro e w10 ⟨rfl, s10⟩
        have hfin := HST.out.trans (T9.out.trans s10)
        go_wp2
        go_ret
        exact ⟨rfl, hfin⟩
      · have q1 : (k : Int) < (xs.length : Int) := by omega
        have q2 : ¬ (k : Int) < 12 := by omega
        clear c1 c2
        go_wp2_with fail
        refine (KS.out wr (Stay.refl _ _)).mono ?_
        rintro e w6 ⟨rfl, s6⟩
        go_wp2_with fail
        refine (KR.out w6 s6).mono ?_
        rintro e w7 ⟨rfl, s7⟩
        have T7 := Lib.hid (s6.trans s7)
        clear s6 s7
        go_wp2_with fail
        refine (KK.out w7 T7.out).mono ?_
        rintro e w8 ⟨rfl, s8⟩
        have T8 := Lib.hid (T7.out.trans s8)
        clear s8
        go_wp2_with fail
        refine (KS.out w8 T8.out).mono ?_
        rintro e w9 ⟨rfl, s9⟩
        have T9 := Lib.hid (T8.out.trans s9)
        clear s9
        go_wp2_with fail
        refine (KY.out w9 T9.out).mono ?_
        rintro e w10 ⟨rfl, s10⟩
        have hfin := HST.out.trans (T9.out.trans s10)
        go_wp2
        go_ret
        exact ⟨rfl, hfin⟩
      · have q1 : (k : Int) < (xs.length : Int) := by omega
        have q2 : (k : Int) < 12 := by omega
        have q3 : ¬ (all.length : Int) < 1200 := by omega
        clear c1 c2 c3
        go_wp2_with fail
        refine (KS.out wr (Stay.refl _ _)).mono ?_
        rintro e w6 ⟨rfl, s6⟩
        go_wp2_with fail
        refine (KR.out w6 s6).mono ?_
        rintro e w7 ⟨rfl, s7⟩
        have T7 := Lib.hid (s6.trans s7)
        clear s6 s7
        go_wp2_with fail
        refine (KK.out w7 T7.out).mono ?_
        rintro e w8 ⟨rfl, s8⟩
        have T8 := Lib.hid (T7.out.trans s8)
        clear s8
        go_wp2_with fail
        refine (KS.out w8 T8.out).mono ?_
        rintro e w9 ⟨rfl, s9⟩
        have T9 := Lib.hid (T8.out.trans s9)
        clear s9
        go_wp2_with fail
        refine (KY.out w9 T9.out).mono ?_
        rintro e w10 ⟨rfl, s10⟩
        have hfin := HST.out.trans (T9.out.trans s10)
        go_wp2
        go_ret
        exact ⟨rfl, hfin⟩
end Go.Proofs.YtdfklhlkefamlaaDoor.Ke
