/-
  mem's laws: MemRuns, walked.
-/
import Derived.Test.YtnhcnikickihgaaMeM
namespace Go.Proofs.Ytnhcnikickihgaa.Me
open Go.RowKit Go.Maps
set_option maxRecDepth 100000
set_option linter.unusedVariables false

set_option maxHeartbeats 8000000 in
theorem runs_walk (w : World) (x : Value) (L : List En) (a b : List UInt8) (hx : EnS w x L) (hsh : Short L) :
    Calls Try.prog 3 #[x, strV a, strV b] w fun e w' => e = .returned (.bool true) ∧ Stay (fun _ => False) w w' := by
  have HX := Lib.hid hx
  have HSH := Lib.hid hsh
  obtain ⟨a0, c, rfl, hnc, hcm, _⟩ := hx
  clear hsh
  go_enter Try.func3, Try.ntmps3
  go_wp2_with fail
  refine (new_since w w (Stay.refl _ _)).mono ?_
  rintro e w1 ⟨rfl, h1⟩
  have H1 := Lib.hid h1
  clear h1
  generalize w.heap.size = p at *
  go_wp2_with fail
  refine (put_nil w1 ⟨[97], [], false⟩).mono ?_
  rintro e w2 ⟨rfl, s2⟩
  have H2 := Lib.hid (H1.out.stay0 s2)
  clear s2
  go_wp2_with fail
  refine (clear_nil w2).mono ?_
  rintro e w2 ⟨rfl, rfl⟩
  go_wp2_with fail
  refine (get_any w2 _ [] [97] (MR.nil _) sorted_nil (by decide)).mono ?_
  rintro e w3 ⟨rfl, s3⟩
  have H3 := Lib.hid (H2.out.stay0 s3)
  clear s3
  rw [show getL [] [97] = none from rfl]
  have HBX := Lib.hid (Box.new w3 ⟨[], [], false⟩)
  have HA := Lib.hid (show Stay (fun _ => False) w3 (w3.alloc (.cells (enC ⟨[], [], false⟩).toArray 27)) from Stay.alloc _ _)
  obtain ⟨w4, hw4⟩ : ∃ w4, w3.alloc (.cells (enC ⟨[], [], false⟩).toArray 27) = w4 := ⟨_, rfl⟩
  rw [hw4] at HBX HA
  have W4 := Lib.hid hw4
  clear hw4
  simp only [entOf, Option.isSome_none]
  go_wp2_with (first
    | (with_reducible refine alloc_en rfl rfl ?_; rw [W4.out])
    | (refine Box.store HBX.out rfl (.tmp 9) (.tmp 26) rfl rfl ⟨[], [], false⟩ rfl ?_
       intro w5 hb5 hs5
       have H5 := Lib.hid (H3.out.stay0 (stay_seal ((HA.out.mono (fun _ x => x.elim)).trans hs5) (fun k hk => by have hk' : k = w3.heap.size := hk; omega)))
       clear hb5 hs5))
  refine (len_any w5 _ [] (MR.nil _)).mono ?_
  rintro e w5 ⟨rfl, rfl⟩
  go_wp2_with fail
  refine (size_any w5 _ [] (MR.nil _) (by decide)).mono ?_
  rintro e w6 ⟨rfl, s6⟩
  have H6 := Lib.hid (H5.out.stay0 s6)
  clear s6
  rw [show sizeL [] = 0 from rfl]
  go_wp2_with fail
  refine (entries_any w6 _ [] (MR.nil _) sorted_nil (by decide)).mono ?_
  rintro e w7 ⟨v, rfl, ho, s7⟩
  have H7 := Lib.hid (two_new (H6.out.stay0 s7))
  obtain ⟨va, vc, rfl⟩ := ho.form
  clear s7 ho
  go_wp2
  go_loopw [11, 12] (fun v i wr => ∃ j : Nat, i = .int .i64 (j : Int) ∧ j ≤ L.length ∧ j ≤ 60 ∧ Two w wr p v (putsL L j)) (fun _ i _ => 60 - (intOf i).toNat)
  case atStart => exact ⟨0, rfl, Nat.zero_le _, by decide, H7.out⟩
  case round =>
    obtain ⟨j, rfl, hj, hj60, ht⟩ := hrel
    have HT := Lib.hid ht
    have HM := Lib.hid (show (putsL L j).length ≤ 1000 by have := putsL_len L j; omega)
    have HS := Lib.hid (putsL_sorted L j)
    have HZ := Lib.hid (size_puts HSH.out (show j ≤ 1000 by omega))
    clear ht
    by_cases hlt : j < L.length
    · by_cases hlt60 : j < 60
      · obtain ⟨q, hq⟩ : ∃ q, L[j]? = some q := ⟨_, List.getElem?_eq_getElem hlt⟩
        obtain ⟨g, o, rfl⟩ := HX.out.ptr hq
        have kl := Lib.hid ((HX.out.stay0 HT.out.s).load hq)
        have HP := Lib.hid (putsL_succ hq)
        have HQ := Lib.hid hq
        have HM1 := Lib.hid (show (putsL L (j + 1)).length ≤ 1000 by have := putsL_len L (j + 1); omega)
        have HZ1 := Lib.hid (size_puts HSH.out (show j + 1 ≤ 1000 by omega))
        clear hq
        generalize putsL L j = M at *
        go_wp2_with (first
          | (refine wpList_load_run (by rfl) 27 (.tmp 60) rfl ⟨g, o + j * 3, none⟩ rfl _ kl.out ?_))
        refine (two_put q HT.out HM.out).mono ?_
        rintro y w8 ⟨rfl, h8⟩
        have H8 := Lib.hid h8
        have kl2 := Lib.hid ((HX.out.stay0 h8.s).load HQ.out)
        clear h8 kl
        go_wp2_with (first
          | (refine wpList_load_run (by rfl) 27 (.tmp 66) rfl ⟨g, o + j * 3, none⟩ rfl _ kl2.out ?_))
        refine (two_rput H8.out HM.out).mono ?_
        rintro y w9 ⟨v', rfl, h9⟩
        rw [← HP.out] at h9
        have H9 := Lib.hid h9
        obtain ⟨va', vc', rfl⟩ := h9.o.form
        clear h9 kl2
        have HP2 := Lib.hid (show True from trivial)
        go_wp2_with fail
        refine (len_any w9 _ _ H9.out.mr).mono ?_
        rintro y w9 ⟨rfl, rfl⟩
        go_wp2_with fail
        refine (size_any w9 _ _ H9.out.mr HZ1.out).mono ?_
        rintro y w10 ⟨rfl, s10⟩
        have H10 := Lib.hid (H9.out.stay0 s10)
        clear s10
        go_wp2_with fail
        refine (rsize_any w10 _ _ H10.out.o.ens HZ1.out).mono ?_
        rintro y w11 ⟨rfl, s11⟩
        have H11 := Lib.hid (H10.out.stay0 s11)
        clear s11
        go_wp2
        refine ⟨⟨j + 1, by go_num, hlt, hlt60, H11.out⟩, by simp [intOf]; omega⟩
      · obtain rfl : j = 60 := by omega
        generalize putsL L 60 = M at *
        go_wp2_with fail
        refine (get_any wr _ M a HT.out.mr HT.out.srt (by have := HM.out; omega)).mono ?_
        rintro y z1 ⟨rfl, s1⟩
        have T1 := Lib.hid (HT.out.stay0 s1)
        clear s1
        obtain ⟨q, hq⟩ : ∃ q, q = entOf (getL M a) := ⟨_, rfl⟩
        obtain ⟨qb, hqb⟩ : ∃ qb, qb = (getL M a).isSome := ⟨_, rfl⟩
        rw [← hq, ← hqb]
        have HQ1 := Lib.hid hq
        have HQ2 := Lib.hid hqb
        clear hq hqb
        have HBX1 := Lib.hid (Box.new z1 ⟨[], [], false⟩)
        have HA1 := Lib.hid (show Stay (fun _ => False) z1 (z1.alloc (.cells (enC ⟨[], [], false⟩).toArray 27)) from Stay.alloc _ _)
        obtain ⟨y1, hy1⟩ : ∃ y1, z1.alloc (.cells (enC ⟨[], [], false⟩).toArray 27) = y1 := ⟨_, rfl⟩
        rw [hy1] at HBX1 HA1
        have Y1 := Lib.hid hy1
        clear hy1
        go_wp2_with (first
          | (with_reducible refine alloc_en rfl rfl ?_; rw [Y1.out])
          | ((with_reducible refine at_op (.store 27 (.tmp 13) (.tmp 85)) rfl ?_); refine Box.store HBX1.out rfl (.tmp 13) (.tmp 85) rfl rfl q rfl ?_
             intro z2 hb2 hs2
             have HBq := Lib.hid hb2
             have T2 := Lib.hid (T1.out.stay0 (stay_seal ((HA1.out.mono (fun _ x => x.elim)).trans hs2) (fun k hk => by have hk' : k = z1.heap.size := hk; omega)))
             clear hb2 hs2))
        refine (rget_any z2 _ M a T2.out.o.ens).mono ?_
        rintro y z3 ⟨rfl, s3⟩
        rw [← HQ1.out, ← HQ2.out]
        have T3 := Lib.hid (T2.out.stay0 s3)
        have HBq3 := Lib.hid (HBq.out.stay0 s3)
        clear s3 HBX1 HA1 Y1
        have HBX2 := Lib.hid (Box.new z3 ⟨[], [], false⟩)
        have HA2 := Lib.hid (show Stay (fun _ => False) z3 (z3.alloc (.cells (enC ⟨[], [], false⟩).toArray 27)) from Stay.alloc _ _)
        obtain ⟨y2, hy2⟩ : ∃ y2, z3.alloc (.cells (enC ⟨[], [], false⟩).toArray 27) = y2 := ⟨_, rfl⟩
        rw [hy2] at HBX2 HA2
        have Y2 := Lib.hid hy2
        clear hy2
        have HBqy := Lib.hid (HBq3.out.stay0 HA2.out)
        have HBl := Lib.hid HBq3.out.lt
        go_wp2_with (first
          | (with_reducible refine alloc_en rfl rfl ?_; rw [Y2.out])
          | ((with_reducible refine at_op (.store 27 (.tmp 15) (.tmp 91)) rfl ?_); refine Box.store HBX2.out rfl (.tmp 15) (.tmp 91) rfl rfl q rfl ?_
             intro z4 hb4 hs4
             have HBr4 := Lib.hid hb4
             have HBq4 := Lib.hid (HBqy.out.stay hs4 (fun hk => by have hk' : z1.heap.size = z3.heap.size := hk; have := HBl.out; omega))
             have T4 := Lib.hid (T3.out.stay0 (stay_seal ((HA2.out.mono (fun _ x => x.elim)).trans hs4) (fun k hk => by have hk' : k = z3.heap.size := hk; omega)))
             clear hb4 hs4)
          | ((with_reducible refine at_op (.load 27 (.tmp 13)) rfl ?_); refine wpList_load_run (by rfl) 27 (.tmp 13) rfl _ rfl _ HBq4.out.run_load ?_)
          | ((with_reducible refine at_op (.load 27 (.tmp 15)) rfl ?_); refine wpList_load_run (by rfl) 27 (.tmp 15) rfl _ rfl _ HBr4.out.run_load ?_)
          | ((with_reducible refine at_op (.binOp .neq 27 (.tmp 93) (.tmp 94) 27) rfl ?_); refine wpList_neq_en (by rfl) (.tmp 93) (.tmp 94) rfl q q rfl rfl ?_; rw [eqE_is, decide_eq_true (rfl : q = q)]))
        refine (entries_any z4 _ M T4.out.mr T4.out.srt (by have := HM.out; omega)).mono ?_
        rintro y z5 ⟨ra, rfl, oa, sa⟩
        have R5 := Lib.hid oa.ens
        have T5 := Lib.hid (T4.out.stay0 sa)
        clear oa sa HBX2 HA2 Y2 HBqy HBl HBr4 HBq4 HBq3 HBq
        go_wp2_with fail
        refine (entries_eq _ _ _ M M R5.out T5.out.o.ens).mono ?_
        rintro y z6 ⟨rfl, sc⟩
        rw [decide_eq_true (rfl : M = M)]
        have T6 := Lib.hid (T5.out.stay0 sc)
        clear sc R5
        go_wp2_with fail
        refine (range_any _ _ M a b T6.out.mr T6.out.srt (by have := HM.out; omega)).mono ?_
        rintro y z7 ⟨rb, rfl, ob, sb⟩
        have R7 := Lib.hid ob.ens
        have T7 := Lib.hid (T6.out.stay0 sb)
        clear ob sb
        go_wp2_with fail
        refine (rrange_any _ _ M a b T7.out.o.ens (by have := HM.out; omega)).mono ?_
        rintro y z8 ⟨rc, rfl, oc, sc⟩
        have U8 := Lib.hid oc.ens
        have R8 := Lib.hid (R7.out.stay0 sc)
        have T8 := Lib.hid (T7.out.stay0 sc)
        clear oc sc
        go_wp2_with fail
        refine (entries_eq _ _ _ _ _ R8.out U8.out).mono ?_
        rintro y z9 ⟨rfl, sc⟩
        rw [decide_eq_true (rfl : rangeL M a b = rangeL M a b)]
        have T9 := Lib.hid (T8.out.stay0 sc)
        clear sc R7 U8 R8
        obtain ⟨B, hB, hm, _⟩ := T9.out.b
        have HB := Lib.hid hB
        have HMM := Lib.hid hm
        clear hB hm
        go_wp2_with fail
        refine (clear_any z9 p M HMM.out).mono ?_
        rintro y c1 ⟨rfl, hm, sb⟩
        have K1 := Lib.hid (show Since w c1 p [] from ⟨hm.mono (fun k _ hk => HB.out k hk), stay_seal ((T9.out.s.mono (fun _ x => x.elim)).trans sb) HB.out⟩)
        clear hm sb
        go_wp2_with fail
        refine (len_any c1 _ [] K1.out.1.mr).mono ?_
        rintro y c1 ⟨rfl, rfl⟩
        go_wp2_with fail
        refine (size_any c1 _ [] K1.out.1.mr (by decide)).mono ?_
        rintro y c2 ⟨rfl, sc⟩
        have K2 := Lib.hid (K1.out.stay0 sc)
        clear sc
        rw [show sizeL [] = 0 from rfl]
        go_wp2_with fail
        refine (entries_any c2 _ [] K2.out.1.mr sorted_nil (by decide)).mono ?_
        rintro y c3 ⟨v3, rfl, o3, s3⟩
        have K3 := Lib.hid (K2.out.stay0 s3)
        obtain ⟨va3, vc3, rfl⟩ := o3.form
        clear s3 o3
        go_wp2_with fail
        refine (sure_any c3).mono ?_
        rintro y c4 ⟨rfl, s4⟩
        have K4 := Lib.hid (K3.out.stay0 s4)
        go_wp2
        go_ret
        exact ⟨rfl, K4.out.2⟩
    · obtain rfl : j = L.length := by omega
      generalize putsL L L.length = M at *
      go_wp2_with fail
      refine (get_any wr _ M a HT.out.mr HT.out.srt (by have := HM.out; omega)).mono ?_
      rintro y z1 ⟨rfl, s1⟩
      have T1 := Lib.hid (HT.out.stay0 s1)
      clear s1
      obtain ⟨q, hq⟩ : ∃ q, q = entOf (getL M a) := ⟨_, rfl⟩
      obtain ⟨qb, hqb⟩ : ∃ qb, qb = (getL M a).isSome := ⟨_, rfl⟩
      rw [← hq, ← hqb]
      have HQ1 := Lib.hid hq
      have HQ2 := Lib.hid hqb
      clear hq hqb
      have HBX1 := Lib.hid (Box.new z1 ⟨[], [], false⟩)
      have HA1 := Lib.hid (show Stay (fun _ => False) z1 (z1.alloc (.cells (enC ⟨[], [], false⟩).toArray 27)) from Stay.alloc _ _)
      obtain ⟨y1, hy1⟩ : ∃ y1, z1.alloc (.cells (enC ⟨[], [], false⟩).toArray 27) = y1 := ⟨_, rfl⟩
      rw [hy1] at HBX1 HA1
      have Y1 := Lib.hid hy1
      clear hy1
      go_wp2_with (first
        | (with_reducible refine alloc_en rfl rfl ?_; rw [Y1.out])
        | ((with_reducible refine at_op (.store 27 (.tmp 13) (.tmp 85)) rfl ?_); refine Box.store HBX1.out rfl (.tmp 13) (.tmp 85) rfl rfl q rfl ?_
           intro z2 hb2 hs2
           have HBq := Lib.hid hb2
           have T2 := Lib.hid (T1.out.stay0 (stay_seal ((HA1.out.mono (fun _ x => x.elim)).trans hs2) (fun k hk => by have hk' : k = z1.heap.size := hk; omega)))
           clear hb2 hs2))
      refine (rget_any z2 _ M a T2.out.o.ens).mono ?_
      rintro y z3 ⟨rfl, s3⟩
      rw [← HQ1.out, ← HQ2.out]
      have T3 := Lib.hid (T2.out.stay0 s3)
      have HBq3 := Lib.hid (HBq.out.stay0 s3)
      clear s3 HBX1 HA1 Y1
      have HBX2 := Lib.hid (Box.new z3 ⟨[], [], false⟩)
      have HA2 := Lib.hid (show Stay (fun _ => False) z3 (z3.alloc (.cells (enC ⟨[], [], false⟩).toArray 27)) from Stay.alloc _ _)
      obtain ⟨y2, hy2⟩ : ∃ y2, z3.alloc (.cells (enC ⟨[], [], false⟩).toArray 27) = y2 := ⟨_, rfl⟩
      rw [hy2] at HBX2 HA2
      have Y2 := Lib.hid hy2
      clear hy2
      have HBqy := Lib.hid (HBq3.out.stay0 HA2.out)
      have HBl := Lib.hid HBq3.out.lt
      go_wp2_with (first
        | (with_reducible refine alloc_en rfl rfl ?_; rw [Y2.out])
        | ((with_reducible refine at_op (.store 27 (.tmp 15) (.tmp 91)) rfl ?_); refine Box.store HBX2.out rfl (.tmp 15) (.tmp 91) rfl rfl q rfl ?_
           intro z4 hb4 hs4
           have HBr4 := Lib.hid hb4
           have HBq4 := Lib.hid (HBqy.out.stay hs4 (fun hk => by have hk' : z1.heap.size = z3.heap.size := hk; have := HBl.out; omega))
           have T4 := Lib.hid (T3.out.stay0 (stay_seal ((HA2.out.mono (fun _ x => x.elim)).trans hs4) (fun k hk => by have hk' : k = z3.heap.size := hk; omega)))
           clear hb4 hs4)
        | ((with_reducible refine at_op (.load 27 (.tmp 13)) rfl ?_); refine wpList_load_run (by rfl) 27 (.tmp 13) rfl _ rfl _ HBq4.out.run_load ?_)
        | ((with_reducible refine at_op (.load 27 (.tmp 15)) rfl ?_); refine wpList_load_run (by rfl) 27 (.tmp 15) rfl _ rfl _ HBr4.out.run_load ?_)
        | ((with_reducible refine at_op (.binOp .neq 27 (.tmp 93) (.tmp 94) 27) rfl ?_); refine wpList_neq_en (by rfl) (.tmp 93) (.tmp 94) rfl q q rfl rfl ?_; rw [eqE_is, decide_eq_true (rfl : q = q)]))
      refine (entries_any z4 _ M T4.out.mr T4.out.srt (by have := HM.out; omega)).mono ?_
      rintro y z5 ⟨ra, rfl, oa, sa⟩
      have R5 := Lib.hid oa.ens
      have T5 := Lib.hid (T4.out.stay0 sa)
      clear oa sa HBX2 HA2 Y2 HBqy HBl HBr4 HBq4 HBq3 HBq
      go_wp2_with fail
      refine (entries_eq _ _ _ M M R5.out T5.out.o.ens).mono ?_
      rintro y z6 ⟨rfl, sc⟩
      rw [decide_eq_true (rfl : M = M)]
      have T6 := Lib.hid (T5.out.stay0 sc)
      clear sc R5
      go_wp2_with fail
      refine (range_any _ _ M a b T6.out.mr T6.out.srt (by have := HM.out; omega)).mono ?_
      rintro y z7 ⟨rb, rfl, ob, sb⟩
      have R7 := Lib.hid ob.ens
      have T7 := Lib.hid (T6.out.stay0 sb)
      clear ob sb
      go_wp2_with fail
      refine (rrange_any _ _ M a b T7.out.o.ens (by have := HM.out; omega)).mono ?_
      rintro y z8 ⟨rc, rfl, oc, sc⟩
      have U8 := Lib.hid oc.ens
      have R8 := Lib.hid (R7.out.stay0 sc)
      have T8 := Lib.hid (T7.out.stay0 sc)
      clear oc sc
      go_wp2_with fail
      refine (entries_eq _ _ _ _ _ R8.out U8.out).mono ?_
      rintro y z9 ⟨rfl, sc⟩
      rw [decide_eq_true (rfl : rangeL M a b = rangeL M a b)]
      have T9 := Lib.hid (T8.out.stay0 sc)
      clear sc R7 U8 R8
      obtain ⟨B, hB, hm, _⟩ := T9.out.b
      have HB := Lib.hid hB
      have HMM := Lib.hid hm
      clear hB hm
      go_wp2_with fail
      refine (clear_any z9 p M HMM.out).mono ?_
      rintro y c1 ⟨rfl, hm, sb⟩
      have K1 := Lib.hid (show Since w c1 p [] from ⟨hm.mono (fun k _ hk => HB.out k hk), stay_seal ((T9.out.s.mono (fun _ x => x.elim)).trans sb) HB.out⟩)
      clear hm sb
      go_wp2_with fail
      refine (len_any c1 _ [] K1.out.1.mr).mono ?_
      rintro y c1 ⟨rfl, rfl⟩
      go_wp2_with fail
      refine (size_any c1 _ [] K1.out.1.mr (by decide)).mono ?_
      rintro y c2 ⟨rfl, sc⟩
      have K2 := Lib.hid (K1.out.stay0 sc)
      clear sc
      rw [show sizeL [] = 0 from rfl]
      go_wp2_with fail
      refine (entries_any c2 _ [] K2.out.1.mr sorted_nil (by decide)).mono ?_
      rintro y c3 ⟨v3, rfl, o3, s3⟩
      have K3 := Lib.hid (K2.out.stay0 s3)
      obtain ⟨va3, vc3, rfl⟩ := o3.form
      clear s3 o3
      go_wp2_with fail
      refine (sure_any c3).mono ?_
      rintro y c4 ⟨rfl, s4⟩
      have K4 := Lib.hid (K3.out.stay0 s4)
      go_wp2
      go_ret
      exact ⟨rfl, K4.out.2⟩
end Go.Proofs.Ytnhcnikickihgaa.Me
