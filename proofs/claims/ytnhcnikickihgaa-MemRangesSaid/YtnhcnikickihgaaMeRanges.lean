/-
  mem's laws: MemRanges, walked.
-/
import Derived.Test.YtnhcnikickihgaaMeM
namespace Go.Proofs.Ytnhcnikickihgaa.Me
open Go.RowKit Go.Maps
set_option maxRecDepth 100000
set_option linter.unusedVariables false

set_option maxHeartbeats 4000000 in
theorem ranges_walk (w : World) (x : Value) (L : List En) (a b : List UInt8) (hx : EnS w x L) :
    Calls Try.prog 5 #[x, strV a, strV b] w fun e w' => e = .returned (.bool true) ∧ Stay (fun _ => False) w w' := by
  have HX := Lib.hid hx
  obtain ⟨a0, c, rfl, hnc, hcm, _⟩ := hx
  go_enter Try.func5, Try.ntmps5
  go_wp2_with fail
  refine (new_since w w (Stay.refl _ _)).mono ?_
  rintro e w1 ⟨rfl, h1⟩
  have H1 := Lib.hid (two_new h1)
  clear h1
  generalize w.heap.size = p at *
  go_wp2
  go_loopw [8, 9] (fun v i wr => ∃ j : Nat, i = .int .i64 (j : Int) ∧ j ≤ L.length ∧ j ≤ 60 ∧ Two w wr p v (putsL L j)) (fun _ i _ => 60 - (intOf i).toNat)
  case atStart => exact ⟨0, rfl, Nat.zero_le _, by decide, H1.out⟩
  case round =>
    obtain ⟨j, rfl, hj, hj60, ht⟩ := hrel
    have HT := Lib.hid ht
    have HM := Lib.hid (show (putsL L j).length ≤ 1000 by have := putsL_len L j; omega)
    have HS := Lib.hid (putsL_sorted L j)
    clear ht
    by_cases hlt : j < L.length
    · by_cases hlt60 : j < 60
      · obtain ⟨q, hq⟩ : ∃ q, L[j]? = some q := ⟨_, List.getElem?_eq_getElem hlt⟩
        obtain ⟨g, o, rfl⟩ := HX.out.ptr hq
        have kl := Lib.hid ((HX.out.stay0 HT.out.s).load hq)
        have HP := Lib.hid (putsL_succ hq)
        have HQ := Lib.hid hq
        clear hq
        generalize putsL L j = M at *
        go_wp2_with (first
          | (refine wpList_load_run (by rfl) 27 (.tmp 26) rfl ⟨g, o + j * 3, none⟩ rfl _ kl.out ?_))
        refine (two_put q HT.out HM.out).mono ?_
        rintro y w2 ⟨rfl, h2⟩
        have H2 := Lib.hid h2
        have kl2 := Lib.hid ((HX.out.stay0 h2.s).load HQ.out)
        clear h2 kl
        go_wp2_with (first
          | (refine wpList_load_run (by rfl) 27 (.tmp 32) rfl ⟨g, o + j * 3, none⟩ rfl _ kl2.out ?_))
        refine (two_rput H2.out HM.out).mono ?_
        rintro y w3 ⟨v', rfl, h3⟩
        rw [← HP.out] at h3
        have H3 := Lib.hid h3
        clear h3
        go_wp2
        refine ⟨⟨j + 1, by go_num, hlt, hlt60, H3.out⟩, by simp [intOf]; omega⟩
      · obtain rfl : j = 60 := by omega
        generalize putsL L 60 = M at *
        have T1 := Lib.hid HT.out
        go_wp2_with fail
        refine (range_any _ _ M a b T1.out.mr T1.out.srt (by have := HM.out; omega)).mono ?_
        rintro y wa ⟨ra, rfl, oa, sa⟩
        have R1 := Lib.hid oa.ens
        have A1 := Lib.hid (T1.out.stay0 sa)
        clear oa sa
        go_wp2_with fail
        refine (rrange_any _ _ M a b A1.out.o.ens (by have := HM.out; omega)).mono ?_
        rintro y wb ⟨rb, rfl, ob, sb⟩
        have U1 := Lib.hid ob.ens
        have V1 := Lib.hid (R1.out.stay0 sb)
        have B1 := Lib.hid (A1.out.stay0 sb)
        clear ob sb
        go_wp2_with fail
        refine (entries_eq _ _ _ _ _ V1.out U1.out).mono ?_
        rintro y wc ⟨rfl, sc⟩
        rw [decide_eq_true (rfl : rangeL M a b = rangeL M a b)]
        have T2 := Lib.hid (B1.out.stay0 sc)
        clear sc R1 A1 U1 V1 B1 T1
        go_wp2_with fail
        refine (range_any _ _ M a [] T2.out.mr T2.out.srt (by have := HM.out; omega)).mono ?_
        rintro y wa ⟨ra, rfl, oa, sa⟩
        have R2 := Lib.hid oa.ens
        have A2 := Lib.hid (T2.out.stay0 sa)
        clear oa sa
        go_wp2_with fail
        refine (rrange_any _ _ M a [] A2.out.o.ens (by have := HM.out; omega)).mono ?_
        rintro y wb ⟨rb, rfl, ob, sb⟩
        have U2 := Lib.hid ob.ens
        have V2 := Lib.hid (R2.out.stay0 sb)
        have B2 := Lib.hid (A2.out.stay0 sb)
        clear ob sb
        go_wp2_with fail
        refine (entries_eq _ _ _ _ _ V2.out U2.out).mono ?_
        rintro y wc ⟨rfl, sc⟩
        rw [decide_eq_true (rfl : rangeL M a [] = rangeL M a [])]
        have T3 := Lib.hid (B2.out.stay0 sc)
        clear sc R2 A2 U2 V2 B2 T2
        go_wp2_with fail
        refine (sure_any _).mono ?_
        rintro y wd ⟨rfl, sd⟩
        have T4 := Lib.hid (T3.out.stay0 sd)
        go_wp2
        go_ret
        exact ⟨rfl, T4.out.s⟩
    · obtain rfl : j = L.length := by omega
      generalize putsL L L.length = M at *
      have T1 := Lib.hid HT.out
      go_wp2_with fail
      refine (range_any _ _ M a b T1.out.mr T1.out.srt (by have := HM.out; omega)).mono ?_
      rintro y wa ⟨ra, rfl, oa, sa⟩
      have R1 := Lib.hid oa.ens
      have A1 := Lib.hid (T1.out.stay0 sa)
      clear oa sa
      go_wp2_with fail
      refine (rrange_any _ _ M a b A1.out.o.ens (by have := HM.out; omega)).mono ?_
      rintro y wb ⟨rb, rfl, ob, sb⟩
      have U1 := Lib.hid ob.ens
      have V1 := Lib.hid (R1.out.stay0 sb)
      have B1 := Lib.hid (A1.out.stay0 sb)
      clear ob sb
      go_wp2_with fail
      refine (entries_eq _ _ _ _ _ V1.out U1.out).mono ?_
      rintro y wc ⟨rfl, sc⟩
      rw [decide_eq_true (rfl : rangeL M a b = rangeL M a b)]
      have T2 := Lib.hid (B1.out.stay0 sc)
      clear sc R1 A1 U1 V1 B1 T1
      go_wp2_with fail
      refine (range_any _ _ M a [] T2.out.mr T2.out.srt (by have := HM.out; omega)).mono ?_
      rintro y wa ⟨ra, rfl, oa, sa⟩
      have R2 := Lib.hid oa.ens
      have A2 := Lib.hid (T2.out.stay0 sa)
      clear oa sa
      go_wp2_with fail
      refine (rrange_any _ _ M a [] A2.out.o.ens (by have := HM.out; omega)).mono ?_
      rintro y wb ⟨rb, rfl, ob, sb⟩
      have U2 := Lib.hid ob.ens
      have V2 := Lib.hid (R2.out.stay0 sb)
      have B2 := Lib.hid (A2.out.stay0 sb)
      clear ob sb
      go_wp2_with fail
      refine (entries_eq _ _ _ _ _ V2.out U2.out).mono ?_
      rintro y wc ⟨rfl, sc⟩
      rw [decide_eq_true (rfl : rangeL M a [] = rangeL M a [])]
      have T3 := Lib.hid (B2.out.stay0 sc)
      clear sc R2 A2 U2 V2 B2 T2
      go_wp2_with fail
      refine (sure_any _).mono ?_
      rintro y wd ⟨rfl, sd⟩
      have T4 := Lib.hid (T3.out.stay0 sd)
      go_wp2
      go_ret
      exact ⟨rfl, T4.out.s⟩
end Go.Proofs.Ytnhcnikickihgaa.Me
