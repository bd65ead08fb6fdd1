/-
  merge's laws: MergeDrops, walked.
-/
import Derived.Test.YtdfhjmodacjilaaDoorMgQ
import Derived.Test.YtdfhjmodacjilaaDoorErrG
namespace Go.Proofs.YtdfhjmodacjilaaDoor.Mg
open Go.RowKit Go.Maps Me
set_option maxRecDepth 100000
set_option linter.unusedVariables false

theorem filt_at {p : En → Bool} {M : List En} {j : Nat} {e : En} (h : M[j]? = some e) (hp : p e = true) : (M.filter p)[((M.take j).filter p).length]? = some e ∧ ((M.take (j + 1)).filter p).length = ((M.take j).filter p).length + 1 := by
  obtain ⟨hj, rfl⟩ := List.getElem?_eq_some_iff.1 h
  constructor
  · conv => lhs; rw [← List.take_append_drop j M, List.drop_eq_getElem_cons hj, List.filter_append, List.filter_cons_of_pos hp]
    rw [List.getElem?_append_right (by simp)]
    simp
  · rw [List.take_add_one, h, Option.toList_some, List.filter_append, List.filter_cons_of_pos hp]
    simp
theorem filt_no {p : En → Bool} {M : List En} {j : Nat} {e : En} (h : M[j]? = some e) (hp : p e = false) : ((M.take (j + 1)).filter p).length = ((M.take j).filter p).length := by
  rw [List.take_add_one, h, Option.toList_some, List.filter_append, List.filter_cons_of_neg (by simp [hp])]
  simp

set_option maxHeartbeats 4000000 in
theorem drops_walk (w : World) (x : Value) (Ls : List (List En)) (hx : ESs w x Ls) (hsz : ∀ L ∈ Ls, L.length ≤ 140737488355328) (hg : ErrCell w) :
    Calls Tryd.prog 4 #[x] w fun e w' => e = .returned (.bool true) ∧ Stay (fun _ => False) w w' := by
  have HX := Lib.hid hx
  have HMANY := Lib.hid (many_any w x Ls hx hsz)
  have HERR := Lib.hid hg
  obtain ⟨a0, c, rfl⟩ := hx.form
  clear hx hsz hg
  go_enter Tryd.func4, Tryd.ntmps4
  go_wp2_with fail
  refine HMANY.out.mono ?_
  rintro e w1 ⟨rfl, hs1⟩
  have HS1 := Lib.hid hs1
  clear hs1 HMANY
  cases hm : manyB Ls with
  | true =>
    clear hm
    go_wp2_with fail
    refine (sure_any w1).mono ?_
    rintro e w2 ⟨rfl, hs2⟩
    have HS2 := Lib.hid (HS1.out.trans hs2)
    clear hs2
    go_wp2
    go_ret
    exact ⟨rfl, HS2.out⟩
  | false =>
    have hm2 : Ls.length ≤ 51 ∧ sumL Ls ≤ 400 := by
      unfold manyB at hm
      simp at hm
      omega
    have HLEN := Lib.hid hm2.1
    have HSUM := Lib.hid hm2.2
    clear hm hm2
    go_wp2_with fail
    refine (owns_any w1 _ Ls (HX.out.stay0 HS1.out) (by have := HLEN.out; omega) (sumL_all HSUM.out)).mono ?_
    rintro e w2 ⟨v2, rfl, ho2, hs2⟩
    have HO2 := Lib.hid ho2
    have HS2 := Lib.hid (HS1.out.trans hs2)
    clear ho2 hs2 HS1
    go_wp2_with fail
    refine (all_uni w2 v2 Ls false HO2.out.ess (by have := HLEN.out; omega) (by have := HSUM.out; omega)).mono ?_
    rintro e w3 ⟨v3, rfl, ho3, hs3⟩
    have HO3 := Lib.hid ho3
    have HS3 := Lib.hid (HS2.out.trans hs3)
    clear hs3 HS2 HO2 ho3
    go_wp2_with fail
    refine (owns_any w3 _ Ls (HX.out.stay0 HS3.out) (by have := HLEN.out; omega) (sumL_all HSUM.out)).mono ?_
    rintro e w4 ⟨v4, rfl, ho4, hs4⟩
    have HO4 := Lib.hid ho4
    have HE3 := Lib.hid (HO3.out.ens.stay0 hs4)
    have HS4 := Lib.hid (HS3.out.trans hs4)
    clear ho4 hs4 HS3 HO3
    go_wp2_with fail
    refine (all_uni w4 v4 Ls true HO4.out.ess (by have := HLEN.out; omega) (by have := HSUM.out; omega)).mono ?_
    rintro e w5 ⟨v5, rfl, ho5, hs5⟩
    have HE5 := Lib.hid ho5.ens
    have HE3' := Lib.hid (HE3.out.stay0 hs5)
    have HS5 := Lib.hid (HS4.out.trans hs5)
    clear ho5 hs5 HS4 HO4 HE3
    go_wp2_with fail
    refine (num_any (resE Ls) w5 (ErrCell.stay0 HERR.out HS5.out) _ rfl).mono ?_
    rintro e w6 ⟨rfl, hs6⟩
    have HS6 := Lib.hid (HS5.out.trans hs6)
    have HT6 := Lib.hid hs6
    clear hs6
    go_wp2_with fail
    refine (num_any (resE Ls) w6 (ErrCell.stay0 HERR.out HS6.out) _ rfl).mono ?_
    rintro e w7 ⟨rfl, hs7⟩
    have HS7 := Lib.hid (HS6.out.trans hs7)
    have HA := Lib.hid ((HE3'.out.stay0 HT6.out).stay0 hs7)
    have HB := Lib.hid ((HE5.out.stay0 HT6.out).stay0 hs7)
    have HNM := Lib.hid (resM_norm Ls)
    have HLM := Lib.hid (Nat.le_trans (resM_len Ls) HSUM.out)
    clear hs7 HE3' HE5 HT6 HS5 HS6
    generalize resM Ls = M at *
    have HA' := Lib.hid (show EnS w7 v3 M from HA.out)
    clear HA
    obtain ⟨a3, c3, rfl⟩ := HA'.out.form
    obtain ⟨F, hF⟩ : ∃ F, F = M.filter (fun e => !e.g) := ⟨_, rfl⟩
    have HB' := Lib.hid (show EnS w7 v5 F from by rw [hF]; exact HB.out)
    have HF := Lib.hid hF
    have hml : (M.length : Int) ≤ 400 := by have := HLM.out; omega
    have hfl : (F.length : Int) ≤ 400 := by have h1 := List.length_filter_le (fun e : En => !e.g) M; have := HLM.out; rw [hF]; omega
    clear HB hF
    obtain ⟨a5, c5, rfl⟩ := HB'.out.form
    go_wp2
    go_loopw [7, 8] (fun k i wr => ∃ j q : Nat, i = .int .i64 (j : Int) ∧ k = .int .i64 (q : Int) ∧ j ≤ M.length ∧ Hid (q = ((M.take j).filter (fun e => !e.g)).length) ∧ Hid (Stay (fun _ => False) w7 wr)) (fun _ i _ => M.length - (intOf i).toNat)
    case atStart => exact ⟨0, 0, rfl, rfl, Nat.zero_le _, Lib.hid (by simp), Lib.hid (Stay.refl _ _)⟩
    case round =>
      obtain ⟨j, q, rfl, rfl, hj, HQ, HS⟩ := hrel
      by_cases hlt : j < M.length
      · obtain ⟨e, he⟩ : ∃ e, M[j]? = some e := ⟨_, List.getElem?_eq_getElem hlt⟩
        obtain ⟨g, o, rfl⟩ := HA'.out.ptr he
        obtain ⟨gg, oo, hgo, _, hc⟩ := (HA'.out.stay0 HS.out).at (by omega)
        cases hgo
        obtain ⟨d0, d1, d2⟩ := hc _ e he
        have HE := Lib.hid he
        cases hg : e.g with
        | true =>
          have hv := gone_v (HNM.out e (List.mem_of_getElem? he)) hg
          rw [hg] at d2
          rw [hv] at d1
          have HQ2 := Lib.hid (show q = ((M.take (j + 1)).filter (fun e => !e.g)).length from by rw [filt_no he (by simp [hg])]; exact HQ.out)
          clear hc he d0 hv hg
          go_wp2
          refine ⟨⟨j + 1, q, by go_num, by go_num, hlt, HQ2, HS⟩, by simp [intOf]; omega⟩
        | false =>
          have hf := filt_at (p := fun e : En => !e.g) he (by simp [hg])
          rw [← HQ.out] at hf
          have HQ2 := Lib.hid (show q + 1 = ((M.take (j + 1)).filter (fun e => !e.g)).length from hf.2.symm)
          have hfq : F[q]? = some e := by rw [HF.out]; exact hf.1
          have hql := (List.getElem?_eq_some_iff.1 hfq).1
          have hqI : ¬ (F.length : Int) ≤ (q : Int) := by omega
          have hqN : ¬ F.length ≤ q := by omega
          obtain ⟨g', o', rfl⟩ := HB'.out.ptr hfq
          rw [hg] at d2
          have k1 := Lib.hid (fun i : InC (Stay (fun _ => False) wr) => ((HA'.out.stay0 (HS.out.trans i.h)).load HE.out))
          have k2 := Lib.hid (fun i : InC (Stay (fun _ => False) wr) => ((HB'.out.stay0 (HS.out.trans i.h)).load hfq))
          haveI : Nonempty (InC (Stay (fun _ => False) wr)) := ⟨⟨wr, Stay.refl _ _⟩⟩
          have HEE := Lib.hid (show eqE e e = true from by rw [eqE_is]; simp)
          clear hc he d0 d1 hg hf hfq
          go_wp2
          refine wp_region_class (Stay (fun _ => False) wr) Stay.drew (by kernel_rfl) (by kernel_rfl) ?_
          repeat (first
            | (refine quiet_loadG (by rfl) 39 (.tmp 53) rfl ⟨g', o' + q * 3, none⟩ rfl (enV e) k2.out ?_; go_frame)
            | (refine quiet_loadG (by rfl) 39 (.tmp 57) rfl ⟨g, o + j * 3, none⟩ rfl (enV e) k1.out ?_; go_frame)
            | (refine quiet_neq_en (by rfl) (.tmp 54) (.tmp 58) rfl e e rfl rfl ?_; go_frame)
            | (go_big_quiet_step (fail)))
          refine wpQuiet_nil ?_
          rintro W ⟨i, rfl⟩
          have HI := Lib.hid i.h
          generalize i.w = w9 at *
          clear k1 k2
          rw [HEE.out]
          go_wp2
          refine ⟨⟨j + 1, q + 1, by go_num, by go_num, hlt, HQ2, Lib.hid (HS.out.trans HI.out)⟩, by simp [intOf]; omega⟩
      · obtain rfl : j = M.length := by omega
        have hqf : q = F.length := by have h1 := HQ.out; rw [List.take_length] at h1; rw [HF.out]; exact h1
        subst hqf
        have HSU := Lib.hid (sure_any wr)
        go_wp2_with fail
        refine HSU.out.mono ?_
        rintro e w8 ⟨rfl, hs8⟩
        have HS8 := Lib.hid ((HS7.out.trans HS.out).trans hs8)
        clear hs8
        go_wp2
        go_ret
        exact ⟨rfl, HS8.out⟩
end Go.Proofs.YtdfhjmodacjilaaDoor.Mg
