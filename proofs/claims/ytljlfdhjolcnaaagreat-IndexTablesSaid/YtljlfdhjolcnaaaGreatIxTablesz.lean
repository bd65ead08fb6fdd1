/-
  IndexTables: the walk.
-/
import Derived.Test.YtljlfdhjolcnaaaGreatIxSuz
namespace Go.Proofs.YtljlfdhjolcnaaaGreat.Ix
open Go.RowKit Go.Maps Me Mg Bo
set_option maxRecDepth 100000
set_option linter.unusedVariables false
set_option linter.unusedSimpArgs false

theorem take_sum_le (l : List Nat) (j : Nat) : (l.take j).sum ≤ l.sum := by
  conv => rhs; rw [← List.take_append_drop j l]
  rw [List.sum_append]
  omega
set_option maxHeartbeats 4000000 in
theorem tables_walk (w : World) (x0 x1 x2 x3 : Int) (xs : Value) (L : List Ac) (hx : AcS w xs L) (hk : ∀ t ∈ L, AcOk t) :
    Calls Tryz.prog 5 #[.agg #[.int .i64 x0, .int .i64 x1, .int .i64 x2, .int .i64 x3], xs] w fun e w' => e = .returned (.bool true) ∧ Stay (fun _ => False) w w' := by
  obtain ⟨n, hn⟩ : ∃ n, n = L.length := ⟨_, rfl⟩
  obtain ⟨xa, xc, rfl⟩ : ∃ a c, xs = .slice a n c := by obtain ⟨p, q, e, _⟩ := hx; exact ⟨p, q, by rw [e, hn]⟩
  have hn1 : n ≤ 9223372036854775807 := by obtain ⟨_, _, e, h1, h2, _⟩ := hx; rw [hn]; exact Nat.le_trans h1 h2
  have HN := Lib.hid hn
  have HX := Lib.hid hx
  have HK := Lib.hid hk
  have HLA := Lib.hid (fun W => laid_any W x0 x1 x2 x3)
  have l0 := small_lt x0 (k := 4) (by decide)
  have l1 := small_lt x1 (k := 3) (by decide)
  have l2 := small_lt x2 (k := 4) (by decide)
  have l3 := small_lt x3 (k := 10) (by decide)
  obtain ⟨m, hm⟩ : ∃ m, m = 1 + smallN x0 4 := ⟨_, rfl⟩
  obtain ⟨f, hf⟩ : ∃ f, f = 1 + smallN x1 3 := ⟨_, rfl⟩
  obtain ⟨p, hp⟩ : ∃ p, p = 1 + smallN x2 4 := ⟨_, rfl⟩
  obtain ⟨q, hq⟩ : ∃ q, q = 1 + smallN x3 10 := ⟨_, rfl⟩
  rw [← hm, ← hf, ← hp, ← hq] at HLA
  have hm2 : 1 ≤ m ∧ m ≤ 4 := by omega
  have HNW := Lib.hid (fun W => new_any True W m f p q ⟨hm2.1, by show m ≤ 1000; omega, by show 1 ≤ f; omega, by show f ≤ 16; omega, by show 1 ≤ p; omega, by show p ≤ 1000; omega, by show 1 ≤ q; omega, by show q ≤ 64; omega⟩)
  unfold cfgV at HLA HNW
  have HM := Lib.hid hm2
  clear hx hk hn hm hf hp hq l0 l1 l2 l3 hm2
  go_enter Tryz.func5, Tryz.ntmps5
  go_wp2_with fail
  refine (HLA.out _).mono ?_
  rintro e w1 ⟨rfl, hs1⟩
  have HS1 := Lib.hid ((show Stay (fun _ => False) w (w.alloc (.cells #[.int .i64 x0, .int .i64 x1, .int .i64 x2, .int .i64 x3] 23)) from Stay.alloc _ _).trans hs1)
  have HB2 := Lib.hid (show RB (w1.alloc (.cells #[.int .i64 (m : Int), .int .i64 (f : Int), .int .i64 (p : Int), .int .i64 (q : Int)] 23)) w1.heap.size m f p q from heap_alloc_new w1 _)
  have HA2 := Lib.hid (show Stay (fun _ => False) w1 (w1.alloc (.cells #[.int .i64 (m : Int), .int .i64 (f : Int), .int .i64 (p : Int), .int .i64 (q : Int)] 23)) from Stay.alloc _ _)
  clear hs1 HLA
  go_wp2_with fail
  obtain ⟨w2, hw2⟩ : ∃ w2, w1.alloc (.cells #[.int .i64 (m : Int), .int .i64 (f : Int), .int .i64 (p : Int), .int .i64 (q : Int)] 23) = w2 := ⟨_, rfl⟩
  rw [hw2] at HB2 HA2 ⊢
  obtain ⟨g, hg⟩ : ∃ g, g = w1.heap.size := ⟨_, rfl⟩
  rw [← hg] at HB2 ⊢
  have HG := Lib.hid hg
  clear hw2 hg
  refine (HNW.out w2).mono ?_
  rintro e w3 ⟨⟨x, rfl, hi3⟩, hs3⟩
  have HI3 := Lib.hid hi3
  have HS3 := Lib.hid hs3
  have HX3 := Lib.hid (((HX.out.stay0 HS1.out).stay0 HA2.out).stay0 hs3)
  have HV := Lib.hid (heavy_any w3 _ L HX3.out HK.out)
  clear hi3 hs3 HNW
  go_wp2_with fail
  refine HV.out.mono ?_
  rintro e w4 ⟨⟨b, rfl⟩, hs4⟩
  have HS4 := Lib.hid (HS3.out.trans hs4)
  have HI4 := Lib.hid (HI3.out.stay0 hs4)
  have HX4 := Lib.hid (HX3.out.stay0 hs4)
  clear hs4 HV HI3 HX3 HS3
  cases b with
  | true =>
    go_wp2_with fail
    refine (sure_any w4).mono ?_
    rintro e w5 ⟨rfl, hs5⟩
    have HS5 := Lib.hid (HS1.out.trans (HA2.out.trans (HS4.out.trans hs5)))
    clear hs5
    go_wp2
    go_ret
    exact ⟨rfl, HS5.out⟩
  | false =>
    go_wp2
    go_loopw [8, 9] (fun nv iv wr => ∃ (i tn : Nat) (I : Im), iv = .int .i64 (i : Int) ∧ nv = .int .i64 (tn : Int) ∧ i ≤ n ∧ i ≤ 40 ∧ Hid (IxAt (fun k => w2.heap.size ≤ k) wr x I) ∧ Hid (Wf I [] i i) ∧ Hid (I.m = m ∧ I.LS.flatten.length = tn ∧ tn * m + I.A.length ≤ i) ∧ Hid (Stay (fun _ => False) w2 wr)) (fun _ iv _ => n - (intOf iv).toNat)
    case atStart =>
      exact ⟨0, 0, freshI True m f p q, rfl, rfl, Nat.zero_le _, Nat.zero_le _, HI4, Lib.hid (Wf.fresh True m f p q), Lib.hid ⟨rfl, rfl, by simp [freshI]⟩, HS4⟩
    case round =>
      obtain ⟨i, tn, I, rfl, rfl, hi, hi40, HI, HW, HC, HS⟩ := hrel
      by_cases hlt : i < n
      · by_cases h40 : i < 40
        · have h40' : (i : Int) < 40 := by omega
          obtain ⟨t, ht⟩ : ∃ t, L[i]? = some t := ⟨_, List.getElem?_eq_getElem (by rw [← HN.out]; exact hlt)⟩
          obtain ⟨g2, o2, rfl, _, _, k2, k3⟩ := (HX.out.stay0 (HS1.out.trans (HA2.out.trans HS.out))).at ht
          have hok := HK.out t (List.mem_of_getElem? ht)
          have hkl := hok.key
          have hvl := hok.val
          generalize t.key = tk at *
          generalize t.val = tv at *
          clear ht hok
          by_cases hlong : 512 < tk.length + tv.length
          · have HPL := Lib.hid (fun W => put_long W x tk tv hlong hkl hvl)
            go_wp2_with fail
            go_region_law ((refine step_call rfl 15 #[.tmp 45, .tmp 50, .tmp 55] #[25, 9, 9] rfl #[.pointer (some ⟨x, 0, none⟩), strV tk, strV tv] (by simp [Act.eval]) (by kernel_rfl) ((HPL.out _).mono ?_); rintro y w9 ⟨rfl, hs9⟩; refine ⟨_, rfl, ?_⟩; have HS9 := Lib.hid (Stay.drew.trans hs9); clear hs9))
            all_goals
              go_wp2
              exact ⟨⟨i + 1, tn, I, by go_num, rfl, hlt, h40, Lib.hid (HI.out.stay0 HS9.out), Lib.hid (HW.out.mono (Nat.le_succ _) (Nat.le_succ _)), Lib.hid ⟨HC.out.1, HC.out.2.1, Nat.le_succ_of_le HC.out.2.2⟩, Lib.hid (HS.out.trans HS9.out)⟩, by simp [intOf]; omega⟩
          · have HPO := Lib.hid (put_ok tk tv HI.out HW.out (by omega) (by omega) hkl hvl hlong)
            have HPO2 := Lib.hid (fun W (hW : Stay (fun _ => False) wr W) => put_ok tk tv (HI.out.stay0 hW) HW.out (by omega) (by omega) hkl hvl hlong)
            clear HPO
            go_wp2_with fail
            go_region_law ((refine step_call rfl 15 #[.tmp 45, .tmp 50, .tmp 55] #[25, 9, 9] rfl #[.pointer (some ⟨x, 0, none⟩), strV tk, strV tv] (by simp [Act.eval]) (by kernel_rfl) ((HPO2.out _ Stay.drew).mono ?_); rintro y w9 ⟨rfl, I2, hd9, hp9⟩; refine ⟨_, rfl, ?_⟩; have HD9 := Lib.hid hd9; have HP9 := Lib.hid hp9; have HZ9 := Lib.hid (show w2.heap.size ≤ wr.drew.heap.size from HS.out.size); clear hd9 hp9))
            all_goals
              have HI9 := Lib.hid (show IxAt (fun k => w2.heap.size ≤ k) w9 x I2 from HD9.out.ix.mono (fun k _ h => by have := HZ9.out; omega))
              have HS9 := Lib.hid (show Stay (fun _ => False) w2 w9 from (HS.out.trans Stay.drew).andThen HD9.out.st (fun k hk h => by omega))
              have HLV := Lib.hid (levels_ix w9 x I2 HI9.out (Nat.le_trans HD9.out.wf.ln (by omega)))
              go_wp2_with fail
              refine HLV.out.mono ?_
              rintro e w10 ⟨v10, rfl, ho10, hs10⟩
              obtain ⟨ln, hln⟩ : ∃ ln, ln = (lensL I2.LS).length := ⟨_, rfl⟩
              obtain ⟨va, vc, rfl⟩ : ∃ a c, v10 = .slice a ln c := by obtain ⟨a, c, e⟩ := ho10.form; exact ⟨a, c, by rw [e, hln]⟩
              have HO10 := Lib.hid ho10
              have HS10 := Lib.hid hs10
              have HLN := Lib.hid hln
              have HLE := Lib.hid (show (lensL I2.LS).sum = I2.LS.flatten.length from by unfold lensL; rw [List.length_flatten])
              have HLT := Lib.hid (show I2.LS.flatten.length ≤ 100 from Nat.le_trans HD9.out.wf.tn (by omega))
              have hln2 : ln ≤ 100 := by rw [hln]; unfold lensL; rw [List.length_map]; exact Nat.le_trans HD9.out.wf.ln (by omega)
              clear ho10 hs10 hln HLV
              go_wp2
              go_loopw [10, 12] (fun sv jv wz => ∃ (j s : Nat), jv = .int .i64 (j : Int) ∧ sv = .int .i64 (s : Int) ∧ j ≤ ln ∧ Hid (s = ((lensL I2.LS).take j).sum) ∧ Hid (Stay (fun _ => False) w10 wz)) (fun _ jv _ => ln - (intOf jv).toNat)
              case atStart => exact ⟨0, 0, rfl, rfl, Nat.zero_le _, Lib.hid rfl, Lib.hid (Stay.refl _ _)⟩
              case round =>
                obtain ⟨j, s, rfl, rfl, hj, HSM, HZ⟩ := hrel
                have hs100 : s ≤ 100 := by
                  rw [HSM.out]
                  exact Nat.le_trans (take_sum_le _ _) (by rw [HLE.out]; exact HLT.out)
                by_cases hjl : j < ln
                · obtain ⟨d, hd⟩ : ∃ d, (lensL I2.LS)[j]? = some d := ⟨_, List.getElem?_eq_getElem (by rw [← HLN.out]; exact hjl)⟩
                  obtain ⟨gx, xc', e, _, _⟩ := row_at HO10.out (by rw [← HLN.out]; exact Nat.lt_of_le_of_lt (Nat.zero_le j) hjl)
                  rw [← HLN.out] at e
                  cases e
                  have cx := IO.cell' HLN.out (HO10.out.stay0 HZ.out) hd
                  have HS2 := Lib.hid (show s + d = ((lensL I2.LS).take (j + 1)).sum by rw [List.take_add_one, hd, HSM.out]; simp)
                  have hd100 : s + d ≤ 100 := by
                    rw [HS2.out]
                    exact Nat.le_trans (take_sum_le _ _) (by rw [HLE.out]; exact HLT.out)
                  clear hd
                  go_wp2
                  exact ⟨⟨j + 1, s + d, by go_num, by go_num, hjl, HS2, HZ⟩, by simp [intOf]; omega⟩
                · obtain rfl : j = ln := by omega
                  have hsm : s = I2.LS.flatten.length := by rw [HSM.out, HLN.out, List.take_length, HLE.out]
                  have HSE := Lib.hid hsm
                  have HI10 := Lib.hid (HI9.out.stay0 (HS10.out.trans HZ.out))
                  have HHD := Lib.hid (held_ix _ x I2 HI10.out (by rw [wf_held HD9.out.wf]; exact Nat.le_trans HLT.out (by decide)))
                  rw [wf_held HD9.out.wf, ← hsm] at HHD
                  have hc1 : ((s : Int) < (tn : Int)) = False := by
                    have h1 := HP9.out.tl
                    have h2 := HC.out.2.1
                    simp only [eq_iff_iff, iff_false]
                    omega
                  have hc2 : ((tn : Int) + 1 < (s : Int)) = False := by
                    have h1 := HP9.out.tl
                    have h2 := HC.out.2.1
                    simp only [eq_iff_iff, iff_false]
                    omega
                  have htn : tn ≤ 40 := by
                    have h1 := HW.out.tn
                    have h2 := HC.out.2.1
                    omega
                  clear hsm
                  go_wp2_with fail
                  refine HHD.out.mono ?_
                  rintro e w12 ⟨rfl, hs12⟩
                  have HI12 := Lib.hid (HI10.out.stay0 hs12)
                  have HS12 := Lib.hid (HS9.out.trans (HS10.out.trans (HZ.out.trans hs12)))
                  clear hs12 HHD
                  go_wp2
                  refine ⟨⟨i + 1, s, I2, by go_num, rfl, hlt, h40, HI12, Lib.hid HD9.out.wf, Lib.hid ⟨HD9.out.nx.m.trans HC.out.1, HSE.out.symm, ?_⟩, HS12⟩, by simp [intOf]; omega⟩
                  obtain ⟨q1, q2, q3⟩ := HC.out
                  rw [HSE.out]
                  rcases HP9.out.tl with ⟨q4, q5⟩ | ⟨q4, q5, q6⟩
                  · rw [q4, q2]
                    omega
                  · rw [q4, q2, Nat.succ_mul]
                    omega
        · have h40' : ((i : Int) < 40) = False := by simp; omega
          have hcm := (HB2.out.stay (HS.out) (fun x => x)).cel (j := 0) rfl
          obtain ⟨dq, hdq⟩ : ∃ dq, dq = 40 / m := ⟨_, rfl⟩
          have hm0 : ¬ (m : Int) = 0 := by have := HM.out; omega
          have hdq40 : dq ≤ 40 := by rw [hdq]; exact Nat.div_le_self _ _
          have hdv : (40 : Int).tdiv (m : Int) = (dq : Int) := by rw [hdq]; rfl
          have hgt : ((dq : Int) < (tn : Int)) = False := by
            have h1 := HC.out.2.2
            have h2 : tn ≤ 40 / m := (Nat.le_div_iff_mul_le (by have := HM.out; omega)).2 (by omega)
            simp only [eq_iff_iff, iff_false]
            omega
          have HFL := Lib.hid (flush_law HI.out HW.out (by omega) (by omega))
          clear hdq
          go_wp2_with fail
          refine HFL.out.mono ?_
          rintro e w13 ⟨rfl, I3, hd13, hk13⟩
          have HD13 := Lib.hid hd13
          have HK13 := Lib.hid hk13
          have HI13 := Lib.hid hd13.ix
          have HS13 := Lib.hid (show Stay (fun _ => False) w w13 from HS1.out.trans (HA2.out.trans (HS.out.andThen hd13.st (fun k hk h => by omega))))
          clear hd13 hk13 HFL
          have hn0 : ¬ (n : Int) = 0 := by omega
          have HHD := Lib.hid (held_ix w13 x I3 HI13.out (by rw [wf_held HD13.out.wf]; exact Nat.le_trans HD13.out.wf.tn (by omega)))
          rw [wf_held HD13.out.wf] at HHD
          obtain ⟨hd, hhd⟩ : ∃ hd, hd = I3.LS.flatten.length := ⟨_, rfl⟩
          rw [← hhd] at HHD
          have hge : ((tn : Int) ≤ (hd : Int)) = True := by
            have h1 := HK13.out.tl
            have h2 := HC.out.2.1
            simp only [eq_iff_iff, iff_true]
            omega
          clear hhd
          go_wp2_with fail
          refine HHD.out.mono ?_
          rintro e w14 ⟨rfl, hs14⟩
          go_wp2_with fail
          refine (sure_any w14).mono ?_
          rintro e w15 ⟨rfl, hs15⟩
          have HS15 := Lib.hid (HS13.out.trans (hs14.trans hs15))
          clear hs14 hs15 HHD
          go_wp2
          go_ret
          exact ⟨rfl, HS15.out⟩
      · have hin : ((i : Int) < (n : Int)) = False := by simp; omega
        have hcm := (HB2.out.stay (HS.out) (fun x => x)).cel (j := 0) rfl
        obtain ⟨dq, hdq⟩ : ∃ dq, dq = 40 / m := ⟨_, rfl⟩
        have hm0 : ¬ (m : Int) = 0 := by have := HM.out; omega
        have hdq40 : dq ≤ 40 := by rw [hdq]; exact Nat.div_le_self _ _
        have hdv : (40 : Int).tdiv (m : Int) = (dq : Int) := by rw [hdq]; rfl
        have hgt : ((dq : Int) < (tn : Int)) = False := by
          have h1 := HC.out.2.2
          have h2 : tn ≤ 40 / m := (Nat.le_div_iff_mul_le (by have := HM.out; omega)).2 (by omega)
          simp only [eq_iff_iff, iff_false]
          omega
        have HFL := Lib.hid (flush_law HI.out HW.out (by omega) (by omega))
        clear hdq
        go_wp2_with fail
        refine HFL.out.mono ?_
        rintro e w13 ⟨rfl, I3, hd13, hk13⟩
        have HD13 := Lib.hid hd13
        have HK13 := Lib.hid hk13
        have HI13 := Lib.hid hd13.ix
        have HS13 := Lib.hid (show Stay (fun _ => False) w w13 from HS1.out.trans (HA2.out.trans (HS.out.andThen hd13.st (fun k hk h => by omega))))
        clear hd13 hk13 HFL
        by_cases hn0 : (n : Int) = 0
        · go_wp2_with fail
          refine (sure_any w13).mono ?_
          rintro e w15 ⟨rfl, hs15⟩
          have HS15 := Lib.hid (HS13.out.trans hs15)
          clear hs15
          go_wp2
          go_ret
          exact ⟨rfl, HS15.out⟩
        · have HHD := Lib.hid (held_ix w13 x I3 HI13.out (by rw [wf_held HD13.out.wf]; exact Nat.le_trans HD13.out.wf.tn (by omega)))
          rw [wf_held HD13.out.wf] at HHD
          obtain ⟨hd, hhd⟩ : ∃ hd, hd = I3.LS.flatten.length := ⟨_, rfl⟩
          rw [← hhd] at HHD
          have hge : ((tn : Int) ≤ (hd : Int)) = True := by
            have h1 := HK13.out.tl
            have h2 := HC.out.2.1
            simp only [eq_iff_iff, iff_true]
            omega
          clear hhd
          go_wp2_with fail
          refine HHD.out.mono ?_
          rintro e w14 ⟨rfl, hs14⟩
          go_wp2_with fail
          refine (sure_any w14).mono ?_
          rintro e w15 ⟨rfl, hs15⟩
          have HS15 := Lib.hid (HS13.out.trans (hs14.trans hs15))
          clear hs14 hs15 HHD
          go_wp2
          go_ret
          exact ⟨rfl, HS15.out⟩
end Go.Proofs.YtljlfdhjolcnaaaGreat.Ix
