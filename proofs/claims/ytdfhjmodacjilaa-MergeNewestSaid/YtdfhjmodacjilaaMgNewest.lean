/-
  merge's laws: MergeNewest, walked.
-/
import Derived.Test.YtdfhjmodacjilaaMgR
import Derived.Test.YtdfhjmodacjilaaMgN
namespace Go.Proofs.Ytdfhjmodacjilaa.Mg
open Go.RowKit Go.Maps Me
set_option maxRecDepth 100000
set_option linter.unusedVariables false

theorem LsO.tyb {base : Nat} {w : World} {v : Value} {Ls : List (List En)} (h : LsO base w v Ls) : ∀ k, v.ownBlock = some k → ∃ cs fr, w.heap[k]? = some (.cells cs 25 fr) := by
  intro k hk
  obtain ⟨vs, k1, _⟩ := h
  rcases k1.2 with ⟨e, _⟩ | ⟨g', cap, cur, e, h4, hg, _⟩
  · rw [e] at hk; cases hk
  · rw [e] at hk
    have hk' : g' = k := Option.some.inj hk
    subst hk'
    exact ⟨_, _, hg⟩
/-- The three cells of a box written anew. -/
def setAll (w : World) (g : Nat) (q : En) : World := ((w.setCell ⟨g, 0, none⟩ (.string ⟨q.k.toArray⟩)).setCell ⟨g, 1, none⟩ (.string ⟨q.v.toArray⟩)).setCell ⟨g, 2, none⟩ (.bool q.g)
theorem Box.setAll {w : World} {g : Nat} {x : En} (h : Box w g x) (q : En) : Box (setAll w g q) g q := by
  unfold Box at h ⊢
  unfold Mg.setAll
  rw [heap_setCell_same _ g 2 _ _ _ (heap_setCell_same _ g 1 _ _ _ (heap_setCell_same w g 0 _ _ _ h))]
  rfl
theorem stay_setAll (w : World) (g : Nat) (q : En) : Stay (· = g) w (setAll w g q) := ((Stay.setCell (X := (· = g)) _ _ _ (by rfl)).trans (Stay.setCell (X := (· = g)) _ _ _ (by rfl))).trans (Stay.setCell (X := (· = g)) _ _ _ (by rfl))
theorem puts_snoc (M : List En) {L : List En} {k : Nat} {e : En} (h : L[k]? = some e) : putsF M (L.take (k + 1)) = putL (putsF M (L.take k)) e := by
  rw [List.take_add_one, h]
  simp [putsF]
theorem seen_snoc {Ls : List (List En)} {j : Nat} {L : List En} (h : Ls[j]? = some L) : seenN (Ls.take (j + 1)) = putsF (seenN (Ls.take j)) L := by
  unfold seenN
  rw [List.take_add_one, h, Option.toList_some, List.foldl_append]
  rfl
theorem rise_snoc {Ls : List (List En)} {j : Nat} {L : List En} (h : Ls[j]? = some L) : riseN (Ls.take (j + 1)) = riseN (Ls.take j) ++ [putsF [] L] := by
  unfold riseN
  rw [List.take_add_one, h, Option.toList_some, List.map_append]
  rfl
theorem seen_take_len (Ls : List (List En)) {j : Nat} {L : List En} (h : Ls[j]? = some L) (k : Nat) : (putsF (seenN (Ls.take j)) (L.take k)).length ≤ sumL Ls := by
  have h1 := putsF_len (L.take k) (seenN (Ls.take j))
  have h2 := seen_len (Ls.take j) []
  have h3 := sumL_take Ls (j + 1)
  rw [sumL_snoc h] at h3
  have h4 : (L.take k).length ≤ L.length := by rw [List.length_take]; omega
  unfold seenN at *
  simp only [List.length_nil, Nat.zero_add] at h2
  omega

set_option maxHeartbeats 4000000 in
theorem newest_walk (w : World) (x : Value) (Ls : List (List En)) (hx : ESs w x Ls) (hsz : ∀ L ∈ Ls, L.length ≤ 140737488355328) :
    Calls Try.prog 3 #[x] w fun e w' => e = .returned (.bool true) ∧ Stay (fun _ => False) w w' := by
  have HX := Lib.hid hx
  have HMANY := Lib.hid (many_any w x Ls hx hsz)
  obtain ⟨a0, c, rfl⟩ := hx.form
  clear hx hsz
  go_enter Try.func3, Try.ntmps3
  go_wp2_with fail
  refine HMANY.out.mono ?_
  rintro e w1 ⟨rfl, hs1⟩
  have HS1 := Lib.hid hs1
  clear hs1 HMANY
  cases hm : manyB Ls with
  | true =>
    clear hm
    go_wp2_with fail
    refine (sure_any w1).mono ?_
    rintro e w2 ⟨rfl, hs2⟩
    have HS2 := Lib.hid (HS1.out.trans hs2)
    clear hs2
    go_wp2
    go_ret
    exact ⟨rfl, HS2.out⟩
  | false =>
    have hm2 : Ls.length ≤ 51 ∧ sumL Ls ≤ 400 := by
      unfold manyB at hm
      simp at hm
      omega
    have HLEN := Lib.hid hm2.1
    have HSUM := Lib.hid hm2.2
    have hlI : (Ls.length : Int) ≤ 51 := by omega
    clear hm hm2
    go_wp2
    go_loopw [3, 5, 6] (fun v s t wr => ∃ j : Nat, t = .int .i64 (j : Int) ∧ j ≤ Ls.length ∧ Hid (LsO w.heap.size wr v (riseN (Ls.take j))) ∧ Hid (EnO w.heap.size wr s (seenN (Ls.take j))) ∧ Hid (Stay (fun _ => False) w wr)) (fun _ _ t _ => Ls.length - (intOf t).toNat)
    case atStart => exact ⟨0, rfl, Nat.zero_le _, Lib.hid (LsO.nil _ _), Lib.hid (EnO.nil _ _), HS1⟩
    case round =>
      obtain ⟨j, rfl, hj, HR, HSE, HS⟩ := hrel
      by_cases hlt : j < Ls.length
      · obtain ⟨L, hL⟩ : ∃ L, Ls[j]? = some L := ⟨_, List.getElem?_eq_getElem hlt⟩
        obtain ⟨g, o, v, rfl, cv, hv⟩ := (HX.out.stay0 HS.out).at hL
        obtain ⟨va, vc, rfl⟩ := hv.form
        have HL := Lib.hid hL
        have HV := Lib.hid hv
        have CV := Lib.hid cv
        have hll : (L.length : Int) ≤ 400 := by have h1 := sumL_at (List.mem_of_getElem? hL); have h2 := HSUM.out; omega
        have HSL := Lib.hid (fun k => Nat.le_trans (seen_take_len Ls hL k) HSUM.out)
        have HXL := Lib.hid (show ∀ k, (putsF [] (L.take k)).length ≤ 1000 from fun k => by
          have h1 := rise_len (L.take k)
          have h2 := sumL_at (List.mem_of_getElem? hL)
          have h3 := HSUM.out
          rw [List.length_take] at h1
          omega)
        have HSN := Lib.hid (seen_snoc hL)
        have HRN := Lib.hid (rise_snoc hL)
        have HTJ := Lib.hid (show (riseN (Ls.take j)).length ≤ 51 from by unfold riseN; rw [List.length_map, List.length_take]; have := HLEN.out; omega)
        obtain ⟨wo, rfl⟩ : ∃ wo, wo = wr := ⟨_, rfl⟩
        clear hL cv hv
        go_wp2
        go_loopw [5, 7, 8] (fun s y t wr => ∃ k : Nat, t = .int .i64 (k : Int) ∧ k ≤ L.length ∧ Hid (EnO w.heap.size wr s (putsF (seenN (Ls.take j)) (L.take k))) ∧ Hid (EnO w.heap.size wr y (putsF [] (L.take k))) ∧ Hid (Stay (fun _ => False) wo wr)) (fun _ _ t _ => L.length - (intOf t).toNat)
        case atStart => exact ⟨0, rfl, Nat.zero_le _, HSE, Lib.hid (EnO.nil _ _), Lib.hid (Stay.refl _ _)⟩
        case round =>
          obtain ⟨k, rfl, hk, HOK, HYK, HSK⟩ := hrel
          have cv := HSK.out.cell CV.out (fun x => x)
          by_cases hlt : k < L.length
          · obtain ⟨e, he⟩ : ∃ e, L[k]? = some e := ⟨_, List.getElem?_eq_getElem hlt⟩
            have HE := Lib.hid he
            obtain ⟨ge, oe, rfl⟩ := HV.out.ptr he
            have kl := Lib.hid ((HV.out.stay0 HSK.out).load he)
            have HP1 := Lib.hid (rput_any wr u7 _ e HYK.out.ens (HXL.out k))
            clear he
            go_wp2_with (first
              | (refine wpList_load_run (by rfl) 28 (.tmp 39) rfl ⟨ge, oe + k * 3, none⟩ rfl _ kl.out ?_))
            refine HP1.out.mono ?_
            rintro y w2 ⟨v2, rfl, ho2, hs2⟩
            have HO2 := Lib.hid ho2
            have HS2 := Lib.hid hs2
            have cv2 := hs2.cell cv (fun x => x)
            have kl2 := Lib.hid ((HV.out.stay0 (HSK.out.trans hs2)).load HE.out)
            have HP2 := Lib.hid (rput_any w2 u5 _ e (HOK.out.ens.stay0 hs2) (Nat.le_trans (HSL.out k) (by decide)))
            clear ho2 hs2 cv
            go_wp2_with (first
              | (refine wpList_load_run (by rfl) 28 (.tmp 48) rfl ⟨ge, oe + k * 3, none⟩ rfl _ kl2.out ?_))
            refine HP2.out.mono ?_
            rintro y w3 ⟨v3, rfl, ho3, hs3⟩
            have HO3 := Lib.hid ho3
            have HS3 := Lib.hid hs3
            clear ho3 hs3
            go_wp2
            refine ⟨⟨k + 1, by go_num, hlt, Lib.hid ?_, Lib.hid ?_, Lib.hid ((HSK.out.trans HS2.out).trans HS3.out)⟩, by simp [intOf]; omega⟩
            · rw [puts_snoc _ HE.out]
              exact HO3.out.rebase (fun q hq => Nat.le_trans ((HS.out.trans HSK.out).trans HS2.out).size (HO3.out.lt q hq).1)
            · rw [puts_snoc _ HE.out]
              exact (HO2.out.stay0 HS3.out).rebase (fun q hq => Nat.le_trans (HS.out.trans HSK.out).size (HO2.out.lt q hq).1)
          · obtain rfl : k = L.length := by omega
            have HY := Lib.hid (show EnO w.heap.size wr u7 (putsF [] L) from by have h1 := HYK.out; rwa [List.take_length] at h1)
            have HO := Lib.hid (show EnO w.heap.size wr u5 (seenN (Ls.take (j + 1))) from by have h1 := HOK.out; rw [List.take_length] at h1; rw [HSN.out]; exact h1)
            obtain ⟨ya, yc, hyf⟩ := HY.out.form
            subst hyf
            have HA2 := Lib.hid (show Stay (fun _ => False) wr (wr.alloc (.cells #[.slice ya (putsF [] L).length yc] 25)) from Stay.alloc _ _)
            have HC2 := Lib.hid (show (wr.alloc (.cells #[.slice ya (putsF [] L).length yc] 25)).cell? ⟨wr.heap.size, 0, none⟩ = some (.slice ya (putsF [] L).length yc) from (cell_of_row _ _ 0 _ _ _ (heap_alloc_new wr _)).trans rfl)
            have HR2 := Lib.hid ((HR.out.stay0 HSK.out).stay0 HA2.out)
            go_wp2_with (first
              | (at_builtin
                 refine wpList_append_ls rfl (.tmp 51) (.tmp 53) 22 rfl Try.underlying22 wr.heap.size 1 (.slice ya (putsF [] L).length yc) (putsF [] L) rfl rfl HR2.out (HY.out.stay0 HA2.out) rfl HC2.out (by have := HTJ.out; omega) (Nat.le_trans (HS.out.trans HSK.out).size HA2.out.size) ?_
                 intro v3 w3 ho3 hs3 hb3
                 have HO3 := Lib.hid ho3
                 have HSE3 := Lib.hid ((HO.out.stay0 HA2.out).stay hs3 (fun k hk hv => by
                   obtain ⟨cs, fr, hg⟩ := (EnO.ent (HO.out.stay0 HA2.out)).2 k hk
                   obtain ⟨cs', fr', hg'⟩ := HR2.out.tyb k hv
                   exact ne_ty hg hg' (by decide) rfl))
                 have HS3 := Lib.hid (stay_seal ((((HS.out.trans HSK.out).trans HA2.out).mono (fun _ x => x.elim)).trans hs3) (fun k hk => (HR2.out.lt k hk).1))
                 clear ho3 hs3 hb3))
            refine ⟨⟨j + 1, by go_num, by omega, Lib.hid (by rw [HRN.out]; exact HO3.out), HSE3, HS3⟩, by simp [intOf]; omega⟩
      · obtain rfl : j = Ls.length := by omega
        have HR' := Lib.hid (show LsO w.heap.size wr u3 (riseN Ls) from by have h1 := HR.out; rwa [List.take_length] at h1)
        have HSE' := Lib.hid (show EnO w.heap.size wr u5 (seenN Ls) from by have h1 := HSE.out; rwa [List.take_length] at h1)
        have HRL := Lib.hid (show (riseN Ls).length = Ls.length from by unfold riseN; rw [List.length_map])
        have HRS := Lib.hid (Nat.le_trans (rise_sum Ls) HSUM.out)
        have HSR := Lib.hid (rise_sorted Ls)
        have HNL := Lib.hid (newest_len Ls)
        have HNA := Lib.hid (newest_at Ls)
        have HAL := Lib.hid (Nat.le_trans (allN_len (riseN Ls)) HRS.out)
        have HAS := Lib.hid (allN_sorted (riseN Ls))
        generalize seenN Ls = S at *
        generalize riseN Ls = R at *
        obtain ⟨sa, sc, hsf⟩ := HSE'.out.form
        subst hsf
        clear HR HSE
        go_wp2_with fail
        refine (owns_any wr u3 R HR'.out.ess (by rw [HRL.out]; have := HLEN.out; omega) (sumL_all HRS.out)).mono ?_
        rintro e w2 ⟨v2, rfl, ho2, hs2⟩
        have HO2 := Lib.hid ho2
        have HR2 := Lib.hid (HR'.out.stay0 hs2)
        have HS2 := Lib.hid (HS.out.trans hs2)
        clear ho2 hs2
        go_wp2_with fail
        refine (all_any w2 v2 R false HO2.out.ess (by rw [HRL.out]; have := HLEN.out; omega) (by have := HRS.out; omega)).mono ?_
        rintro e w3 ⟨hs3, hc⟩
        rcases hc with ⟨_, v3, rfl, ho3⟩ | ⟨hn, _⟩
        · have HE3 := Lib.hid (show EnS w3 v3 (allN R) from ho3.ens)
          have HR3 := Lib.hid (HR2.out.stay0 hs3)
          have HS3 := Lib.hid (HS2.out.trans hs3)
          clear ho3 hs3 HR2 HS2
          generalize allN R = M at *
          obtain ⟨a3, c3, rfl⟩ := HE3.out.form
          have hml : (M.length : Int) ≤ 400 := by have := HAL.out; omega
          have hms : S.length = M.length := HNL.out.symm
          obtain ⟨ra, rc, hrf⟩ := HR3.out.form
          subst hrf
          have hrl : (R.length : Int) ≤ 51 := by rw [HRL.out]; exact hlI
          go_wp2
          go_loopw [11] (fun t wr => ∃ j : Nat, t = .int .i64 (j : Int) ∧ j ≤ M.length ∧ Hid (Stay (fun _ => False) w3 wr)) (fun t _ => M.length - (intOf t).toNat)
          case atStart => exact ⟨0, rfl, Nat.zero_le _, Lib.hid (Stay.refl _ _)⟩
          case round =>
            obtain ⟨j, rfl, hj, HSJ⟩ := hrel
            by_cases hlt : j < M.length
            · obtain ⟨e, he⟩ : ∃ e, M[j]? = some e := ⟨_, List.getElem?_eq_getElem hlt⟩
              obtain ⟨ge, oe, rfl⟩ := HE3.out.ptr he
              obtain ⟨g9, o9, e9, _, hc⟩ := (HE3.out.stay0 HSJ.out).at (by omega)
              cases e9
              obtain ⟨d0, _, _⟩ := hc _ e he
              have HE := Lib.hid he
              obtain ⟨n, Q, hQ, hgQ, hbe⟩ := HNA.out e (List.mem_of_getElem? he)
              have HQ := Lib.hid hQ
              have HGQ := Lib.hid hgQ
              have HBE := Lib.hid hbe
              have hnR : n < R.length := (List.getElem?_eq_some_iff.1 hQ).1
              obtain ⟨wj, rfl⟩ : ∃ wj, wj = wr := ⟨_, rfl⟩
              clear he hQ hgQ hbe
              by_cases hj0 : 0 < j
              · have hj0I : (0 : Int) < (j : Int) := by omega
                obtain ⟨j1, hj1⟩ : ∃ j1, j = j1 + 1 := ⟨j - 1, by omega⟩
                have hj1I : (j : Int) - 1 = (j1 : Int) := by omega
                obtain ⟨e0, he0⟩ : ∃ e0, M[j1]? = some e0 := ⟨_, List.getElem?_eq_getElem (by omega)⟩
                obtain ⟨f0, _, _⟩ := hc _ e0 he0
                have HLT3 := Lib.hid (sorted_at HAS.out (show j1 < j by omega) he0 HE.out)
                have hj1m : j1 < M.length := by omega
                clear he0 hj1 hc
                go_wp2
                go_quiet (fail)
                rw [less_eq, HLT3.out, show (!true) = false from rfl]
                have HSN := Lib.hid (HSJ.out.trans (stay_drewN (X := fun _ => False) wj nq))
                generalize wj.drewN nq = w5 at *
                clear d0 f0
                go_wp2
                go_loopw [12] (fun t wr => ∃ k : Nat, t = .int .i64 (k : Int) ∧ k ≤ n ∧ Hid (Stay (fun _ => False) w3 wr)) (fun t _ => R.length - (intOf t).toNat)
                case atStart => exact ⟨0, rfl, Nat.zero_le _, HSN⟩
                case round =>
                  obtain ⟨k, rfl, hk, HSK⟩ := hrel
                  have hkR : k < R.length := by omega
                  obtain ⟨P, hP⟩ : ∃ P, R[k]? = some P := ⟨_, List.getElem?_eq_getElem hkR⟩
                  obtain ⟨gr, or1, u, hra, cu, hu⟩ := (HR3.out.ess.stay0 HSK.out).at hP
                  subst hra
                  obtain ⟨g9, o9, e9, _, hc9⟩ := (HE3.out.stay0 HSK.out).at (by omega)
                  cases e9
                  obtain ⟨c0, _, _⟩ := hc9 _ e HE.out
                  have HP := Lib.hid hP
                  obtain ⟨q, hq⟩ : ∃ q, q = entOf (getL P e.k) := ⟨_, rfl⟩
                  obtain ⟨qb, hqb⟩ : ∃ qb, qb = (getL P e.k).isSome := ⟨_, rfl⟩
                  have HQE := Lib.hid hq
                  have HQB := Lib.hid hqb
                  have HGET := Lib.hid (fun W (hs : Stay (fun _ => False) wr W) => (show Calls Try.prog 9 #[u, strV e.k] W fun e w' => e = .returned (.tuple #[.agg #[.string ⟨q.k.toArray⟩, .string ⟨q.v.toArray⟩, .bool q.g], .bool qb]) ∧ Stay (fun _ => False) W w' from by rw [hq, hqb]; exact rget_any W u P e.k (hu.stay0 hs)))
                  obtain ⟨ua, uc, rfl⟩ := hu.form
                  have hz1 : ge < wr.heap.size := World.block_lt_of_cell? _ _ c0
                  have hz2 : gr < wr.heap.size := World.block_lt_of_cell? _ _ cu
                  have hz3 : ¬ ge = wr.heap.size := by omega
                  have hz4 : ¬ gr = wr.heap.size := by omega
                  clear hP hu hc9 hq hqb
                  go_wp2
                  go_region_law (first
                    | (refine step_call rfl 9 #[.tmp 103, .tmp 108] #[25, 9] rfl #[.slice ua P.length uc, strV e.k] (by simp [Act.eval]) (by kernel_rfl) ((HGET.out _ Stay.drew).mono ?_); rintro y w6 ⟨rfl, hs6⟩; refine ⟨_, rfl, ?_⟩; have HS6 := Lib.hid (Stay.drew.trans hs6); clear hs6)
                    | (refine step_call rfl 9 #[.tmp 103, .tmp 108] #[25, 9] rfl #[.slice ua P.length uc, strV e.k] (by simp [Act.eval]) (by kernel_rfl) ((HGET.out _ (Stay.drew.trans (Stay.alloc _ _))).mono ?_); rintro y w6 ⟨rfl, hs6⟩; refine ⟨_, rfl, ?_⟩; have HS6 := Lib.hid ((Stay.drew.trans (Stay.alloc _ _)).trans hs6); have hb6 := (Box.new wr.drew ⟨[], [], false⟩).stay0 hs6; have HB6 := Lib.hid (show Box w6 wr.heap.size ⟨[], [], false⟩ from hb6); have y0 : w6.cell? ⟨wr.heap.size, 0, none⟩ = some (.string ⟨#[]⟩) := hb6.c (j := 0) rfl; have y1 : w6.cell? ⟨wr.heap.size, 1, none⟩ = some (.string ⟨#[]⟩) := hb6.c (j := 1) rfl; have y2 : w6.cell? ⟨wr.heap.size, 2, none⟩ = some (.bool false) := hb6.c (j := 2) rfl; have z0 : w6.frozen? ⟨wr.heap.size, 0, none⟩ = false := hb6.fr 0; have z1 : w6.frozen? ⟨wr.heap.size, 1, none⟩ = false := hb6.fr 1; have z2 : w6.frozen? ⟨wr.heap.size, 2, none⟩ = false := hb6.fr 2; clear hs6 hb6))
                  all_goals first
                    | (have HBq := Lib.hid (show Box (w6.alloc (.cells #[.string ⟨q.k.toArray⟩, .string ⟨q.v.toArray⟩, .bool q.g] 28)) w6.heap.size q from heap_alloc_new w6 _)
                       have HSW := Lib.hid (HS6.out.trans (show Stay (fun _ => False) w6 (w6.alloc (.cells #[.string ⟨q.k.toArray⟩, .string ⟨q.v.toArray⟩, .bool q.g] 28)) from Stay.alloc _ _))
                       go_frame
                       generalize w6.alloc (.cells #[.string ⟨q.k.toArray⟩, .string ⟨q.v.toArray⟩, .bool q.g] 28) = W at HBq HSW ⊢
                       clear c0 cu hz1 hz2 hz3 hz4
                       by_cases hkn : k = n
                       · subst hkn
                         obtain rfl : P = Q := by have h1 := HP.out; rw [HQ.out] at h1; exact (Option.some.inj h1).symm
                         have hqe : q = e := by rw [HQE.out, HGQ.out]; rfl
                         have hqt : qb = true := by rw [HQB.out, HGQ.out]; rfl
                         subst hqe hqt
                         have HEE := Lib.hid (show eqE q q = true from by rw [eqE_is]; simp)
                         have k1 := Lib.hid (fun i : InC (Stay (fun _ => False) W) => ((HBq.out.stay0 i.h).run_load))
                         have k2 := Lib.hid (fun i : InC (Stay (fun _ => False) W) => ((HE3.out.stay0 ((HSK.out.trans HSW.out).trans i.h)).load HE.out))
                         haveI : Nonempty (InC (Stay (fun _ => False) W)) := ⟨⟨W, Stay.refl _ _⟩⟩
                         go_wp2
                         refine wp_region_class (Stay (fun _ => False) W) Stay.drew (by kernel_rfl) (by kernel_rfl) ?_
                         repeat (first
                           | (refine quiet_loadG (by rfl) 28 (.tmp 13) rfl ⟨w6.heap.size, 0, none⟩ rfl (enV q) k1.out ?_; go_frame)
                           | (refine quiet_loadG (by rfl) 28 (.tmp 116) rfl ⟨ge, oe + j * 3, none⟩ rfl (enV q) k2.out ?_; go_frame)
                           | (refine quiet_neq_en (by rfl) (.tmp 113) (.tmp 117) rfl q q rfl rfl ?_; go_frame)
                           | (go_big_quiet_step (fail)))
                         refine wpQuiet_nil ?_
                         rintro W2 ⟨i, rfl⟩
                         have HI := Lib.hid i.h
                         generalize i.w = w9 at *
                         clear k1 k2
                         rw [HEE.out]
                         go_wp2
                         go_roundw
                         case rel => exact ⟨j + 1, by go_num, hlt, Lib.hid ((HSK.out.trans HSW.out).trans HI.out)⟩
                         case measure => simp [intOf]; omega
                       · have hgn := HBE.out k P (by omega) HP.out
                         have hqt : qb = false := by rw [HQB.out, hgn]; rfl
                         subst hqt
                         clear hgn
                         go_wp2
                         go_roundw
                         case rel => exact ⟨k + 1, by go_num, by omega, Lib.hid (HSK.out.trans HSW.out)⟩
                         case measure => simp [intOf]; omega)
                    | (have HBq := Lib.hid (Mg.Box.setAll HB6.out q)
                       have HSW := Lib.hid (stay_seal ((HS6.out.mono (Y := fun k => k = wr.heap.size) (fun _ x => x.elim)).trans (stay_setAll w6 wr.heap.size q)) (fun k hk => by omega))
                       go_frame
                       clear HB6 y0 y1 y2 z0 z1 z2
                       change Exit.then _ _ _ _ (setAll w6 wr.heap.size q)
                       generalize setAll w6 wr.heap.size q = W at HBq HSW ⊢
                       clear c0 cu hz1 hz2 hz3 hz4
                       by_cases hkn : k = n
                       · subst hkn
                         obtain rfl : P = Q := by have h1 := HP.out; rw [HQ.out] at h1; exact (Option.some.inj h1).symm
                         have hqe : q = e := by rw [HQE.out, HGQ.out]; rfl
                         have hqt : qb = true := by rw [HQB.out, HGQ.out]; rfl
                         subst hqe hqt
                         have HEE := Lib.hid (show eqE q q = true from by rw [eqE_is]; simp)
                         have k1 := Lib.hid (fun i : InC (Stay (fun _ => False) W) => ((HBq.out.stay0 i.h).run_load))
                         have k2 := Lib.hid (fun i : InC (Stay (fun _ => False) W) => ((HE3.out.stay0 ((HSK.out.trans HSW.out).trans i.h)).load HE.out))
                         haveI : Nonempty (InC (Stay (fun _ => False) W)) := ⟨⟨W, Stay.refl _ _⟩⟩
                         go_wp2
                         refine wp_region_class (Stay (fun _ => False) W) Stay.drew (by kernel_rfl) (by kernel_rfl) ?_
                         repeat (first
                           | (refine quiet_loadG (by rfl) 28 (.tmp 13) rfl ⟨wr.heap.size, 0, none⟩ rfl (enV q) k1.out ?_; go_frame)
                           | (refine quiet_loadG (by rfl) 28 (.tmp 116) rfl ⟨ge, oe + j * 3, none⟩ rfl (enV q) k2.out ?_; go_frame)
                           | (refine quiet_neq_en (by rfl) (.tmp 113) (.tmp 117) rfl q q rfl rfl ?_; go_frame)
                           | (go_big_quiet_step (fail)))
                         refine wpQuiet_nil ?_
                         rintro W2 ⟨i, rfl⟩
                         have HI := Lib.hid i.h
                         generalize i.w = w9 at *
                         clear k1 k2
                         rw [HEE.out]
                         go_wp2
                         go_roundw
                         case rel => exact ⟨j + 1, by go_num, hlt, Lib.hid ((HSK.out.trans HSW.out).trans HI.out)⟩
                         case measure => simp [intOf]; omega
                       · have hgn := HBE.out k P (by omega) HP.out
                         have hqt : qb = false := by rw [HQB.out, hgn]; rfl
                         subst hqt
                         clear hgn
                         go_wp2
                         go_roundw
                         case rel => exact ⟨k + 1, by go_num, by omega, Lib.hid (HSK.out.trans HSW.out)⟩
                         case measure => simp [intOf]; omega)
              · have hj0D : decide (0 < j) = false := decide_eq_false hj0
                have hj0E : decide ((0 : Int) < (j : Int)) = false := decide_eq_false (by omega)
                clear hj0
                go_wp2
                go_quiet (fail)
                have HSN := Lib.hid (HSJ.out.trans (stay_drewN (X := fun _ => False) wj nq))
                generalize wj.drewN nq = w5 at *
                clear d0 hc
                go_wp2
                go_loopw [12] (fun t wr => ∃ k : Nat, t = .int .i64 (k : Int) ∧ k ≤ n ∧ Hid (Stay (fun _ => False) w3 wr)) (fun t _ => R.length - (intOf t).toNat)
                case atStart => exact ⟨0, rfl, Nat.zero_le _, HSN⟩
                case round =>
                  obtain ⟨k, rfl, hk, HSK⟩ := hrel
                  have hkR : k < R.length := by omega
                  obtain ⟨P, hP⟩ : ∃ P, R[k]? = some P := ⟨_, List.getElem?_eq_getElem hkR⟩
                  obtain ⟨gr, or1, u, hra, cu, hu⟩ := (HR3.out.ess.stay0 HSK.out).at hP
                  subst hra
                  obtain ⟨g9, o9, e9, _, hc9⟩ := (HE3.out.stay0 HSK.out).at (by omega)
                  cases e9
                  obtain ⟨c0, _, _⟩ := hc9 _ e HE.out
                  have HP := Lib.hid hP
                  obtain ⟨q, hq⟩ : ∃ q, q = entOf (getL P e.k) := ⟨_, rfl⟩
                  obtain ⟨qb, hqb⟩ : ∃ qb, qb = (getL P e.k).isSome := ⟨_, rfl⟩
                  have HQE := Lib.hid hq
                  have HQB := Lib.hid hqb
                  have HGET := Lib.hid (fun W (hs : Stay (fun _ => False) wr W) => (show Calls Try.prog 9 #[u, strV e.k] W fun e w' => e = .returned (.tuple #[.agg #[.string ⟨q.k.toArray⟩, .string ⟨q.v.toArray⟩, .bool q.g], .bool qb]) ∧ Stay (fun _ => False) W w' from by rw [hq, hqb]; exact rget_any W u P e.k (hu.stay0 hs)))
                  obtain ⟨ua, uc, rfl⟩ := hu.form
                  have hz1 : ge < wr.heap.size := World.block_lt_of_cell? _ _ c0
                  have hz2 : gr < wr.heap.size := World.block_lt_of_cell? _ _ cu
                  have hz3 : ¬ ge = wr.heap.size := by omega
                  have hz4 : ¬ gr = wr.heap.size := by omega
                  clear hP hu hc9 hq hqb
                  go_wp2
                  go_region_law (first
                    | (refine step_call rfl 9 #[.tmp 103, .tmp 108] #[25, 9] rfl #[.slice ua P.length uc, strV e.k] (by simp [Act.eval]) (by kernel_rfl) ((HGET.out _ Stay.drew).mono ?_); rintro y w6 ⟨rfl, hs6⟩; refine ⟨_, rfl, ?_⟩; have HS6 := Lib.hid (Stay.drew.trans hs6); clear hs6)
                    | (refine step_call rfl 9 #[.tmp 103, .tmp 108] #[25, 9] rfl #[.slice ua P.length uc, strV e.k] (by simp [Act.eval]) (by kernel_rfl) ((HGET.out _ (Stay.drew.trans (Stay.alloc _ _))).mono ?_); rintro y w6 ⟨rfl, hs6⟩; refine ⟨_, rfl, ?_⟩; have HS6 := Lib.hid ((Stay.drew.trans (Stay.alloc _ _)).trans hs6); have hb6 := (Box.new wr.drew ⟨[], [], false⟩).stay0 hs6; have HB6 := Lib.hid (show Box w6 wr.heap.size ⟨[], [], false⟩ from hb6); have y0 : w6.cell? ⟨wr.heap.size, 0, none⟩ = some (.string ⟨#[]⟩) := hb6.c (j := 0) rfl; have y1 : w6.cell? ⟨wr.heap.size, 1, none⟩ = some (.string ⟨#[]⟩) := hb6.c (j := 1) rfl; have y2 : w6.cell? ⟨wr.heap.size, 2, none⟩ = some (.bool false) := hb6.c (j := 2) rfl; have z0 : w6.frozen? ⟨wr.heap.size, 0, none⟩ = false := hb6.fr 0; have z1 : w6.frozen? ⟨wr.heap.size, 1, none⟩ = false := hb6.fr 1; have z2 : w6.frozen? ⟨wr.heap.size, 2, none⟩ = false := hb6.fr 2; clear hs6 hb6))
                  all_goals first
                    | (have HBq := Lib.hid (show Box (w6.alloc (.cells #[.string ⟨q.k.toArray⟩, .string ⟨q.v.toArray⟩, .bool q.g] 28)) w6.heap.size q from heap_alloc_new w6 _)
                       have HSW := Lib.hid (HS6.out.trans (show Stay (fun _ => False) w6 (w6.alloc (.cells #[.string ⟨q.k.toArray⟩, .string ⟨q.v.toArray⟩, .bool q.g] 28)) from Stay.alloc _ _))
                       go_frame
                       generalize w6.alloc (.cells #[.string ⟨q.k.toArray⟩, .string ⟨q.v.toArray⟩, .bool q.g] 28) = W at HBq HSW ⊢
                       clear c0 cu hz1 hz2 hz3 hz4
                       by_cases hkn : k = n
                       · subst hkn
                         obtain rfl : P = Q := by have h1 := HP.out; rw [HQ.out] at h1; exact (Option.some.inj h1).symm
                         have hqe : q = e := by rw [HQE.out, HGQ.out]; rfl
                         have hqt : qb = true := by rw [HQB.out, HGQ.out]; rfl
                         subst hqe hqt
                         have HEE := Lib.hid (show eqE q q = true from by rw [eqE_is]; simp)
                         have k1 := Lib.hid (fun i : InC (Stay (fun _ => False) W) => ((HBq.out.stay0 i.h).run_load))
                         have k2 := Lib.hid (fun i : InC (Stay (fun _ => False) W) => ((HE3.out.stay0 ((HSK.out.trans HSW.out).trans i.h)).load HE.out))
                         haveI : Nonempty (InC (Stay (fun _ => False) W)) := ⟨⟨W, Stay.refl _ _⟩⟩
                         go_wp2
                         refine wp_region_class (Stay (fun _ => False) W) Stay.drew (by kernel_rfl) (by kernel_rfl) ?_
                         repeat (first
                           | (refine quiet_loadG (by rfl) 28 (.tmp 13) rfl ⟨w6.heap.size, 0, none⟩ rfl (enV q) k1.out ?_; go_frame)
                           | (refine quiet_loadG (by rfl) 28 (.tmp 116) rfl ⟨ge, oe + j * 3, none⟩ rfl (enV q) k2.out ?_; go_frame)
                           | (refine quiet_neq_en (by rfl) (.tmp 113) (.tmp 117) rfl q q rfl rfl ?_; go_frame)
                           | (go_big_quiet_step (fail)))
                         refine wpQuiet_nil ?_
                         rintro W2 ⟨i, rfl⟩
                         have HI := Lib.hid i.h
                         generalize i.w = w9 at *
                         clear k1 k2
                         rw [HEE.out]
                         go_wp2
                         go_roundw
                         case rel => exact ⟨j + 1, by go_num, hlt, Lib.hid ((HSK.out.trans HSW.out).trans HI.out)⟩
                         case measure => simp [intOf]; omega
                       · have hgn := HBE.out k P (by omega) HP.out
                         have hqt : qb = false := by rw [HQB.out, hgn]; rfl
                         subst hqt
                         clear hgn
                         go_wp2
                         go_roundw
                         case rel => exact ⟨k + 1, by go_num, by omega, Lib.hid (HSK.out.trans HSW.out)⟩
                         case measure => simp [intOf]; omega)
                    | (have HBq := Lib.hid (Mg.Box.setAll HB6.out q)
                       have HSW := Lib.hid (stay_seal ((HS6.out.mono (Y := fun k => k = wr.heap.size) (fun _ x => x.elim)).trans (stay_setAll w6 wr.heap.size q)) (fun k hk => by omega))
                       go_frame
                       clear HB6 y0 y1 y2 z0 z1 z2
                       change Exit.then _ _ _ _ (setAll w6 wr.heap.size q)
                       generalize setAll w6 wr.heap.size q = W at HBq HSW ⊢
                       clear c0 cu hz1 hz2 hz3 hz4
                       by_cases hkn : k = n
                       · subst hkn
                         obtain rfl : P = Q := by have h1 := HP.out; rw [HQ.out] at h1; exact (Option.some.inj h1).symm
                         have hqe : q = e := by rw [HQE.out, HGQ.out]; rfl
                         have hqt : qb = true := by rw [HQB.out, HGQ.out]; rfl
                         subst hqe hqt
                         have HEE := Lib.hid (show eqE q q = true from by rw [eqE_is]; simp)
                         have k1 := Lib.hid (fun i : InC (Stay (fun _ => False) W) => ((HBq.out.stay0 i.h).run_load))
                         have k2 := Lib.hid (fun i : InC (Stay (fun _ => False) W) => ((HE3.out.stay0 ((HSK.out.trans HSW.out).trans i.h)).load HE.out))
                         haveI : Nonempty (InC (Stay (fun _ => False) W)) := ⟨⟨W, Stay.refl _ _⟩⟩
                         go_wp2
                         refine wp_region_class (Stay (fun _ => False) W) Stay.drew (by kernel_rfl) (by kernel_rfl) ?_
                         repeat (first
                           | (refine quiet_loadG (by rfl) 28 (.tmp 13) rfl ⟨wr.heap.size, 0, none⟩ rfl (enV q) k1.out ?_; go_frame)
                           | (refine quiet_loadG (by rfl) 28 (.tmp 116) rfl ⟨ge, oe + j * 3, none⟩ rfl (enV q) k2.out ?_; go_frame)
                           | (refine quiet_neq_en (by rfl) (.tmp 113) (.tmp 117) rfl q q rfl rfl ?_; go_frame)
                           | (go_big_quiet_step (fail)))
                         refine wpQuiet_nil ?_
                         rintro W2 ⟨i, rfl⟩
                         have HI := Lib.hid i.h
                         generalize i.w = w9 at *
                         clear k1 k2
                         rw [HEE.out]
                         go_wp2
                         go_roundw
                         case rel => exact ⟨j + 1, by go_num, hlt, Lib.hid ((HSK.out.trans HSW.out).trans HI.out)⟩
                         case measure => simp [intOf]; omega
                       · have hgn := HBE.out k P (by omega) HP.out
                         have hqt : qb = false := by rw [HQB.out, hgn]; rfl
                         subst hqt
                         clear hgn
                         go_wp2
                         go_roundw
                         case rel => exact ⟨k + 1, by go_num, by omega, Lib.hid (HSK.out.trans HSW.out)⟩
                         case measure => simp [intOf]; omega)
            · obtain rfl : j = M.length := by omega
              have HSU := Lib.hid (sure_any wr)
              go_wp2_with fail
              refine HSU.out.mono ?_
              rintro e w8 ⟨rfl, hs8⟩
              have HS8 := Lib.hid ((HS3.out.trans HSJ.out).trans hs8)
              clear hs8
              go_wp2
              go_ret
              exact ⟨rfl, HS8.out⟩
        · exact absurd HSR.out hn
end Go.Proofs.Ytdfhjmodacjilaa.Mg
