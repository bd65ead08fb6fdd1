/-
  merge: the document's All.
-/
import Derived.Test.YtdfhjmodacjilaaDoorMgN
namespace Go.Proofs.YtdfhjmodacjilaaDoor.Mg
open Go.RowKit Go.Maps Me
set_option maxRecDepth 100000
set_option linter.unusedVariables false

theorem allN_drop {Ls : List (List En)} {i : Nat} {L : List En} (h : Ls[i]? = some L) : allN (Ls.drop i) = putsF (allN (Ls.drop (i + 1))) L := by
  obtain ⟨hi, rfl⟩ := List.getElem?_eq_some_iff.1 h
  rw [List.drop_eq_getElem_cons hi]
  rfl
theorem putsF_snoc (M : List En) {L : List En} {k : Nat} {e : En} (h : L[k]? = some e) : putsF M (L.take (k + 1)) = putL (putsF M (L.take k)) e := by
  rw [List.take_add_one, h]
  simp [putsF]
theorem sumL_drop (Ls : List (List En)) (j : Nat) : sumL (Ls.drop j) ≤ sumL Ls := by
  conv => rhs; rw [← List.take_append_drop j Ls]
  simp only [sumL, List.map_append, List.sum_append]
  omega
theorem sumL_drop_at {Ls : List (List En)} {i : Nat} {L : List En} (h : Ls[i]? = some L) : sumL (Ls.drop i) = L.length + sumL (Ls.drop (i + 1)) := by
  obtain ⟨hi, rfl⟩ := List.getElem?_eq_some_iff.1 h
  rw [List.drop_eq_getElem_cons hi]
  unfold sumL
  rw [List.map_cons, List.sum_cons]
theorem geq_not (p q : List UInt8) : (Op.bytesLess q p || q == p) = !(ltB p q) := leq_not p q

set_option maxHeartbeats 4000000 in
theorem rall_any (w : World) (x : Value) (Ls : List (List En)) (d : Bool) (hx : ESs w x Ls) (hlen : Ls.length ≤ 1000) (hsz : sumL Ls ≤ 900) :
    Calls Tryd.prog 9 #[x, .bool d] w fun e w' => Stay (fun _ => False) w w' ∧ (((∀ L ∈ Ls, Sorted L) ∧ ∃ v, e = .returned (.tuple #[v, .int .i64 0]) ∧ EnO w.heap.size w' v (keepL d (allN Ls))) ∨
      ((¬ ∀ L ∈ Ls, Sorted L) ∧ e = .returned (.tuple #[.slice none 0 0, .int .i64 41]))) := by
  have HX := Lib.hid hx
  obtain ⟨a0, c, rfl⟩ := hx.form
  have HSZ := Lib.hid hsz
  have HLEN := Lib.hid hlen
  have hlc : (Ls.length : Int) ≤ 1000 := by omega
  clear hx hsz hlen
  go_enter Tryd.func9, Tryd.ntmps9
  go_wp2
  go_loopw [6, 7] (fun v t wr => ∃ n : Nat, n ≤ Ls.length ∧ ((∃ k : Nat, n = k + 1 ∧ t = .int .i64 (k : Int)) ∨ (n = 0 ∧ t = .int .i64 (-1))) ∧ Hid (EnO w.heap.size wr v (allN (Ls.drop n))) ∧ Hid (∀ L ∈ Ls.drop n, Sorted L) ∧ Hid (Stay (fun _ => False) w wr)) (fun _ t _ => (intOf t + 1).toNat)
  case atStart =>
    refine ⟨Ls.length, Nat.le_refl _, ?_, Lib.hid (by rw [List.drop_length]; exact EnO.nil _ _), Lib.hid (by rw [List.drop_length]; intro L hL; cases hL), Lib.hid (Stay.refl _ _)⟩
    by_cases h0 : Ls.length = 0
    · exact .inr ⟨h0, congrArg (Value.int .i64) (by omega)⟩
    · exact .inl ⟨Ls.length - 1, by omega, congrArg (Value.int .i64) (by omega)⟩
  case round =>
    obtain ⟨n, hn, hk, HO, HSO, HS⟩ := hrel
    rcases hk with ⟨i, rfl, rfl⟩ | ⟨rfl, rfl⟩
    · have hiI : (i : Int) ≤ 1000 := by omega
      obtain ⟨L, hL⟩ : ∃ L, Ls[i]? = some L := ⟨_, List.getElem?_eq_getElem (by omega)⟩
      have HL := Lib.hid hL
      obtain ⟨g, o, v, rfl, cv, hv⟩ := (HX.out.stay0 HS.out).at hL
      obtain ⟨va, vc, rfl⟩ := hv.form
      have HV := Lib.hid hv
      have hll : (L.length : Int) ≤ 900 := by have h1 := sumL_at (List.mem_of_getElem? hL); have h2 := HSZ.out; omega
      have HDL := Lib.hid (sumL_drop_at hL)
      have HDS := Lib.hid (sumL_drop Ls i)
      have HAD := Lib.hid (allN_drop hL)
      have HMI := Lib.hid (fun (h : ¬ Sorted L) => (show ¬ ∀ L ∈ Ls, Sorted L from fun h1 => h (h1 L (List.mem_of_getElem? HL.out))))
      obtain ⟨wo, rfl⟩ : ∃ wo, wo = wr := ⟨_, rfl⟩
      have CV := Lib.hid cv
      clear hv hL cv
      go_wp2
      go_loopw [6, 8] (fun v t wr => ∃ k : Nat, t = .int .i64 (k : Int) ∧ k ≤ L.length ∧ Hid (EnO w.heap.size wr v (putsF (allN (Ls.drop (i + 1))) (L.take k))) ∧ Hid (upB L k) ∧ Hid (Stay (fun _ => False) wo wr)) (fun _ t _ => L.length - (intOf t).toNat)
      case atStart => exact ⟨0, rfl, Nat.zero_le _, HO, Lib.hid (fun i a b hi => by omega), Lib.hid (Stay.refl _ _)⟩
      case round =>
        obtain ⟨k, rfl, hk, HOK, HUP, HSK⟩ := hrel
        have cv := HSK.out.cell CV.out (fun x => x)
        by_cases hlt : k < L.length
        · obtain ⟨e, he⟩ : ∃ e, L[k]? = some e := ⟨_, List.getElem?_eq_getElem hlt⟩
          obtain ⟨ge, oe, rfl, _, hc⟩ := (HV.out.stay0 HSK.out).at (by omega)
          obtain ⟨d0, d1, d2⟩ := hc _ e he
          have kl := Lib.hid (run_load_at d0 d1 d2)
          have HE := Lib.hid he
          have HPL := Lib.hid (show (putsF (allN (Ls.drop (i + 1))) (L.take k)).length ≤ 1000 from by
            have h1 := putsF_len (L.take k) (allN (Ls.drop (i + 1)))
            have h2 := allN_len (Ls.drop (i + 1))
            have h3 := HDL.out
            have h4 := HDS.out
            have h5 := HSZ.out
            rw [List.length_take] at h1
            omega)
          have HPUT := Lib.hid (fun W va (hs : Stay (fun _ => False) wr W) (h : EnO w.heap.size W va (putsF (allN (Ls.drop (i + 1))) (L.take k))) => rput_any W va _ e h.ens HPL.out)
          by_cases hk0 : k = 0
          · subst hk0
            rw [show oe + 0 * 3 = oe by omega] at d0 kl
            clear hc d1 d2 he
            go_wp2
            go_quiet (fail)
            have HQ := Lib.hid (stay_drewN (X := fun _ => False) wr nq)
            have HPUT2 := Lib.hid (HPUT.out _ _ HQ.out (HOK.out.stay0 HQ.out))
            have HS5 := Lib.hid (HSK.out.trans HQ.out)
            have cv5 := HQ.out.cell cv (fun x => x)
            have kl5 := Lib.hid (((HV.out.stay0 HS5.out).load HE.out))
            generalize wr.drewN nq = w5 at *
            clear HPUT cv d0
            go_wp2_with (first
              | (refine wpList_load_run (by rfl) 39 (.tmp 55) rfl ⟨ge, oe + 0 * 3, none⟩ rfl _ kl5.out ?_)
              | (go_at_call 15
                 refine HPUT2.out.mono ?_
                 rintro y w6 ⟨v6, rfl, ho6, hs6⟩
                 have HO6 := Lib.hid ho6
                 have HS6 := Lib.hid hs6
                 clear ho6 hs6))
            refine ⟨⟨0 + 1, by go_num, hlt, Lib.hid ?_, Lib.hid ?_, Lib.hid (HS5.out.trans HS6.out)⟩, by simp [intOf]; omega⟩
            · rw [putsF_snoc _ HE.out]
              exact HO6.out.rebase (fun k hk => Nat.le_trans (HS.out.trans HS5.out).size (HO6.out.lt k hk).1)
            · exact fun i a b hi => by omega
          · obtain ⟨k1, rfl⟩ : ∃ k1, k = k1 + 1 := ⟨k - 1, by omega⟩
            obtain ⟨e0, he0⟩ : ∃ e0, L[k1]? = some e0 := ⟨_, List.getElem?_eq_getElem (by omega)⟩
            obtain ⟨f0, f1, f2⟩ := hc _ e0 he0
            have HE0 := Lib.hid he0
            clear hc d1 d2 he f1 f2 he0
            go_wp2
            go_quiet (fail)
            rw [less_eq]
            cases hlt3 : ltB e0.k e.k with
            | true =>
              have HUP2 := Lib.hid (show upB L (k1 + 1 + 1) from fun i a b hi ha hb' => by
                by_cases h : i = k1
                · subst h; rw [HE0.out] at ha; rw [HE.out] at hb'; cases ha; cases hb'; exact hlt3
                · exact HUP.out i a b (by omega) ha hb')
              clear hlt3
              rw [show (!true) = false from rfl]
              have HQ := Lib.hid (stay_drewN (X := fun _ => False) wr nq)
              have HPUT2 := Lib.hid (HPUT.out _ _ HQ.out (HOK.out.stay0 HQ.out))
              have HS5 := Lib.hid (HSK.out.trans HQ.out)
              have cv5 := HQ.out.cell cv (fun x => x)
              have kl5 := Lib.hid (((HV.out.stay0 HS5.out).load HE.out))
              clear f0
              generalize wr.drewN nq = w5 at *
              clear HPUT cv d0
              go_wp2_with (first
                | (refine wpList_load_run (by rfl) 39 (.tmp 55) rfl ⟨ge, oe + (k1 + 1) * 3, none⟩ rfl _ kl5.out ?_)
                | (go_at_call 15
                   refine HPUT2.out.mono ?_
                   rintro y w6 ⟨v6, rfl, ho6, hs6⟩
                   have HO6 := Lib.hid ho6
                   have HS6 := Lib.hid hs6
                   clear ho6 hs6))
              refine ⟨⟨(k1 + 1) + 1, by go_num, hlt, Lib.hid ?_, Lib.hid ?_, Lib.hid (HS5.out.trans HS6.out)⟩, by simp [intOf]; omega⟩
              · rw [putsF_snoc _ HE.out]
                exact HO6.out.rebase (fun k hk => Nat.le_trans (HS.out.trans HS5.out).size (HO6.out.lt k hk).1)
              · exact HUP2.out
            | false =>
              have HNS := Lib.hid (HMI.out (fun hs => by
                have h1 := sorted_at hs (Nat.lt_succ_self k1) HE0.out HE.out
                rw [hlt3] at h1
                cases h1))
              have HQ := Lib.hid (stay_drewN (X := fun _ => False) wr nq)
              clear hlt3
              rw [show (!false) = true from rfl]
              go_wp2
              refine bodyPost_ret (v := .tuple #[.slice none 0 0, .int .i64 41]) (by simp [results, Tryd.results9]) rfl ⟨(HS.out.trans HSK.out).trans HQ.out, .inr ⟨HNS.out, rfl⟩⟩
        · obtain rfl : k = L.length := by omega
          have HLS := Lib.hid (show Sorted L from sorted_up HUP.out)
          have HON := Lib.hid (show EnO w.heap.size wr u6 (allN (Ls.drop i)) from by have h1 := HOK.out; rwa [List.take_length, ← HAD.out] at h1)
          clear hk
          go_wp2
          refine ⟨⟨i, by omega, (?_ : (∃ k : Nat, i = k + 1 ∧ _) ∨ (i = 0 ∧ _)), HON, Lib.hid (fun q hq => ?_), Lib.hid (HS.out.trans HSK.out)⟩, ?_⟩
          · by_cases h0 : i = 0
            · subst h0; exact .inr ⟨rfl, rfl⟩
            · exact .inl ⟨i - 1, by omega, congrArg (Value.int .i64) (by omega)⟩
          · obtain ⟨hi, hLi⟩ := List.getElem?_eq_some_iff.1 HL.out
            rw [List.drop_eq_getElem_cons hi, hLi] at hq
            rcases List.mem_cons.1 hq with rfl | hq
            · exact HLS.out
            · exact HSO.out q hq
          · simp [intOf]
    · have HALL := Lib.hid (show ∀ L ∈ Ls, Sorted L from HSO.out)
      have HOA := Lib.hid (show EnO w.heap.size wr u6 (allN Ls) from HO.out)
      obtain ⟨wo, rfl⟩ : ∃ wo, wo = wr := ⟨_, rfl⟩
      have HLA := Lib.hid (allN_len Ls)
      obtain ⟨M, hM⟩ : ∃ M, M = allN Ls := ⟨_, rfl⟩
      have HM := Lib.hid hM
      rw [← hM] at HOA HLA
      have hml : (M.length : Int) ≤ 900 := by have h1 := HLA.out; have h2 := HSZ.out; omega
      have HME := Lib.hid HOA.out.ens
      obtain ⟨va, vc, hvf⟩ := HOA.out.form
      subst hvf
      clear HO hM
      go_wp2
      go_loopw [9, 10] (fun v t wr => ∃ k : Nat, t = .int .i64 (k : Int) ∧ k ≤ M.length ∧ Hid (EnO wo.heap.size wr v (keepL d (M.take k))) ∧ Hid (Stay (fun _ => False) wo wr)) (fun _ t _ => M.length - (intOf t).toNat)
      case atStart => exact ⟨0, rfl, Nat.zero_le _, Lib.hid (by cases d <;> exact EnO.nil _ _), Lib.hid (Stay.refl _ _)⟩
      case round =>
        obtain ⟨k, rfl, hk, HOK, HSK⟩ := hrel
        by_cases hlt : k < M.length
        · obtain ⟨e, he⟩ : ∃ e, M[k]? = some e := ⟨_, List.getElem?_eq_getElem hlt⟩
          obtain ⟨ge, oe, rfl, _, hc⟩ := (HME.out.stay0 HSK.out).at (by omega)
          obtain ⟨d0, d1, d2⟩ := hc _ e he
          have kl := Lib.hid (run_load_at d0 d1 d2)
          have HE := Lib.hid he
          clear hc d0 d1 he
          cases d with
          | false =>
            clear d2
            have HKS := Lib.hid (show keepL false (M.take (k + 1)) = keepL false (M.take k) ++ [e] from by rw [List.take_add_one, HE.out, Option.toList_some, keep_snoc]; simp)
            have HBO := Lib.hid (Box.new wr e)
            have HA4 := Lib.hid (show Stay (fun _ => False) wr (wr.alloc (.cells (enC e).toArray 39)) from Stay.alloc _ _)
            obtain ⟨w4, hw4⟩ : ∃ w4, wr.alloc (.cells (enC e).toArray 39) = w4 := ⟨_, rfl⟩
            rw [hw4] at HBO HA4
            have W4 := Lib.hid hw4
            have HO4 := Lib.hid (HOK.out.stay0 HA4.out)
            have HZ4 := Lib.hid (show wo.heap.size ≤ w4.heap.size from (HSK.out.trans HA4.out).size)
            have HDL := Lib.hid (show (keepL false (M.take k)).length ≤ 1000 from by
              have h1 := keep_len false (M.take k)
              rw [List.length_take] at h1
              omega)
            clear hw4
            go_wp2_with (first
              | (refine wpList_load_run (by rfl) 39 (.tmp 77) rfl ⟨ge, oe + k * 3, none⟩ rfl _ kl.out ?_)
              | (refine list_one_en rfl (.tmp 78) rfl e rfl ?_; rw [W4.out])
              | (at_builtin
                 refine wpList_append_en rfl (.tmp 74) (.tmp 79) 26 rfl Tryd.underlying26 rfl rfl HO4.out (HBO.out.one 1 (by decide) (by decide)) (by rw [List.length_singleton]; have := HDL.out; omega) HZ4.out ?_
                 intro v5 w5 ho5 hs5 hb5
                 have HO5 := Lib.hid ho5
                 have HS5 := Lib.hid (stay_seal (((HSK.out.trans HA4.out).mono (fun _ x => x.elim)).trans hs5) (fun k hk => (HO4.out.lt k hk).1))
                 clear ho5 hs5 hb5))
            refine ⟨⟨k + 1, by go_num, hlt, Lib.hid (by rw [HKS.out]; exact HO5.out), HS5⟩, by simp [intOf]; omega⟩
          | true =>
            cases hg : e.g with
            | false =>
              rw [hg] at d2
              have HKS := Lib.hid (show keepL true (M.take (k + 1)) = keepL true (M.take k) ++ [e] from by rw [List.take_add_one, HE.out, Option.toList_some, keep_snoc]; simp [hg])
              have HBO := Lib.hid (Box.new wr e)
              have HA4 := Lib.hid (show Stay (fun _ => False) wr (wr.alloc (.cells (enC e).toArray 39)) from Stay.alloc _ _)
              obtain ⟨w4, hw4⟩ : ∃ w4, wr.alloc (.cells (enC e).toArray 39) = w4 := ⟨_, rfl⟩
              rw [hw4] at HBO HA4
              have W4 := Lib.hid hw4
              have HO4 := Lib.hid (HOK.out.stay0 HA4.out)
              have HZ4 := Lib.hid (show wo.heap.size ≤ w4.heap.size from (HSK.out.trans HA4.out).size)
              have HDL := Lib.hid (show (keepL true (M.take k)).length ≤ 1000 from by
                have h1 := keep_len true (M.take k)
                rw [List.length_take] at h1
                omega)
              clear hw4
              go_wp2_with (first
                | (refine wpList_load_run (by rfl) 39 (.tmp 77) rfl ⟨ge, oe + k * 3, none⟩ rfl _ kl.out ?_)
                | (refine list_one_en rfl (.tmp 78) rfl e rfl ?_; rw [W4.out])
                | (at_builtin
                   refine wpList_append_en rfl (.tmp 74) (.tmp 79) 26 rfl Tryd.underlying26 rfl rfl HO4.out (HBO.out.one 1 (by decide) (by decide)) (by rw [List.length_singleton]; have := HDL.out; omega) HZ4.out ?_
                   intro v5 w5 ho5 hs5 hb5
                   have HO5 := Lib.hid ho5
                   have HS5 := Lib.hid (stay_seal (((HSK.out.trans HA4.out).mono (fun _ x => x.elim)).trans hs5) (fun k hk => (HO4.out.lt k hk).1))
                   clear ho5 hs5 hb5))
              refine ⟨⟨k + 1, by go_num, hlt, Lib.hid (by rw [HKS.out]; exact HO5.out), HS5⟩, by simp [intOf]; omega⟩
            | true =>
              rw [hg] at d2
              have HKS := Lib.hid (show keepL true (M.take (k + 1)) = keepL true (M.take k) from by rw [List.take_add_one, HE.out, Option.toList_some, keep_snoc]; simp [hg])
              go_wp2
              refine ⟨⟨k + 1, by go_num, hlt, Lib.hid (by rw [HKS.out]; exact HOK.out), HSK⟩, by simp [intOf]; omega⟩
        · obtain rfl : k = M.length := by omega
          go_wp2
          refine bodyPost_ret (v := .tuple #[u9, .int .i64 0]) (by simp [results, Tryd.results9]) rfl ⟨HS.out.trans HSK.out, .inl ⟨HALL.out, u9, rfl, ?_⟩⟩
          have h1 := HOK.out
          rw [List.take_length, HM.out] at h1
          exact h1.rebase (fun j hj => Nat.le_trans HS.out.size (h1.lt j hj).1)
end Go.Proofs.YtdfhjmodacjilaaDoor.Mg
