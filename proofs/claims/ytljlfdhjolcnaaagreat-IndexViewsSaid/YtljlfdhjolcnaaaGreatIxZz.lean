/-
  index: View, Release.
-/
import Derived.Test.YtljlfdhjolcnaaaGreatIxXz
namespace Go.Proofs.YtljlfdhjolcnaaaGreat.Ix
open Go.RowKit Go.Maps Me Mg
set_option maxRecDepth 100000
set_option linter.unusedVariables false
set_option linter.unnecessarySimpa false

theorem puts_self {A : List En} (h : Sorted A) (hn : Nrm A) : putsF [] A = A := by
  refine get_ext (putsF_sorted A sorted_nil) h (fun k => ?_)
  rw [get_putsF A [] k sorted_nil h, getL_nil, Option.or_none]
  cases hg : getL A k with
  | none => rfl
  | some e => rw [Option.map_some, hn e (getL_in hg)]
theorem puts_take {A : List En} {i : Nat} {e : En} (he : A[i]? = some e) : putsF [] (A.take (i + 1)) = putL (putsF [] (A.take i)) e := by
  unfold putsF
  rw [List.take_add_one, he]
  simp [List.foldl_append]
theorem puts_len (A : List En) (i : Nat) : (putsF [] (A.take i)).length ≤ A.length := by
  have h := putsF_len (A.take i) []
  rw [List.length_take] at h
  simp only [List.length_nil] at h
  omega
-- COPIED
set_option maxHeartbeats 1000000 in
theorem copied_any (w : World) (pv : Value) (L : List En) (h : MR w pv L) (hs : Sorted L) (hn : Nrm L) (hl : L.length ≤ 1000) :
    Calls Tryz.prog 58 #[pv] w fun e w' => ∃ a, e = .returned (ptrV a) ∧ MAt (fun k => w.heap.size ≤ k) w' a L ∧ Stay (fun _ => False) w w' := by
  have HNW := Lib.hid (Me.new_any w)
  have HEN := Lib.hid (fun W (hW : Stay (fun _ => False) w W) => entries_any W pv L (h.stay0 hW) hs (Nat.le_trans hl (by decide)))
  have HPS := Lib.hid (puts_self hs hn)
  have HL := Lib.hid hl
  obtain ⟨p0, rfl⟩ := h.ptr
  obtain ⟨a, ha⟩ : ∃ a, a = w.heap.size := ⟨_, rfl⟩
  rw [← ha] at HNW
  have HA := Lib.hid ha
  clear h hs hn hl ha
  go_enter Tryz.func58, Tryz.ntmps58
  go_wp2_with fail
  refine HNW.out.mono ?_
  rintro e w1 ⟨rfl, hm1, hs1⟩
  have HM1 := Lib.hid hm1
  have HS1 := Lib.hid hs1
  have HZ1 := Lib.hid (show a < w1.heap.size from hm1.lt)
  clear hm1 hs1 HNW
  go_wp2_with fail
  refine (HEN.out _ HS1.out).mono ?_
  rintro e w2 ⟨v2, rfl, ho2, hs2⟩
  obtain ⟨va, vc, rfl⟩ := ho2.form
  have HV2 := Lib.hid ho2.ens
  have HB2 := Lib.hid (fun k (hk : (Value.slice va L.length vc).ownBlock = some k) => ho2.lt k hk)
  obtain ⟨B, hB⟩ : ∃ B : Nat → Prop, B = fun k => k = a ∨ w2.heap.size ≤ k := ⟨_, rfl⟩
  have HBE := Lib.hid hB
  have HM2 := Lib.hid (show MAt B w2 a [] from (HM1.out.stay0 hs2).mono (fun k _ hk => by rw [hB]; exact .inl hk))
  have HS2 := Lib.hid (HS1.out.trans hs2)
  have HZ2 := Lib.hid (show w1.heap.size ≤ w2.heap.size from hs2.size)
  have HXB := Lib.hid (fun k (hk : (Value.slice va L.length vc).ownBlock = some k) (hb : B k) => (show False by
    rw [hB] at hb
    have h1 := HB2.out k hk
    have h2 := HZ1.out
    rcases hb with hb | hb <;> omega))
  clear ho2 hs2 hB HEN
  go_wp2_with fail
  go_loopw [10] (fun ii wr => ∃ i : Nat, ii = .int .i64 (i : Int) ∧ i ≤ L.length ∧ Hid (EnS wr (.slice va L.length vc) L) ∧ Hid (MAt B wr a (putsF [] (L.take i))) ∧ Hid (Stay (fun _ => False) w wr) ∧ Hid (w2.heap.size ≤ wr.heap.size)) (fun ii _ => L.length - (intOf ii).toNat)
  case atStart => exact ⟨0, rfl, Nat.zero_le _, HV2, HM2, HS2, Lib.hid (Nat.le_refl _)⟩
  case round =>
    obtain ⟨i, rfl, hi, HV, HM, HS, HZ⟩ := hrel
    by_cases hlt : i < L.length
    · obtain ⟨e, he⟩ : ∃ e, L[i]? = some e := ⟨_, List.getElem?_eq_getElem hlt⟩
      obtain ⟨g, o, rfl, _, hcs⟩ := HV.out.at (by omega)
      obtain ⟨k0, k1, k2⟩ := hcs _ e he
      have HLD := Lib.hid (fun W (hW : Stay (fun _ => False) wr W) => run_load_at (hW.cell k0 (fun x => x)) (hW.cell k1 (fun x => x)) (hW.cell k2 (fun x => x)))
      have HBN := Lib.hid (Box.new wr ⟨[], [], false⟩)
      have HAL := Lib.hid (show Stay (fun _ => False) wr (wr.alloc (.cells (enC ⟨[], [], false⟩).toArray 42)) from Stay.alloc _ _)
      obtain ⟨w8, hw8⟩ : ∃ w8, wr.alloc (.cells (enC ⟨[], [], false⟩).toArray 42) = w8 := ⟨_, rfl⟩
      rw [hw8] at HBN HAL
      have W8 := Lib.hid hw8
      have HNX := Lib.hid (puts_take he)
      have HML := Lib.hid (puts_len L i)
      clear hcs k0 k1 k2 he hw8
      go_wp2_with (first
        | (with_reducible refine alloc_en rfl rfl ?_; rw [W8.out])
        | (refine wpList_load_run (by rfl) 42 (.tmp 12) rfl ⟨g, o + i * 3, none⟩ rfl _ (HLD.out _ (Stay.refl _ _)) ?_)
        | (refine wpList_load_run (by rfl) 42 (.tmp 12) rfl ⟨g, o + i * 3, none⟩ rfl _ (HLD.out _ HAL.out) ?_)
        | (refine Box.store HBN.out rfl (.tmp 5) (.tmp 13) rfl rfl e rfl ?_
           intro w9 hb9 hs9
           have H9 := Lib.hid hb9
           have HS9 := Lib.hid (show Stay (fun _ => False) wr w9 from stay_seal ((HAL.out.mono (Y := (· = wr.heap.size)) (fun _ x => x.elim)).trans hs9) (fun k hk => by have h1 : k = wr.heap.size := hk; omega))
           clear hb9 hs9)
        | (refine wpList_load_run (by rfl) 42 (.tmp 5) rfl ⟨wr.heap.size, 0, none⟩ rfl _ H9.out.run_load ?_))
      refine (Me.put_any _ a _ e (HM.out.stay0 HS9.out) (Nat.le_trans HML.out HL.out)).mono ?_
      rintro e1 w10 ⟨rfl, hp⟩
      have HV10 := Lib.hid ((HV.out.stay0 HS9.out).stay hp.s (fun k hk hb => HXB.out k hk hb))
      have HM10 := Lib.hid (show MAt B w10 a (putsF [] (L.take (i + 1))) by
        rw [HNX.out]
        refine hp.m.mono (fun k _ hk => ?_)
        rcases hk with hk | hk
        · exact hk
        · rw [HBE.out]
          have := HZ.out
          have := HS9.out.size
          exact .inr (by omega))
      have HS10 := Lib.hid (show Stay (fun _ => False) w w10 from (HS.out.trans HS9.out).andThen hp.s (fun k hk hb => by
        rw [HBE.out] at hb
        have := HA.out
        have := HZ1.out
        have := HZ2.out
        have := HS1.out.size
        rcases hb with hb | hb <;> omega))
      have HZ10 := Lib.hid (Nat.le_trans HZ.out (Nat.le_trans HS9.out.size hp.s.size))
      have hl3 := HL.out
      clear hp
      go_wp2
      exact ⟨⟨i + 1, by go_num, hlt, HV10, HM10, HS10, HZ10⟩, by simp [intOf]; omega⟩
    · obtain rfl : i = L.length := by omega
      go_wp2
      go_ret
      refine ⟨a, rfl, ?_, HS.out⟩
      have h1 := HM.out
      rw [List.take_length, HPS.out] at h1
      refine h1.mono (fun k _ hk => ?_)
      rw [HBE.out] at hk
      have := HA.out
      have := HS1.out.size
      have := HZ2.out
      rcases hk with hk | hk <;> omega
-- RELEASE
set_option maxHeartbeats 2000000 in
theorem release_ix {A BV : Nat → Prop} (w : World) (x p : Nat) (I : Im) (V : Vw) (h : IxAt A w x I) (hv : VAt BV w p V) (hd : ∀ k, k < w.heap.size → A k → ¬ BV k) (hQT : ∀ q ∈ V.Q, q ∈ I.T)
    (hQn : (V.Q.map (·.s)).Nodup) (hhc : ∀ q ∈ V.Q, 1 ≤ I.hc q.s ∧ I.hc q.s ≤ 900000) (hhd : I.hd ≤ 900000) (hQd : V.Q.length ≤ I.hd) :
    Calls Tryz.prog 23 #[.pointer (some ⟨p, 0, none⟩)] w fun y w' => y = .returned (.tuple #[]) ∧ Stay (fun k => A k ∨ k = p) w w' ∧ IxAt A w' x (I.rels (V.Q.map (·.s))) ∧ VAt BV w' p ⟨[], []⟩ := by
  obtain ⟨B, F, a, v, vs, hB, hF, hl, h1, h2⟩ := h.ex
  obtain ⟨av, tv, k1, k2, k3, k4⟩ := hv.ex
  obtain ⟨pa, rfl⟩ : ∃ pa, av = .pointer pa := by
    rcases k2 with ⟨e, _⟩ | ⟨a, e, _⟩
    · exact ⟨_, e⟩
    · exact ⟨_, e⟩
  obtain ⟨m, hm⟩ : ∃ m, m = V.Q.length := ⟨_, rfl⟩
  obtain ⟨ta, tc, rfl⟩ : ∃ a c, tv = .slice a m c := by obtain ⟨p, q, e⟩ := k3.form; exact ⟨p, q, by rw [e, hm, len_ptrs, List.length_map]⟩
  have c1 : w.cell? ⟨p, 1, none⟩ = some (.slice ta m tc) := by rw [cell_of_row w p 1 _ _ _ k1]; rfl
  have hXB : ∀ k, BV k → k < w.heap.size → ¬ (B k) := fun k hk hlk hb => hd k hlk (hB k hb) hk
  have HXF := Lib.hid (fun k (hk : BV k) (hlk : k < w.heap.size) (hb : F k) => hd k hlk (hF k hb) hk)
  have HK1 := Lib.hid k1
  have HPL := Lib.hid (show p < w.heap.size from hv.lt)
  have HPB := Lib.hid hv.bp
  have HK3 := Lib.hid k3
  have HK4 := Lib.hid k4
  have HXB := Lib.hid hXB
  have HIX0 := Lib.hid h1
  have HMM0 := Lib.hid h2
  have HBA := Lib.hid hB
  have HFA := Lib.hid hF
  have HLB := Lib.hid hl
  have HCF := Lib.hid h.cfg
  have HNR := Lib.hid h.nrm
  have HQT := Lib.hid hQT
  have HQN := Lib.hid hQn
  have HHC := Lib.hid hhc
  have HHD := Lib.hid hhd
  have HQD := Lib.hid hQd
  have HM := Lib.hid hm
  clear h hv hd hQT hQn hhc hhd hQd h1 h2 hB hF hl k1 k2 k3 k4 hXB
  go_enter Tryz.func23, Tryz.ntmps23
  go_wp2_with fail
  clear c1
  go_loopw [12] (fun ii wr => ∃ j : Nat, ii = .int .i64 (j : Int) ∧ j ≤ m ∧ Hid (IxC B F wr x (I.rels ((V.Q.take j).map (·.s))) a v vs) ∧ Hid (MAt B wr a I.A) ∧ Hid (Stay B w wr)) (fun ii _ => m - (intOf ii).toNat)
  case atStart => exact ⟨0, rfl, Nat.zero_le _, HIX0, HMM0, Lib.hid (Stay.refl _ _)⟩
  case round =>
    obtain ⟨j, rfl, hj, HIX, HMT2, HST⟩ := hrel
    by_cases hlt : j < m
    · obtain ⟨q, hq⟩ : ∃ q, V.Q[j]? = some q := ⟨_, List.getElem?_eq_getElem (by rw [← hm]; exact hlt)⟩
      have hqm := List.mem_of_getElem? hq
      have hcs := (HK3.out.stay HST.out (fun k hk => HXB.out k (HK4.out k hk) (HK3.out.lt k hk).2)).cs
      obtain ⟨gq, oq, rfl, _, hcc⟩ := hcs.at (by rw [len_ptrs, List.length_map, ← hm]; exact Nat.lt_of_le_of_lt (Nat.zero_le j) hlt)
      have cq := hcc j _ (at_ptrs (by simp [hq]) : (ptrs (V.Q.map (·.s)))[j]? = some (ptrV q.s))
      unfold ptrV at cq
      have hsame := rels_same ((V.Q.take j).map (·.s)) I
      have hnin : q.s ∉ (V.Q.take j).map (·.s) := fun hin => by
        have h1 := HQN.out
        rw [← List.take_append_drop j V.Q, List.map_append] at h1
        have h2 := (List.nodup_append.1 h1).2.2 q.s hin q.s (List.mem_map.2 ⟨q, List.mem_of_getElem? (by rw [List.getElem?_drop]; exact hq : (V.Q.drop j)[0]? = some q), rfl⟩)
        exact h2 rfl
      have hhc1 := (rels_hc ((V.Q.take j).map (·.s)) I q.s).2 hnin
      have hhd1 := rels_hd ((V.Q.take j).map (·.s)) I
      rw [List.length_map, List.length_take] at hhd1
      have hhq := HHC.out q hqm
      have HLET := Lib.hid (let_ix HIX.out HMT2.out (q := q) (by rw [hsame.1]; exact HQT.out q hqm) (by omega) (by omega) (by have := HHD.out; omega) (fun _ => by have := HQD.out; omega))
      have HQS := Lib.hid (show B q.s from by
        obtain ⟨_, _, _, _, hb⟩ := HIX0.out.sh q (HQT.out q hqm)
        exact hb)
      have HSN := Lib.hid (show (V.Q.take (j + 1)).map (·.s) = (V.Q.take j).map (·.s) ++ [q.s] by rw [List.take_add_one, hq]; simp)
      generalize q.s = s at *
      clear hq hqm hcs hcc hsame hnin hhc1 hhd1 hhq
      go_wp2_with fail
      refine HLET.out.mono ?_
      rintro e w5 ⟨rfl, hi5, hm5, hs5⟩
      have HI5 := Lib.hid hi5
      have HM5 := Lib.hid hm5
      have HS5 := Lib.hid (HST.out.andThen hs5 (fun k hk h => by
        rcases h with h | h
        · subst h
          exact HQS.out
        · subst h
          exact HIX0.out.bx))
      have hm9 : m ≤ 900000 := by have := HQD.out; have := HHD.out; omega
      clear hi5 hm5 hs5 HLET
      go_wp2
      exact ⟨⟨j + 1, by go_num, hlt, Lib.hid (by rw [HSN.out, rels_snoc]; exact HI5.out), HM5, HS5⟩, by simp [intOf]; omega⟩
    · obtain rfl : j = m := by omega
      have hix4 := HIX.out
      rw [HM.out, List.take_length] at hix4
      have HIX4 := Lib.hid hix4
      have HK5 := Lib.hid ((HST.out.block p HPL.out (fun hb => HXB.out p HPB.out HPL.out hb)).trans HK1.out)
      have d0 : wr.cell? ⟨p, 0, none⟩ = some (.pointer pa) := by rw [cell_of_row wr p 0 _ _ _ HK5.out]; rfl
      have d1 : wr.cell? ⟨p, 1, none⟩ = some (.slice ta j tc) := by rw [cell_of_row wr p 1 _ _ _ HK5.out]; rfl
      have f0 := frozen_of_row wr p 0 _ _ HK5.out
      have f1 := frozen_of_row wr p 1 _ _ HK5.out
      clear hix4
      go_wp2_with fail
      have hs6 := stay_set2 (X := (· = p)) wr p 0 1 (.pointer none) (.slice none 0 0) rfl
      have hb6 : ((wr.setCell ⟨p, 0, none⟩ (.pointer none)).setCell ⟨p, 1, none⟩ (.slice none 0 0)).heap[p]? = some (.cells #[.pointer none, .slice none 0 0] 119 (0, 0)) := by
        have h1 := heap_setCell_same wr p 0 _ _ (.pointer none) HK5.out
        have h2 := heap_setCell_same _ p 1 _ _ (.slice none 0 0) h1
        rw [h2]
        rfl
      generalize (wr.setCell ⟨p, 0, none⟩ (.pointer none)).setCell ⟨p, 1, none⟩ (.slice none 0 0) = w6 at *
      refine bodyPost_end (results_none rfl _ _ _) rfl ?_
      have hnb : ∀ k, B k → ¬ k = p := fun k hk e => by
        subst e
        exact HXB.out k HPB.out HPL.out hk
      have hnf : ∀ k, F k → ¬ k = p := fun k hk e => by
        subst e
        exact HXF.out k HPB.out HPL.out hk
      refine ⟨rfl, (HST.out.mono (fun k hk => .inl (HBA.out k hk))).andThen hs6 (fun k _ e => .inr e), ⟨⟨B, F, a, v, vs, HBA.out, HFA.out, fun k hk => Nat.lt_of_lt_of_le (HLB.out k hk) (Nat.le_trans HST.out.size hs6.size), HIX4.out.away hs6 (fun k e => ⟨fun hb => hnb k hb e, fun hb => hnf k hb e⟩), ?_⟩, ?_, ?_⟩, ⟨⟨.pointer none, .slice none 0 0, hb6, .inl ⟨rfl, rfl⟩, CO.nil _ _ _, fun k hk => by cases hk⟩, HPB.out, sorted_nil, fun e he => by cases he⟩⟩
      · rw [(rels_same _ I).2.2.1]
        exact HMT2.out.stay hs6 (fun k hk e => hnb k hk e)
      · rw [(rels_same _ I).2.2.1]
        exact HNR.out
      · obtain ⟨_, _, _, _, g1, g2, g3, g4, _⟩ := rels_same (V.Q.map (·.s)) I
        have hc := HCF.out
        exact ⟨g1 ▸ hc.m1, g1 ▸ hc.m2, g2 ▸ hc.f1, g2 ▸ hc.f2, g3 ▸ hc.p1, g3 ▸ hc.p2, g4 ▸ hc.q1, g4 ▸ hc.q2⟩
end Go.Proofs.YtljlfdhjolcnaaaGreat.Ix
