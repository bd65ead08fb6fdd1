/-
  index: View.
-/
import Derived.Test.YtljlfdhjolcnaaaGreatIxZz
namespace Go.Proofs.YtljlfdhjolcnaaaGreat.Ix
open Go.RowKit Go.Maps Me Mg
set_option maxRecDepth 100000
set_option linter.unusedVariables false
set_option linter.unnecessarySimpa false

set_option maxHeartbeats 2000000 in
theorem view_ix {A : Nat → Prop} (w : World) (x : Nat) (I : Im) (h : IxAt A w x I) (hn : I.LS.length ≤ 900) (hQ : I.LS.flatten.length ≤ 900) (ha : I.A.length ≤ 1000) (hT : ∀ q ∈ I.LS.flatten, q ∈ I.T)
    (hhc : ∀ q ∈ I.LS.flatten, I.hc q.s ≤ 900000) (hhd : I.hd ≤ 900000) :
    Calls Tryz.prog 22 #[.pointer (some ⟨x, 0, none⟩)] w fun y w' => ∃ p, y = .returned (.pointer (some ⟨p, 0, none⟩)) ∧ IxAt A w' x (I.holds (I.LS.flatten.map (·.s))) ∧ VAt (fun k => w.heap.size ≤ k) w' p ⟨I.A, I.LS.flatten⟩ ∧ Stay A w w' := by
  have HAL := Lib.hid (all_ix w x I h (by omega) (by omega))
  obtain ⟨B, F, a, v, vs, hB, hF, hl, h1, h2⟩ := h.ex
  obtain ⟨Q, hQe⟩ : ∃ Q, Q = I.LS.flatten := ⟨_, rfl⟩
  rw [← hQe] at HAL hQ hT hhc ⊢
  obtain ⟨m, hm⟩ : ∃ m, m = Q.length := ⟨_, rfl⟩
  have HIX0 := Lib.hid h1
  have HMM0 := Lib.hid h2
  have HBA := Lib.hid hB
  have HFA := Lib.hid hF
  have HLB := Lib.hid hl
  have HCF := Lib.hid h.cfg
  have HNR := Lib.hid h.nrm
  have HSR := Lib.hid h2.srt
  have HQT := Lib.hid hT
  have HHC := Lib.hid hhc
  have HHD := Lib.hid hhd
  have HM := Lib.hid hm
  have HAA := Lib.hid ha
  have hm9 : m ≤ 900 := by omega
  clear h hn hQ ha hT hhc hhd h1 h2 hB hF hl hm hQe
  go_enter Tryz.func22, Tryz.ntmps22
  go_wp2_with fail
  refine HAL.out.mono ?_
  rintro y w1 ⟨av, tv, rfl, hst, hco, hs1⟩
  obtain ⟨ta, tc, rfl⟩ : ∃ a c, tv = .slice a m c := by obtain ⟨p, q, e⟩ := hco.form; exact ⟨p, q, by rw [e, HM.out, len_ptrs, List.length_map]⟩
  obtain ⟨pa, rfl⟩ := hst.mr.ptr
  have HCO1 := Lib.hid hco
  have HS1 := Lib.hid hs1
  have hb2 := heap_alloc_new w1 (.cells #[.pointer pa, .slice ta m tc] 119)
  have hs2 : Stay (fun _ => False) w1 (w1.alloc (.cells #[.pointer pa, .slice ta m tc] 119)) := Stay.alloc _ _
  obtain ⟨w2, hw2⟩ : ∃ w2, w1.alloc (.cells #[.pointer pa, .slice ta m tc] 119) = w2 := ⟨_, rfl⟩
  rw [hw2] at hb2 hs2
  obtain ⟨p, hp⟩ : ∃ p, p = w1.heap.size := ⟨_, rfl⟩
  rw [← hp] at hb2
  have HW2 := Lib.hid hw2
  have HP := Lib.hid hp
  have HB2 := Lib.hid hb2
  have HS2 := Lib.hid (hs1.trans hs2)
  have HCO2 := Lib.hid (hco.stay0 hs2)
  have HIX2 := Lib.hid (HIX0.out.stay0 (hs1.trans hs2))
  have HMM2 := Lib.hid (HMM0.out.stay0 (hs1.trans hs2))
  have HZ2 := Lib.hid (show w.heap.size ≤ p ∧ p < w2.heap.size from ⟨by rw [hp]; exact hs1.size, (Array.getElem?_eq_some_iff.1 hb2).1⟩)
  have c1 : (w1.alloc (.cells #[.pointer pa, .slice ta m tc] 119)).cell? ⟨x, 4, none⟩ = some (.pointer (some ⟨a, 0, none⟩)) := by rw [hw2]; exact HIX2.out.c rfl
  have HCP := Lib.hid (copied_any w2 _ I.A HMM2.out.mr HSR.out HNR.out HAA.out)
  clear hst hco hs1 hs2 hb2 hw2 hp HAL
  go_wp2_with fail
  rw [HW2.out, ← HP.out]
  refine HCP.out.mono ?_
  rintro y w3 ⟨b, rfl, hm3, hs3⟩
  have HM3 := Lib.hid hm3
  have HB3 := Lib.hid ((hs3.block p HZ2.out.2 (fun x => x)).trans HB2.out)
  have HS3 := Lib.hid (HS2.out.trans hs3)
  have HCO3 := Lib.hid (HCO2.out.stay0 hs3)
  have HIX3 := Lib.hid (HIX2.out.stay0 hs3)
  have HMM3 := Lib.hid (HMM2.out.stay0 hs3)
  have HZ3 := Lib.hid hs3.size
  have cp0 : w3.cell? ⟨p, 0, none⟩ = some (.pointer pa) := by rw [cell_of_row w3 p 0 _ _ _ HB3.out]; rfl
  have cp1 : w3.cell? ⟨p, 1, none⟩ = some (.slice ta m tc) := by rw [cell_of_row w3 p 1 _ _ _ HB3.out]; rfl
  have fp0 := frozen_of_row w3 p 0 _ _ HB3.out
  clear hm3 hs3 c1 HCP HW2
  unfold ptrV
  go_wp2_with fail
  have hs4 : Stay (fun k => k = p) w3 (w3.setCell ⟨p, 0, none⟩ (.pointer (some ⟨b, 0, none⟩))) := Stay.setCell _ _ _ rfl
  have hb4 := heap_setCell_same w3 p 0 _ _ (.pointer (some ⟨b, 0, none⟩)) HB3.out
  generalize w3.setCell ⟨p, 0, none⟩ (.pointer (some ⟨b, 0, none⟩)) = w4 at *
  have hpB : ∀ k, B k → ¬ k = p := fun k hk e => by
    have := HLB.out k (.inl hk)
    have := HZ2.out.1
    omega
  have hpF : ∀ k, F k → ¬ k = p := fun k hk e => by
    have := HLB.out k (.inr hk)
    have := HZ2.out.1
    omega
  have HIX4 := Lib.hid (HIX3.out.away hs4 (fun k e => ⟨fun hb => hpB k hb e, fun hb => hpF k hb e⟩))
  have HMM4 := Lib.hid (HMM3.out.stay hs4 (fun k hk e => hpB k hk e))
  have HPT := Lib.hid (show Ty w3 p 119 from ⟨_, _, HB3.out⟩)
  have HCO4 := Lib.hid (HCO3.out.stay hs4 (fun k hk e => absurd (HPT.out.uniq (e ▸ HCO3.out.ty k hk)) (by decide)))
  have HM4 := Lib.hid (show MAt (fun k => w2.heap.size ≤ k) w4 b I.A from HM3.out.stay hs4 (fun k hk e => by have := HZ2.out.2; omega))
  have HB4 := Lib.hid (show w4.heap[p]? = some (.cells #[.pointer (some ⟨b, 0, none⟩), .slice ta m tc] 119 (0, 0)) from by rw [hb4]; rfl)
  have HS4 := Lib.hid (show Stay (fun _ => False) w w4 from HS3.out.andThen hs4 (fun k hk e => by have := HZ2.out.1; omega))
  have HZ4 := Lib.hid hs4.size
  clear hs4 hb4 cp0 cp1 fp0 hpB hpF
  go_loopw [27] (fun ii wr => ∃ j : Nat, ii = .int .i64 (j : Int) ∧ j ≤ m ∧ Hid (IxC B F wr x (I.holds ((Q.take j).map (·.s))) a v vs) ∧ Hid (MAt B wr a I.A) ∧ Hid (Stay B w4 wr)) (fun ii _ => m - (intOf ii).toNat)
  case atStart => exact ⟨0, rfl, Nat.zero_le _, HIX4, HMM4, Lib.hid (Stay.refl _ _)⟩
  case round =>
    obtain ⟨j, rfl, hj, HIX, HMT2, HST⟩ := hrel
    by_cases hlt : j < m
    · obtain ⟨q, hq⟩ : ∃ q, Q[j]? = some q := ⟨_, List.getElem?_eq_getElem (by rw [← HM.out]; exact hlt)⟩
      have hqm := List.mem_of_getElem? hq
      have hcs := (HCO4.out.stay HST.out (fun k hk hb => by have h1 := (HCO4.out.lt k hk).1; have h2 := HLB.out k (.inl hb); omega)).cs
      obtain ⟨gq, oq, rfl, _, hcc⟩ := hcs.at (by rw [len_ptrs, List.length_map, ← HM.out]; exact Nat.lt_of_le_of_lt (Nat.zero_le j) hlt)
      have cq := hcc j _ (at_ptrs (by simp [hq]) : (ptrs (Q.map (·.s)))[j]? = some (ptrV q.s))
      unfold ptrV at cq
      have hsame := holds_same ((Q.take j).map (·.s)) I
      have hhc1 := holds_hc ((Q.take j).map (·.s)) I q.s
      have hcl := List.count_le_length (l := (Q.take j).map (·.s)) (a := q.s)
      have hhd1 := holds_hd ((Q.take j).map (·.s)) I
      rw [List.length_map, List.length_take] at hhd1 hcl
      have hhq := HHC.out q hqm
      have HLET := Lib.hid (hold_ix HIX.out HMT2.out (q := q) (by rw [hsame.1]; exact HQT.out q hqm) (by omega) (by have := HHD.out; omega))
      have HQS := Lib.hid (show B q.s from by
        obtain ⟨_, _, _, _, hb⟩ := HIX0.out.sh q (HQT.out q hqm)
        exact hb)
      have HSN := Lib.hid (show (Q.take (j + 1)).map (·.s) = (Q.take j).map (·.s) ++ [q.s] by rw [List.take_add_one, hq]; simp)
      generalize q.s = s at *
      clear hq hqm hcs hcc hsame hhc1 hhd1 hhq hcl
      go_wp2_with fail
      refine HLET.out.mono ?_
      rintro e w5 ⟨rfl, hi5, hm5, hs5⟩
      have HI5 := Lib.hid hi5
      have HM5 := Lib.hid hm5
      have HS5 := Lib.hid (HST.out.andThen hs5 (fun k hk h => by
        rcases h with h | h
        · subst h
          exact HQS.out
        · subst h
          exact HIX0.out.bx))
      clear hi5 hm5 hs5 HLET
      go_wp2
      exact ⟨⟨j + 1, by go_num, hlt, Lib.hid (by rw [HSN.out, holds_snoc]; exact HI5.out), HM5, HS5⟩, by simp [intOf]; omega⟩
    · obtain rfl : j = m := by omega
      have hix4 := HIX.out
      rw [HM.out, List.take_length] at hix4
      have HIX5 := Lib.hid hix4
      clear hix4
      go_wp2
      go_ret
      have hnb : ∀ k, w.heap.size ≤ k → ¬ B k := fun k hk hb => by
        have := HLB.out k (.inl hb)
        omega
      obtain ⟨g1, g2, g3, g4, g5, g6, g7, g8, _⟩ := holds_same (Q.map (·.s)) I
      refine ⟨p, rfl, ⟨⟨B, F, a, v, vs, HBA.out, HFA.out, fun k hk => Nat.lt_of_lt_of_le (HLB.out k hk) (Nat.le_trans HS4.out.size HST.out.size), HIX5.out, by rw [g3]; exact HMT2.out⟩, by rw [g3]; exact HNR.out, ?_⟩, ?_, ?_⟩
      · have hc := HCF.out
        exact ⟨g5 ▸ hc.m1, g5 ▸ hc.m2, g6 ▸ hc.f1, g6 ▸ hc.f2, g7 ▸ hc.p1, g7 ▸ hc.p2, g8 ▸ hc.q1, g8 ▸ hc.q2⟩
      · have hws : w.heap.size ≤ w2.heap.size := HS2.out.size
        have hws1 : w.heap.size ≤ w1.heap.size := HS1.out.size
        refine ⟨⟨.pointer (some ⟨b, 0, none⟩), .slice ta j tc, ?_, .inr ⟨b, rfl, ?_⟩, ?_, fun k hk => (HCO1.out.lt k hk).1⟩, HZ2.out.1, HSR.out, HNR.out⟩
        · rw [HST.out.block p (Nat.lt_of_lt_of_le HZ2.out.2 (Nat.le_trans HZ3.out HZ4.out)) (hnb p HZ2.out.1)]
          exact HB4.out
        · exact (HM4.out.stay HST.out (fun k hk => hnb k (by omega))).mono (fun k _ hk => by omega)
        · exact (HCO4.out.stay HST.out (fun k hk => hnb k (HCO4.out.lt k hk).1)).zero
      · exact (HS4.out.mono (fun _ x => x.elim)).trans (HST.out.mono (fun k hk => HBA.out k hk))
end Go.Proofs.YtljlfdhjolcnaaaGreat.Ix
