/-
  index's laws: what must come whatever the input is.
-/
import Derived.Test.YtljlfdhjolcnaaaGreatIxLpz
import Derived.Test.YtljlfdhjolcnaaaGreatIxSaz
namespace Go.Proofs.YtljlfdhjolcnaaaGreat.Ix
open Go.RowKit Go.Maps Me Mg Bo
set_option maxRecDepth 100000
set_option linter.unusedVariables false
set_option linter.unusedSimpArgs false

def eA : En := ⟨[97], [49], false⟩
def eB : En := ⟨[98], [50], false⟩
def eC : En := ⟨[99], [51], false⟩
def tabQ (I : Im) (s : Nat) : Sh := ⟨s, partsL I.A I.p, Tb.tabB I.A I.p I.q⟩
/-- What is put first. -/
def sA : Im := (freshI True 1 1 2 8).put eA
def sB (s : Nat) : Im := (sA.flush (tabQ sA s)).put eB
def sC (s r : Nat) : Im := ((sB s).flush (tabQ (sB s) r)).put eC
theorem sA_A : sA.A = [eA] := by decide
theorem sB_A (s : Nat) : (sB s).A = [eB] := by
  show putL [] eB = [eB]
  decide
theorem sC_A (s r : Nat) : (sC s r).A = [eC] := by
  show putL [] eC = [eC]
  decide
theorem q1_L (s : Nat) : (tabQ sA s).L = [eA] := by
  have h := parts_flat (L := sA.A) (p := sA.p) (by decide)
  rw [sA_A] at h
  show (partsL sA.A sA.p).flatten = [eA]
  rw [sA_A]
  exact h
theorem q2_L (s r : Nat) : (tabQ (sB s) r).L = [eB] := by
  have h := parts_flat (L := (sB s).A) (p := (sB s).p) (show 1 ≤ 2 by decide)
  rw [sB_A] at h
  show (partsL (sB s).A (sB s).p).flatten = [eB]
  rw [sB_A]
  exact h
theorem sC_LS (s r : Nat) : (sC s r).LS = [[tabQ (sB s) r, tabQ sA s]] := rfl
theorem sC_lists (s r : Nat) : (sC s r).lists = [[eC], [eB], [eA]] := by
  rw [lists_cons, sC_A, sC_LS]
  show [eC] :: [(tabQ (sB s) r).L, (tabQ sA s).L] = _
  rw [q1_L, q2_L]
theorem job_R (s r x : Nat) : keepL ((sC s r).job x 0).d ((sC s r).job x 0).R = [eA, eB] := by
  show keepL (decide ((sC s r).LS.length ≤ 0 + 2)) (allN ((((sC s r).LS.drop 0).take 2).flatten.map (·.L))) = _
  rw [sC_LS]
  show keepL true (allN [(tabQ (sB s) r).L, (tabQ sA s).L]) = _
  rw [q1_L, q2_L]
  decide
theorem io_lit {w w' : World} (L : List Nat) (hl : L.length ≤ 1000) (hw : w.alloc (.cells (cellsI L).toArray 3) = w') : Bo.IO w.heap.size w' (.slice (some ⟨w.heap.size, 0, none⟩) L.length L.length) L := by
  subst hw
  have h := row_made w 3 (cellsI L) (by unfold cellsI maxLen; rw [List.length_map]; omega)
  rw [show (cellsI L).length = L.length by simp [cellsI]] at h
  exact h
-- SURE
set_option maxHeartbeats 4000000 in
theorem sure_any (w : World) : Calls Tryz.prog 9 #[] w fun e w' => e = .returned (.bool true) ∧ Stay (fun _ => False) w w' := by
  have HNW := Lib.hid (new_any True w 1 1 2 8 ⟨by decide, by decide, by decide, by decide, by decide, by decide, by decide, by decide⟩)
  unfold cfgV at HNW
  go_enter Tryz.func9, Tryz.ntmps9
  go_wp2_with fail
  refine HNW.out.mono ?_
  rintro e w1 ⟨⟨x, rfl, hi1⟩, hs1⟩
  have HI1 := Lib.hid hi1
  have HS1 := Lib.hid hs1
  have hw1 : Wf (freshI True 1 1 2 8) [] 0 0 := Wf.fresh True 1 1 2 8
  have HPA := Lib.hid (put_laid w1 x _ [97] [49] hi1 (by decide) (by decide) (.inl (.inr (by decide))))
  clear hi1 hs1 HNW
  go_wp2_with fail
  refine HPA.out.mono ?_
  rintro e w2 ⟨rfl, hl2⟩
  obtain ⟨_, hd2⟩ := hl2.resolve_right (fun h => h.1 (.inr (by decide)))
  have hw2 : Wf sA [] 1 0 := hw1.put (by unfold Small; decide)
  have HI2 := Lib.hid (show IxAt _ w2 x sA from hd2.1)
  have HS2 := Lib.hid (show Stay (fun _ => False) w w2 from HS1.out.andThen hd2.2 (fun k hk h => by omega))
  have HPB := Lib.hid (put_laid w2 x sA [98] [50] HI2.out (by decide) (by decide) (hw2.room HI2.out (by decide) (by decide) _))
  clear hl2 hd2 HPA HI1
  go_wp2_with fail
  refine HPB.out.mono ?_
  rintro e w3 ⟨rfl, hl3⟩
  obtain ⟨_, s, hs3, hd3⟩ := hl3.resolve_left (fun h => h.1.elim (by decide) (by decide))
  have hw3 : Wf (sB s) [] 2 1 := (hw2.flush (q := tabQ sA s) (HI2.out.fresh hs3) (by rw [q1_L, sA_A])).put (by unfold Small; decide)
  have HI3 := Lib.hid (show IxAt _ w3 x (sB s) from hd3.1)
  have HS3 := Lib.hid (show Stay (fun _ => False) w w3 from HS2.out.andThen hd3.2 (fun k hk h => by have := HS1.out.size; omega))
  have HPC := Lib.hid (put_laid w3 x (sB s) [99] [51] HI3.out (by decide) (by rw [sB_A]; decide) (hw3.room HI3.out (by decide) (by decide) _))
  clear hl3 hd3 HPB
  go_wp2_with fail
  refine HPC.out.mono ?_
  rintro e w4 ⟨rfl, hl4⟩
  obtain ⟨_, r, hr4, hd4⟩ := hl4.resolve_left (fun h => h.1.elim (fun h => by rw [sB_A] at h; revert h; decide) (fun h => by rw [sB_A] at h; revert h; show ¬ 1 < 1; decide))
  have hw4 : Wf (sC s r) [] 3 2 := (hw3.flush (q := tabQ (sB s) r) (HI3.out.fresh hr4) (by rw [q2_L, sB_A])).put (by unfold Small; decide)
  have HI4 := Lib.hid (show IxAt (fun k => w.heap.size ≤ k ∧ k < w4.heap.size) w4 x (sC s r) from hd4.1.mono (fun k hk h => ⟨by
    have := HS1.out.size
    have := HS2.out.size
    have := HS3.out.size
    omega, hk⟩))
  have HS4 := Lib.hid (show Stay (fun _ => False) w w4 from HS3.out.andThen hd4.2 (fun k hk h => by have := HS1.out.size; have := HS2.out.size; omega))
  have HCP := Lib.hid (compact_some w4 x (sC s r) 0 HI4.out rfl (by rw [sC_LS]; simp) (by rw [sC_LS]; simp) (fun q hq => by have := hw4.qLen hq; omega) ⟨by rw [sC_LS]; simp, by rw [sC_LS]; rfl, fun i hi => absurd hi (Nat.not_lt_zero i)⟩)
  clear hl4 hd4 HPC
  go_wp2_with fail
  refine HCP.out.mono ?_
  rintro e w5 ⟨j, rfl, hi5, hj5, hs5⟩
  have HI5 := Lib.hid hi5
  have HJ5 := Lib.hid hj5
  have HS5 := Lib.hid (show Stay (fun _ => False) w w5 from HS4.out.andThen hs5 (fun k hk h => by omega))
  have HLV := Lib.hid (levels_ix w5 x _ hi5 (by show (sC s r).LS.length ≤ 100000; rw [sC_LS]; simp))
  clear hi5 hj5 hs5 HCP
  go_wp2_with fail
  refine HLV.out.mono ?_
  rintro e w6 ⟨v6, rfl, ho6, hs6⟩
  have HI6 := Lib.hid (HI5.out.stay0 hs6)
  have HJ6 := Lib.hid (HJ5.out.stay hs6 (fun _ _ x => x))
  have hla : Stay (fun _ => False) w6 (w6.alloc (.cells (cellsI [2]).toArray 3)) := Stay.alloc _ _
  have HO6 := Lib.hid (show Bo.IO w5.heap.size (w6.alloc (.cells (cellsI [2]).toArray 3)) v6 [2] from by
    have h1 := ho6.stay0 hla
    exact h1)
  have HL6 := Lib.hid (io_lit (w := w6) [2] (by decide) rfl)
  have HA6 := Lib.hid hla
  obtain ⟨va6, vc6, rfl⟩ := HO6.out.form
  have HIE := Lib.hid (fun W (h : w6.alloc (.cells #[.int .i64 2] 3) = W) => h ▸ ints_eq _ _ _ [2] _ _ HO6.out HL6.out (by decide))
  have HS6 := Lib.hid (HS5.out.trans hs6)
  clear ho6 hs6 hla HLV
  go_wp2_with fail
  refine (HIE.out _ rfl).mono ?_
  rintro e w7 ⟨rfl, hs7⟩
  have hs7' : Stay (fun _ => False) w6 w7 := HA6.out.trans hs7
  have HI7 := Lib.hid (HI6.out.stay0 hs7')
  have HJ7 := Lib.hid (HJ6.out.stay hs7' (fun _ _ x => x))
  have HS7 := Lib.hid (HS6.out.trans hs7')
  have hw7 : Wf { sC s r with mg := true } [] 3 2 := hw4.mark true
  have hr7 : Runs { sC s r with mg := true } ((sC s r).job x 0) _ [] _ _ := Runs.start (I := sC s r) (x := x) (lv := 0) (by rw [sC_LS]; simp)
  have HST := Lib.hid (step_law (n := 9) HI7.out hw7 (by decide) (by decide) (by decide) HJ7.out rfl (fun k _ h1 h2 => by omega) hr7 (by decide) (by decide))
  clear HIE HI5 HJ5 HI6 HJ6 HI4
  go_wp2_with fail
  refine HST.out.mono ?_
  rintro e w8 h8
  rcases h8 with ⟨h9, _⟩ | ⟨_, rfl, _, hs8, I8, M, hi8, hw8, hn8, _, hsm8, hfl8, hM8, k8, ht8, hls8⟩
  · exfalso
    rw [job_R] at h9
    simp at h9
  have hLV : lensL I8.LS = [0, 1] := by
    have hrl : repL (sC s r).LS ((sC s r).job x 0).Q M 0 = [[], M] := by
      have h1 := repL_mid [] [tabQ (sB s) r, tabQ sA s] [] ((sC s r).job x 0).Q M
      have hn := hw4.nd
      rw [sC_LS] at hn
      have h2 := filter_pre (pre := []) (suf := [tabQ (sB s) r, tabQ sA s]) (Q := [tabQ (sB s) r, tabQ sA s]) (fun q hq => hq) (by simpa using hn)
      rw [show ((sC s r).job x 0).Q = [tabQ (sB s) r, tabQ sA s] from rfl] at h1 ⊢
      rw [sC_LS]
      rw [List.nil_append] at h2
      rw [h2] at h1
      exact h1
    have hrl2 : repL { sC s r with mg := true }.LS ((sC s r).job x 0).Q M ((sC s r).job x 0).lv = [[], M] := hrl
    rw [hrl2] at ht8 hls8
    obtain ⟨m, rfl⟩ : ∃ m, M = [m] := by
      rcases hM8 with ⟨_, h⟩ | h
      · rw [job_R] at h
        simp at h
      · exact h
    have hk : k8 = 2 := by
      have h1 := ht8.le
      by_cases h2 : k8 ≤ 1
      · have h3 := ht8.hi 1 [m] h2 rfl
        cases h3
      · simp at h1
        omega
    rw [hls8, hk]
    rfl
  have HI8 := Lib.hid hi8
  have HS8 := Lib.hid (show Stay (fun _ => False) w w8 from HS7.out.andThen hs8 (fun k hk h => by have := HS1.out.size; have := HS2.out.size; have := HS3.out.size; have := HS4.out.size; omega))
  have hlk : tellV (look I8.lists [97]) = ([49], true) := by
    have h1 := hsm8 [97]
    have h2 : look (sC s r).lists [97] = some eA := by
      rw [sC_lists]
      decide
    unfold tellV
    rw [← h1]
    show (match liveO (look (sC s r).lists [97]) with | some e => _ | none => _) = _
    rw [h2]
    rfl
  have HGT := Lib.hid (get_ix w8 x I8 [97] hi8 (hw8.sz (by decide) (by decide)).sz (by rw [hn8.g]; exact trivial) (by decide))
  rw [hlk] at HGT
  have HLN := Lib.hid hw8.ln
  have HLL := Lib.hid hLV
  clear HST hs8 hi8 hw8 hn8 hsm8 hfl8 hM8 ht8 hls8 hlk hLV
  go_wp2_with fail
  refine HGT.out.mono ?_
  rintro e w9 ⟨rfl, hs9⟩
  have HLV := Lib.hid (levels_ix w9 x _ (HI8.out.stay0 hs9) (Nat.le_trans HLN.out (by decide)))
  have HS9 := Lib.hid (HS8.out.trans hs9)
  clear hs9 HGT
  go_wp2_with fail
  refine HLV.out.mono ?_
  rintro e w10 ⟨v10, rfl, ho10, hs10⟩
  have hlb : Stay (fun _ => False) w10 (w10.alloc (.cells (cellsI [0, 1]).toArray 3)) := Stay.alloc _ _
  have HO10 := Lib.hid (show Bo.IO w9.heap.size (w10.alloc (.cells (cellsI [0, 1]).toArray 3)) v10 [0, 1] from by
    have h1 := ho10.stay0 hlb
    rw [HLL.out] at h1
    exact h1)
  have HL10 := Lib.hid (io_lit (w := w10) [0, 1] (by decide) rfl)
  have HA10 := Lib.hid hlb
  obtain ⟨va10, vc10, rfl⟩ := HO10.out.form
  have HIF := Lib.hid (fun W (h : w10.alloc (.cells #[.int .i64 0, .int .i64 1] 3) = W) => h ▸ ints_eq _ _ _ [0, 1] _ _ HO10.out HL10.out (by decide))
  have HS10 := Lib.hid (HS9.out.trans hs10)
  clear ho10 hs10 hlb HLV
  go_wp2_with fail
  refine (HIF.out _ rfl).mono ?_
  rintro e w11 ⟨rfl, hs11⟩
  have HS11 := Lib.hid (HS10.out.trans (HA10.out.trans hs11))
  clear hs11
  go_wp2
  go_ret
  exact ⟨rfl, HS11.out⟩
end Go.Proofs.YtljlfdhjolcnaaaGreat.Ix
