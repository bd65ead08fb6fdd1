/-
  rs: settle.
-/
import Derived.Test.YtaldpfamgfchoabRsI
namespace Go.Proofs.Ytaldpfamgfchoab.Rs
open Go.RowKit Gf
set_option maxRecDepth 100000

def resS : Option (Nat → Nat → UInt8) → Value
  | none => .iface 42 (.int .i64 14)
  | some _ => .nilIface
theorem settle_none {n j : Nat} {R : Nat → Nat → UInt8} (h : firstP (fun i => R i j != 0) j (n - j) = none) : settleR n R j = none := by
  unfold settleR
  rw [h]
theorem settle_some {n j p : Nat} {R : Nat → Nat → UInt8} (h : firstP (fun i => R i j != 0) j (n - j) = some p) : settleR n R j = some (stepR (swapR R j p) j) := by
  unfold settleR
  rw [h]

set_option maxHeartbeats 8000000 in
theorem settle_any (w : World) (g base gb n W j : Nat) (h : Nat → Nat) (R : Nat → Nat → UInt8) (hf : Fld w g) (hp : PM w base gb n W n h R) (hj : j < n) (hjW : j < W) (hg : g < base) (hn : n ≤ 4294967296) (hW : W ≤ 4294967296) :
    Calls Try.prog 23 #[.pointer (some ⟨g, 0, none⟩), .slice (some ⟨gb, 0, none⟩) n n, .int .i64 (j : Int)] w fun e w' => e = .returned (resS (settleR n R j)) ∧ Fld w' g ∧ (∀ R', settleR n R j = some R' → ∃ h', PM w' base gb n W n h' R') ∧ Stay (fun i => i = g ∨ base ≤ i) w w' := by
  obtain ⟨w1, hw1⟩ : ∃ w1, w1 = w.alloc (.cells #[.int .i64 (j : Int)] 3) := ⟨_, rfl⟩
  have hs1 : Stay (fun _ => False) w w1 := hw1 ▸ Stay.alloc w _
  have hc1 : w1.cell? ⟨w.heap.size, 0, none⟩ = some (.int .i64 (j : Int)) := by rw [hw1]; rw [cell_of_row _ _ _ _ _ _ (heap_alloc_new w _)]; rfl
  have q0 : (j : Int) < (n : Int) := by omega
  have q1 : (n : Int) ≤ 4294967296 := by omega
  have q2 : (j : Int) < (W : Int) := by omega
  have q3 : (W : Int) ≤ 4294967296 := by omega
  have HGE := Lib.hid (show gb < w.heap.size from hp.lb.lt)
  have HLT := Lib.hid (show ∀ i, i < n → h i < w.heap.size from hp.lt)
  have HP := Lib.hid (hp.stay0 hs1)
  have HF := Lib.hid (hf.stay hs1 (fun x => x))
  have HFL := Lib.hid (show g < w.heap.size from hf.lt)
  have S1 := Lib.hid hs1
  have C1 := Lib.hid hc1
  have HW := Lib.hid hw1
  have HJ := Lib.hid hj
  have HJW := Lib.hid hjW
  have HG := Lib.hid hg
  have HN := Lib.hid hn
  have HWW := Lib.hid hW
  clear hs1 hw1 hp hf hj hg hn hW hjW
  go_enter Try.func23, Try.ntmps23
  go_wp2_with fail
  rw [← HW.out]
  go_wp2_with fail
  refine (index_settle w1 _ (fun i => R (j + i) j != 0) (some ⟨gb, j, none⟩) (n - j) (n - j) (fun _ => W) (fun i => R (j + i)) ((HP.out.readFrom (by have := HN.out; omega) (by have := HWW.out; omega)).mono (fun _ x => x.elim)) (fun W0 i ai ci hs hi hsl => settle_one W0 w.heap.size j W ci ai (R (j + i)) (hs.cell C1.out (fun x => x)) HJW.out hsl)).mono ?_
  rintro e w2 ⟨rfl, s2⟩
  have hb := s2.cell C1.out (fun x => x)
  have P2 := Lib.hid (HP.out.stay0 s2)
  have F2 := Lib.hid (HF.out.stay s2 (fun x => x))
  have S2 := Lib.hid (S1.out.trans s2)
  clear s2 hc1 HP HF S1 C1
  have hsh := firstP_shift (fun i => R i j != 0) j (n - j) 0
  rw [Nat.add_zero] at hsh
  have e1 : firstI (fun i => R (j + i) j != 0) (n - j) = match firstP (fun i => R i j != 0) j (n - j) with | none => -1 | some p => ((p - j : Nat) : Int) := by
    unfold firstI
    rw [hsh]
    cases firstP (fun i => R i j != 0) j (n - j) <;> rfl
  clear hsh
  cases hfp : firstP (fun i => R i j != 0) j (n - j) with
  | none =>
    have e2 : firstI (fun i => R (j + i) j != 0) (n - j) = -1 := by rw [e1, hfp]
    rw [e2]
    clear e1 e2
    have hz : R j j = 0 := by simpa using firstP_none hfp j (Nat.le_refl _) (by have := HJ.out; omega)
    have cj := P2.out.cell HJ.out HJ.out
    have co := (P2.out.row j HJ.out).c HJW.out
    rw [hz, show (((0 : UInt8).toNat : Nat) : Int) = 0 from rfl] at co
    have HE := Lib.hid (settle_none hfp)
    clear hfp hz
    go_wp2_with fail
    refine (inv_zero w2 g).mono ?_
    rintro e w' ⟨rfl, rfl⟩
    go_wp2
    go_ret
    rw [HE.out]
    exact ⟨rfl, F2.out, (fun R' h => by cases h), S2.out.mono (fun _ x => x.elim)⟩
  | some p =>
    have e2 : firstI (fun i => R (j + i) j != 0) (n - j) = ((p - j : Nat) : Int) := by rw [e1, hfp]
    rw [e2]
    clear e1 e2
    obtain ⟨p1, p2, p3, _⟩ := firstP_some hfp
    have p4 : p < n := by have := HJ.out; omega
    have HE := Lib.hid (settle_some hfp)
    clear hfp
    by_cases hpj : j = p
    · subst hpj
      rw [show ((j - j : Nat) : Int) = 0 by omega]
      rw [swapR_self] at HE
      have hnz : R j j ≠ 0 := by simpa using p3
      have HNZ := Lib.hid hnz
      have S2g := Lib.hid (S2.out.mono (Y := fun i => i = g ∨ base ≤ i) (fun _ x => x.elim))
      clear p1 p2 p3 p4 hnz S2
      have cj := P2.out.cell HJ.out HJ.out
      have co := (P2.out.row j HJ.out).c HJW.out
      go_wp2_with fail
      refine (inv_any w2 g (R j j).toNat (u8_ne HNZ.out) (u8_lt _) F2.out).mono ?_
      rintro e w3 ⟨rfl, h3, s3⟩
      rw [show ((invN (R j j).toNat : Nat) : Int) = ((invB (R j j)).toNat : Int) by rw [invB_nat]]
      obtain ⟨fac, hfac⟩ : ∃ fac, fac = invB (R j j) := ⟨_, rfl⟩
      rw [← hfac]
      have HFC := Lib.hid hfac
      have P3 := Lib.hid (P2.out.stayg s3 HG.out)
      have F3 := Lib.hid h3
      have hb3 := s3.cell hb (show ¬ w.heap.size = g by have := HFL.out; omega)
      have B3 := Lib.hid hb3
      have S3 := Lib.hid (S2g.out.trans (s3.mono (Y := fun i => i = g ∨ base ≤ i) (fun _ e => .inl e)))
      clear cj co hb h3 s3 hfac hb3 P2 S2g F2
      go_wp2_with fail
      go_loopw [58] (fun i wr => ∃ t : Nat, t ≤ W ∧ i = .int .i64 (t : Int) ∧ PM wr base gb n W n h (fun i => if i = j then (fun c => if c < t then mulB fac (R j c) else R j c) else R i) ∧ Fld wr g ∧ wr.cell? ⟨w.heap.size, 0, none⟩ = some (.int .i64 (j : Int)) ∧ Stay (fun i => i = g ∨ base ≤ i) w wr) (fun i _ => W - (intOf i).toNat)
      case atStart =>
        exact ⟨0, by omega, rfl, P3.out.congr (fun i _ c _ => by
          by_cases e : i = j
          · simp only [e, if_true]; exact (if_neg (by omega)).symm
          · simp only [e, if_false]), F3.out, B3.out, S3.out⟩
      case round =>
        obtain ⟨t, ht, rfl, hp, hf, hb, hst⟩ := hrel
        by_cases hlt : t < W
        · have q5 : (t : Int) < (W : Int) := by omega
          have ct := (hp.row j HJ.out).c hlt
          simp only [if_true] at ct
          rw [if_neg (by omega)] at ct
          have PP := Lib.hid hp
          have FF := Lib.hid hf
          have BB := Lib.hid hb
          have ST := Lib.hid hst
          have HT := Lib.hid hlt
          clear hp hf hb hst hlt
          go_wp2_with fail
          refine (mul_any wr g fac.toNat (R j t).toNat (u8_lt _) (u8_lt _) FF.out).mono ?_
          rintro e w5 ⟨rfl, h5, s5⟩
          rw [cast_mul]
          have F5 := Lib.hid h5
          have S5 := Lib.hid s5
          have P5 := Lib.hid (PP.out.stayg s5 HG.out)
          clear h5 s5 ct
          go_wp2_with (first
            | (with_reducible refine store_b rfl (.tmp 69) (.tmp 68) rfl t (mulB fac (R j t)) rfl rfl (P5.out.row j HJ.out) HT.out ?_
               intro w6 h6 s6
               have H6 := Lib.hid h6
               have S6 := Lib.hid s6
               clear h6 s6))
          have nb : ¬ w.heap.size = h j := by have := HLT.out j HJ.out; omega
          have ng : ¬ g = h j := by have := P5.out.lr j HJ.out; have := HG.out; omega
          have hlj := P5.out.lr j HJ.out
          have p6 := P5.out.upd HJ.out H6.out (S6.out.mono (Y := fun i => i = g ∨ i = h j) (fun _ e => .inr e)) HG.out
          have f6 := F5.out.stay S6.out ng
          have b6 := S6.out.cell (S5.out.cell BB.out (show ¬ w.heap.size = g by have := HFL.out; omega)) nb
          have s6 : Stay (fun i => i = g ∨ base ≤ i) w w6 := (ST.out.trans (S5.out.mono (Y := fun i => i = g ∨ base ≤ i) (fun _ e => .inl e))).trans (S6.out.mono (fun i (e : i = h j) => .inr (e ▸ hlj)))
          have ht := HT.out
          exact ⟨⟨t + 1, by omega, by go_num, p6.congr (fun i _ c _ => by
            by_cases e : i = j
            · simp only [e, if_true]
              unfold putB
              by_cases e2 : c = t
              · subst e2; rw [if_pos rfl, if_pos (by omega)]
              · rw [if_neg e2]
                by_cases e3 : c < t
                · exact (if_pos e3).trans (if_pos (by omega)).symm
                · exact (if_neg e3).trans (if_neg (by omega)).symm
            · simp only [e, if_false]), f6, b6, s6⟩, by simp [intOf]; omega⟩
        · obtain rfl : t = W := by omega
          have P4 := Lib.hid (hp.congr (R' := fun i => if i = j then ownR R j else if i < 0 then stepR R j i else R i) (fun i _ c hc => by
            by_cases e : i = j
            · simp only [e, if_true, hc]; unfold ownR; rw [HFC.out]
            · simp only [e, if_false]; rfl))
          have F4 := Lib.hid hf
          have B4 := Lib.hid hb
          have S4 := Lib.hid hst
          clear hp hf hb hst P3 F3 B3 S3
          go_wp2
          go_loopw [73] (fun i wr => ∃ s : Nat, s ≤ n ∧ i = .int .i64 (s : Int) ∧ PM wr base gb n t n h (fun i => if i = j then ownR R j else if i < s then stepR R j i else R i) ∧ Fld wr g ∧ wr.cell? ⟨w.heap.size, 0, none⟩ = some (.int .i64 (j : Int)) ∧ Stay (fun i => i = g ∨ base ≤ i) w wr) (fun i _ => n - (intOf i).toNat)
          case atStart => exact ⟨0, by omega, rfl, P4.out, F4.out, B4.out, S4.out⟩
          case round =>
            obtain ⟨s, hs, rfl, hp, hf, hb, hst⟩ := hrel
            by_cases hlt : s < n
            · have q5 : (s : Int) < (n : Int) := by omega
              have cs := hp.cell hlt hlt
              have PP := Lib.hid hp
              have FF := Lib.hid hf
              have BB := Lib.hid hb
              have ST := Lib.hid hst
              have HT := Lib.hid hlt
              clear hp hf hst hlt
              by_cases hsj : s = j
              · have q6 : ((s : Int) != (j : Int)) = false := by rw [hsj]; simp
                have HSJ := Lib.hid hsj
                clear hsj
                go_wp2
                have ht := HT.out
                go_round
                case rel =>
                  exact ⟨s + 1, by omega, by go_num, PP.out.congr (fun i _ c _ => by
                    by_cases e : i = j
                    · simp only [e, if_true]
                    · simp only [e, if_false]
                      by_cases e2 : i < s
                      · rw [if_pos e2, if_pos (by omega)]
                      · rw [if_neg e2, if_neg (by have := HSJ.out; omega)]), FF.out, BB.out, ST.out⟩
                case measure => simp [intOf]; omega
              · have q6 : ((s : Int) != (j : Int)) = true := by simp; omega
                have hrow := PP.out.row s HT.out
                simp only [hsj, if_false] at hrow
                rw [if_neg (by omega)] at hrow
                have cj := hrow.c HJW.out
                have HR := Lib.hid hrow
                have HSJ := Lib.hid hsj
                have HOW := Lib.hid (show SSlc (fun i => i = g ∨ i = h s) wr (.slice (some ⟨h j, 0, none⟩) t t) (lf t (ownR R j)) from by
                  have h1 := PP.out.row j HJ.out
                  simp only [if_true] at h1
                  have h2 := h1.slc (o := 0) (c := t) t (by omega) (Nat.le_refl _) (by have := HWW.out; omega)
                  simp only [Nat.zero_add] at h2
                  refine SSlc.of h2 (fun _ i hi e => ?_)
                  have h3 : i = h j := by simpa [Value.ownBlock] using hi.symm
                  rcases e with e | e
                  · have := PP.out.lr j HJ.out; have := HG.out; omega
                  · exact hsj (PP.out.inj s j HT.out HJ.out (e.symm.trans h3)))
                clear hrow hsj
                go_wp2_with fail
                have hge := PP.out.lr s HT.out
                refine (add_sum wr g (h s) t t t t (R s) (ownR R j) (R s j) _ FF.out (by have := HG.out; omega) HR.out HOW.out (Nat.le_refl _) (by have := HWW.out; omega)).mono ?_
                rintro e w5 ⟨rfl, h5, f5, s5⟩
                have p5 := PP.out.upd HT.out h5 s5 HG.out
                have b5 := s5.cell BB.out (fun e => by
                  rcases e with e | e
                  · have e : w.heap.size = g := e; have := HFL.out; omega
                  · have e : w.heap.size = h s := e; have := HLT.out s HT.out; omega)
                have P5 := Lib.hid (p5.congr (R' := fun i => if i = j then ownR R j else if i < s + 1 then stepR R j i else R i) (fun i _ c hc => by
                  have := HSJ.out
                  by_cases e : i = s
                  · subst e
                    simp only [this, if_true, if_false]
                    rw [if_pos (by omega)]
                    unfold addTo stepR
                    rw [if_pos hc, if_neg this]
                  · simp only [e, if_false]
                    by_cases e2 : i = j
                    · simp only [e2, if_true]
                    · simp only [e2, if_false]
                      by_cases e3 : i < s
                      · rw [if_pos e3, if_pos (by omega)]
                      · rw [if_neg e3, if_neg (by omega)]))
                have F5 := Lib.hid f5
                have B5 := Lib.hid b5
                have S5 := Lib.hid (ST.out.trans (s5.mono (Y := fun i => i = g ∨ base ≤ i) (fun i e => by
                  rcases e with e | e
                  · exact .inl e
                  · exact .inr (by rw [e]; exact hge))))
                clear h5 f5 s5 p5 b5 cs cj hge hb
                go_wp2
                have ht := HT.out
                go_round
                case rel => exact ⟨s + 1, by omega, by go_num, P5.out, F5.out, B5.out, S5.out⟩
                case measure => simp [intOf]; omega
            · obtain rfl : s = n := by omega
              have PP := Lib.hid hp
              have FF := Lib.hid hf
              have ST := Lib.hid hst
              clear hp hf hb hst
              go_wp2
              go_ret
              rw [HE.out]
              exact ⟨rfl, FF.out, (fun R' h => by
                cases h
                exact ⟨_, PP.out.congr (fun i hi c _ => by
                  by_cases e : i = j
                  · simp only [e, if_true]; unfold stepR; rw [if_pos rfl]
                  · simp only [e, if_false, hi, if_true])⟩), ST.out⟩
    · have r1 : 0 < ((p - j : Nat) : Int) := by omega
      have r2 : IntKind.i64.wrap ((j : Int) + ((p - j : Nat) : Int)) = (p : Int) := by rw [IntKind.wrap_i64]; have := HN.out; omega
      have r3 : (p : Int) < (n : Int) := by omega
      have cj := P2.out.cell HJ.out HJ.out
      have cp := P2.out.cell p4 p4
      have fj := P2.out.lb.fr j
      have fp := P2.out.lb.fr p
      obtain ⟨d, hd⟩ : ∃ d, d = p - j := ⟨_, rfl⟩
      rw [← hd] at r1 r2
      rw [← hd]
      have hnz : swapR R j p j j ≠ 0 := by unfold swapR; rw [if_pos rfl]; simpa using p3
      have HNZ := Lib.hid hnz
      have HP4 := Lib.hid p4
      have HPJ := Lib.hid hpj
      have HGB2 := Lib.hid (show gb ≠ w.heap.size by have := HGE.out; omega)
      clear p1 p2 p3 p4 hpj hd hnz
      obtain ⟨S0, hSd⟩ : ∃ S0 : World → Prop, S0 = Stay (fun i => i = gb) w2 := ⟨_, rfl⟩
      have HBX := Lib.hid (show ∀ W0, S0 W0 → W0.cell? ⟨w.heap.size, 0, none⟩ = some (.int .i64 (j : Int)) from fun W0 h0 => by rw [hSd] at h0; exact h0.cell hb (fun e => HGB2.out e.symm))
      have HSm := Lib.hid (show ∀ W0, Stay (fun i => i = gb) w2 W0 → S0 W0 from fun W0 h0 => by rw [hSd]; exact h0)
      clear hSd
      obtain ⟨W1, hW1⟩ : ∃ W1, (w2.setCell ⟨gb, j, none⟩ (.slice (some ⟨h p, 0, none⟩) W W)).drew = W1 := ⟨_, rfl⟩
      obtain ⟨W2, hW2⟩ : ∃ W2, W1.setCell ⟨gb, p, none⟩ (.slice (some ⟨h j, 0, none⟩) W W) = W2 := ⟨_, rfl⟩
      have L1 := Lib.hid (show LB W1 gb n _ from by rw [← hW1]; exact LB.stay (P2.out.lb.set HJ.out (.slice (some ⟨h p, 0, none⟩) W W)) (Stay.drew (X := fun _ => False)) (fun x => x))
      have L2 := Lib.hid (show LB W2 gb n _ from by rw [← hW2]; exact L1.out.set HP4.out (.slice (some ⟨h j, 0, none⟩) W W))
      have T1 := Lib.hid (show Stay (fun i => i = gb) w2 W1 from by rw [← hW1]; exact ((Stay.setCell (X := fun i => i = gb) w2 ⟨gb, j, none⟩ (.slice (some ⟨h p, 0, none⟩) W W) rfl).trans Stay.drew))
      have T2 := Lib.hid (show Stay (fun i => i = gb) w2 W2 from T1.out.trans (by rw [← hW2]; exact (Stay.setCell (X := fun i => i = gb) W1 ⟨gb, p, none⟩ (.slice (some ⟨h j, 0, none⟩) W W) rfl)))
      have HW1 := Lib.hid hW1
      have HW2 := Lib.hid hW2
      have HCJ := Lib.hid cj
      have HCP := Lib.hid cp
      have HFJ := Lib.hid fj
      have cp1 := L1.out.c HP4.out
      have HCP1 := Lib.hid cp1
      have HFP1 := Lib.hid (L1.out.fr p)
      have HSM := Lib.hid (show S0 (World.drew w2) from HSm.out _ Stay.drew)
      clear hW1 hW2 cj cp fj fp cp1 hb
      go_wp2
      refine wp_region_held (S := S0) (by kernel_rfl) ?_
      change wpAnyH _ _ _ _ _ _ _ _ (World.drew _)
      refine wpAnyH_takeL (i := 0) (v := .slice (some ⟨gb, 0, none⟩) n n) #[true, false, false, false, false, false, false, false, false, false, false, false, false, false, false, false, false, false, false, false] rfl (by kernel_rfl) (by kernel_rfl) (by kernel_rfl) (fun _ _ _ h => h) (by kernel_rfl) HSM.out (Or.inl ⟨by rfl, fun W0 hW => ?_⟩) ?_
      · go_simp
      conv =>
        arg 8
        simp [Act.put]
      refine wpAnyH_takeL (i := 1) (v := .int .i64 (j : Int)) #[true, true, false, false, false, false, false, false, false, false, false, false, false, false, false, false, false, false, false, false] rfl (by kernel_rfl) (by kernel_rfl) (by kernel_rfl) (fun _ _ _ h => h) (by kernel_rfl) HSM.out (Or.inl ⟨by rfl, fun W0 hW => ?_⟩) ?_
      · have q := HBX.out W0 hW
        go_simp
      conv =>
        arg 8
        simp [Act.put]
      refine wpAnyH_takeL (i := 2) (v := .slice (some ⟨gb, 0, none⟩) n n) #[true, true, true, false, false, false, false, false, false, false, false, false, false, false, false, false, false, false, false, false] rfl (by kernel_rfl) (by kernel_rfl) (by kernel_rfl) (fun _ _ _ h => h) (by kernel_rfl) HSM.out (Or.inl ⟨by rfl, fun W0 hW => ?_⟩) ?_
      · go_simp
      conv =>
        arg 8
        simp [Act.put]
      refine wpAnyH_takeL (i := 3) (v := .int .i64 (j : Int)) #[true, true, true, true, false, false, false, false, false, false, false, false, false, false, false, false, false, false, false, false] rfl (by kernel_rfl) (by kernel_rfl) (by kernel_rfl) (fun _ _ _ h => h) (by kernel_rfl) HSM.out (Or.inl ⟨by rfl, fun W0 hW => ?_⟩) ?_
      · have q := HBX.out W0 hW
        go_simp
      conv =>
        arg 8
        simp [Act.put]
      refine wpAnyH_takeL (i := 4) (v := .int .i64 (d : Int)) #[true, true, true, true, true, false, false, false, false, false, false, false, false, false, false, false, false, false, false, false] rfl (by kernel_rfl) (by kernel_rfl) (by kernel_rfl) (fun _ _ _ h => h) (by kernel_rfl) HSM.out (Or.inl ⟨by rfl, fun W0 hW => ?_⟩) ?_
      · go_simp
      conv =>
        arg 8
        simp [Act.put]
      refine wpAnyH_takeL (i := 5) (v := .int .i64 (p : Int)) #[true, true, true, true, true, true, false, false, false, false, false, false, false, false, false, false, false, false, false, false] rfl (by kernel_rfl) (by kernel_rfl) (by kernel_rfl) (fun _ _ _ h => h) (by kernel_rfl) HSM.out (Or.inl ⟨by rfl, fun W0 hW => ?_⟩) ?_
      · go_simp
      conv =>
        arg 8
        simp [Act.put]
      refine wpAnyH_takeL (i := 6) (v := .slice (some ⟨gb, 0, none⟩) n n) #[true, true, true, true, true, true, true, false, false, false, false, false, false, false, false, false, false, false, false, false] rfl (by kernel_rfl) (by kernel_rfl) (by kernel_rfl) (fun _ _ _ h => h) (by kernel_rfl) HSM.out (Or.inl ⟨by rfl, fun W0 hW => ?_⟩) ?_
      · go_simp
      conv =>
        arg 8
        simp [Act.put]
      refine wpAnyH_takeL (i := 7) (v := .int .i64 (j : Int)) #[true, true, true, true, true, true, true, true, false, false, false, false, false, false, false, false, false, false, false, false] rfl (by kernel_rfl) (by kernel_rfl) (by kernel_rfl) (fun _ _ _ h => h) (by kernel_rfl) HSM.out (Or.inl ⟨by rfl, fun W0 hW => ?_⟩) ?_
      · have q := HBX.out W0 hW
        go_simp
      conv =>
        arg 8
        simp [Act.put]
      refine wpAnyH_takeL (i := 8) (v := .int .i64 (d : Int)) #[true, true, true, true, true, true, true, true, true, false, false, false, false, false, false, false, false, false, false, false] rfl (by kernel_rfl) (by kernel_rfl) (by kernel_rfl) (fun _ _ _ h => h) (by kernel_rfl) HSM.out (Or.inl ⟨by rfl, fun W0 hW => ?_⟩) ?_
      · go_simp
      conv =>
        arg 8
        simp [Act.put]
      refine wpAnyH_takeL (i := 9) (v := .int .i64 (p : Int)) #[true, true, true, true, true, true, true, true, true, true, false, false, false, false, false, false, false, false, false, false] rfl (by kernel_rfl) (by kernel_rfl) (by kernel_rfl) (fun _ _ _ h => h) (by kernel_rfl) HSM.out (Or.inl ⟨by rfl, fun W0 hW => ?_⟩) ?_
      · go_simp
      conv =>
        arg 8
        simp [Act.put]
      refine wpAnyH_takeL (i := 10) (v := .pointer (some ⟨gb, p, none⟩)) #[true, true, true, true, true, true, true, true, true, true, true, false, false, false, false, false, false, false, false, false] rfl (by kernel_rfl) (by kernel_rfl) (by kernel_rfl) (fun _ _ _ h => h) (by kernel_rfl) HSM.out (Or.inl ⟨by rfl, fun W0 hW => ?_⟩) ?_
      · go_simp
      conv =>
        arg 8
        simp [Act.put]
      refine wpAnyH_takeL (i := 12) (v := .slice (some ⟨gb, 0, none⟩) n n) #[true, true, true, true, true, true, true, true, true, true, true, false, true, false, false, false, false, false, false, false] rfl (by kernel_rfl) (by kernel_rfl) (by kernel_rfl) (fun _ _ _ h => h) (by kernel_rfl) HSM.out (Or.inl ⟨by rfl, fun W0 hW => ?_⟩) ?_
      · go_simp
      conv =>
        arg 8
        simp [Act.put]
      refine wpAnyH_takeL (i := 13) (v := .int .i64 (j : Int)) #[true, true, true, true, true, true, true, true, true, true, true, false, true, true, false, false, false, false, false, false] rfl (by kernel_rfl) (by kernel_rfl) (by kernel_rfl) (fun _ _ _ h => h) (by kernel_rfl) HSM.out (Or.inl ⟨by rfl, fun W0 hW => ?_⟩) ?_
      · have q := HBX.out W0 hW
        go_simp
      conv =>
        arg 8
        simp [Act.put]
      refine wpAnyH_takeL (i := 14) (v := .pointer (some ⟨gb, j, none⟩)) #[true, true, true, true, true, true, true, true, true, true, true, false, true, true, true, false, false, false, false, false] rfl (by kernel_rfl) (by kernel_rfl) (by kernel_rfl) (fun _ _ _ h => h) (by kernel_rfl) HSM.out (Or.inl ⟨by rfl, fun W0 hW => ?_⟩) ?_
      · go_simp
      conv =>
        arg 8
        simp [Act.put]
      refine wpAnyH_two (i := 11) (j := 15) #[true, true, true, true, true, true, true, true, true, true, true, true, true, true, true, false, false, false, false, false] #[true, true, true, true, true, true, true, true, true, true, true, false, true, true, true, true, false, false, false, false] rfl rfl (by kernel_rfl) (by kernel_rfl) (by kernel_rfl) (fun K hK => ?_) (fun K hK => ?_)
      · have q1 := HCJ.out
        have q2 := HCP.out
        go_simp
        refine hK _ _ HSM.out ?_
        conv =>
          arg 8
          simp [Act.put]
        clear hK K
        refine wpAnyH_one #[true, true, true, true, true, true, true, true, true, true, true, true, true, true, true, true, false, false, false, false] (i := 15) rfl (by kernel_rfl) (by kernel_rfl) (fun K hK => ?_)
        go_simp
        refine hK _ _ HSM.out ?_
        conv =>
          arg 8
          simp [Act.put]
        clear hK K q1 q2
        refine wpAnyH_takeL (i := 16) (v := .pointer (some ⟨gb, j, none⟩)) #[true, true, true, true, true, true, true, true, true, true, true, true, true, true, true, true, true, false, false, false] rfl (by kernel_rfl) (by kernel_rfl) (by kernel_rfl) (fun _ _ _ h => h) (by kernel_rfl) HSM.out (Or.inl ⟨by rfl, fun W0 hW => ?_⟩) ?_
        · go_simp
        conv =>
          arg 8
          simp [Act.put]
        refine wpAnyH_one #[true, true, true, true, true, true, true, true, true, true, true, true, true, true, true, true, true, true, false, false] (i := 17) rfl (by kernel_rfl) (by kernel_rfl) (fun K hK => ?_)
        have q1 := HCJ.out
        have q2 := HFJ.out
        go_simp
        refine hK _ _ (HW1.out ▸ HSm.out _ T1.out) ?_
        rw [HW1.out]
        conv =>
          arg 8
          simp [Act.put]
        clear hK K q1 q2
        refine wpAnyH_takeL (i := 18) (v := .pointer (some ⟨gb, p, none⟩)) #[true, true, true, true, true, true, true, true, true, true, true, true, true, true, true, true, true, true, true, false] rfl (by kernel_rfl) (by kernel_rfl) (by kernel_rfl) (fun _ _ _ h => h) (by kernel_rfl) (HSm.out _ T1.out) (Or.inl ⟨by rfl, fun W0 hW => ?_⟩) ?_
        · go_simp
        conv =>
          arg 8
          simp [Act.put]
        refine wpAnyH_one #[true, true, true, true, true, true, true, true, true, true, true, true, true, true, true, true, true, true, true, true] (i := 19) rfl (by kernel_rfl) (by kernel_rfl) (fun K hK => ?_)
        have q1 := HCP1.out
        have q2 := HFP1.out
        go_simp
        refine hK _ _ (HW2.out ▸ HSm.out _ T2.out) ?_
        rw [HW2.out]
        conv =>
          arg 8
          simp [Act.put]
        clear hK K q1 q2
        refine wpAnyH_done (by kernel_rfl) ?_ _
        obtain ⟨hh, hhh⟩ : ∃ hh, hh = (fun i => if i = j then h p else if i = p then h j else h i) := ⟨_, rfl⟩
        have P3 := P2.out.swap HJ.out HP4.out L2.out (fun i hi => by
          have := HPJ.out
          unfold putV
          by_cases e1 : i = j
          · subst e1; rw [if_neg this, if_pos rfl, if_pos rfl]
          · by_cases e2 : i = p
            · subst e2; rw [if_pos rfl, if_neg e1, if_pos rfl]
            · rw [if_neg e2, if_neg e1, if_neg e1, if_neg e2]; exact if_pos hi) T2.out
        rw [← hhh] at P3
        have HB2 := Lib.hid (show ∀ i, i < n → hh i < w.heap.size from fun i hi => by
          rw [hhh]
          show (if i = j then h p else if i = p then h j else h i) < _
          split
          · exact HLT.out p HP4.out
          · split
            · exact HLT.out j HJ.out
            · exact HLT.out i hi)
        obtain ⟨SS, hSS⟩ : ∃ SS, SS = swapR R j p := ⟨_, rfl⟩
        rw [← hSS] at P3 HNZ HE
        have f3 := F2.out.stay T2.out (fun e => by have := HG.out; have := P2.out.lo; omega)
        have S2g := Lib.hid ((S2.out.mono (Y := fun i => i = g ∨ base ≤ i) (fun _ x => x.elim)).trans (T2.out.mono (Y := fun i => i = g ∨ base ≤ i) (fun i e => .inr (by have := P2.out.lo; omega))))
        have hb := HBX.out W2 (HSm.out _ T2.out)
        clear P2 F2 hhh hSS HBX HSm L1 L2 HW1 HW2 HCJ HCP HFJ HCP1 HFP1 HSM S2 T1
        have P2 := Lib.hid P3
        have F2 := Lib.hid f3
        clear P3 f3 T2
        have cj := P2.out.cell HJ.out HJ.out
        have co := (P2.out.row j HJ.out).c HJW.out
        go_wp2_with fail
        refine (inv_any W2 g (SS j j).toNat (u8_ne HNZ.out) (u8_lt _) F2.out).mono ?_
        rintro e w3 ⟨rfl, h3, s3⟩
        rw [show ((invN (SS j j).toNat : Nat) : Int) = ((invB (SS j j)).toNat : Int) by rw [invB_nat]]
        obtain ⟨fac, hfac⟩ : ∃ fac, fac = invB (SS j j) := ⟨_, rfl⟩
        rw [← hfac]
        have HFC := Lib.hid hfac
        have P3 := Lib.hid (P2.out.stayg s3 HG.out)
        have F3 := Lib.hid h3
        have hb3 := s3.cell hb (show ¬ w.heap.size = g by have := HFL.out; omega)
        have B3 := Lib.hid hb3
        have S3 := Lib.hid (S2g.out.trans (s3.mono (Y := fun i => i = g ∨ base ≤ i) (fun _ e => .inl e)))
        clear cj co hb h3 s3 hfac hb3 P2 S2g F2
        go_wp2_with fail
        go_loopw [58] (fun i wr => ∃ t : Nat, t ≤ W ∧ i = .int .i64 (t : Int) ∧ PM wr base gb n W n hh (fun i => if i = j then (fun c => if c < t then mulB fac (SS j c) else SS j c) else SS i) ∧ Fld wr g ∧ wr.cell? ⟨w.heap.size, 0, none⟩ = some (.int .i64 (j : Int)) ∧ Stay (fun i => i = g ∨ base ≤ i) w wr) (fun i _ => W - (intOf i).toNat)
        case atStart =>
          exact ⟨0, by omega, rfl, P3.out.congr (fun i _ c _ => by
            by_cases e : i = j
            · simp only [e, if_true]; exact (if_neg (by omega)).symm
            · simp only [e, if_false]), F3.out, B3.out, S3.out⟩
        case round =>
          obtain ⟨t, ht, rfl, hp, hf, hb, hst⟩ := hrel
          by_cases hlt : t < W
          · have q5 : (t : Int) < (W : Int) := by omega
            have ct := (hp.row j HJ.out).c hlt
            simp only [if_true] at ct
            rw [if_neg (by omega)] at ct
            have PP := Lib.hid hp
            have FF := Lib.hid hf
            have BB := Lib.hid hb
            have ST := Lib.hid hst
            have HT := Lib.hid hlt
            clear hp hf hb hst hlt
            go_wp2_with fail
            refine (mul_any wr g fac.toNat (SS j t).toNat (u8_lt _) (u8_lt _) FF.out).mono ?_
            rintro e w5 ⟨rfl, h5, s5⟩
            rw [cast_mul]
            have F5 := Lib.hid h5
            have S5 := Lib.hid s5
            have P5 := Lib.hid (PP.out.stayg s5 HG.out)
            clear h5 s5 ct
            go_wp2_with (first
              | (with_reducible refine store_b rfl (.tmp 69) (.tmp 68) rfl t (mulB fac (SS j t)) rfl rfl (P5.out.row j HJ.out) HT.out ?_
                 intro w6 h6 s6
                 have H6 := Lib.hid h6
                 have S6 := Lib.hid s6
                 clear h6 s6))
            have nb : ¬ w.heap.size = hh j := by have := HB2.out j HJ.out; omega
            have ng : ¬ g = hh j := by have := P5.out.lr j HJ.out; have := HG.out; omega
            have hlj := P5.out.lr j HJ.out
            have p6 := P5.out.upd HJ.out H6.out (S6.out.mono (Y := fun i => i = g ∨ i = hh j) (fun _ e => .inr e)) HG.out
            have f6 := F5.out.stay S6.out ng
            have b6 := S6.out.cell (S5.out.cell BB.out (show ¬ w.heap.size = g by have := HFL.out; omega)) nb
            have s6 : Stay (fun i => i = g ∨ base ≤ i) w w6 := (ST.out.trans (S5.out.mono (Y := fun i => i = g ∨ base ≤ i) (fun _ e => .inl e))).trans (S6.out.mono (fun i (e : i = hh j) => .inr (e ▸ hlj)))
            have ht := HT.out
            exact ⟨⟨t + 1, by omega, by go_num, p6.congr (fun i _ c _ => by
              by_cases e : i = j
              · simp only [e, if_true]
                unfold putB
                by_cases e2 : c = t
                · subst e2; rw [if_pos rfl, if_pos (by omega)]
                · rw [if_neg e2]
                  by_cases e3 : c < t
                  · exact (if_pos e3).trans (if_pos (by omega)).symm
                  · exact (if_neg e3).trans (if_neg (by omega)).symm
              · simp only [e, if_false]), f6, b6, s6⟩, by simp [intOf]; omega⟩
          · obtain rfl : t = W := by omega
            have P4 := Lib.hid (hp.congr (R' := fun i => if i = j then ownR SS j else if i < 0 then stepR SS j i else SS i) (fun i _ c hc => by
              by_cases e : i = j
              · simp only [e, if_true, hc]; unfold ownR; rw [HFC.out]
              · simp only [e, if_false]; rfl))
            have F4 := Lib.hid hf
            have B4 := Lib.hid hb
            have S4 := Lib.hid hst
            clear hp hf hb hst P3 F3 B3 S3
            go_wp2
            go_loopw [73] (fun i wr => ∃ s : Nat, s ≤ n ∧ i = .int .i64 (s : Int) ∧ PM wr base gb n t n hh (fun i => if i = j then ownR SS j else if i < s then stepR SS j i else SS i) ∧ Fld wr g ∧ wr.cell? ⟨w.heap.size, 0, none⟩ = some (.int .i64 (j : Int)) ∧ Stay (fun i => i = g ∨ base ≤ i) w wr) (fun i _ => n - (intOf i).toNat)
            case atStart => exact ⟨0, by omega, rfl, P4.out, F4.out, B4.out, S4.out⟩
            case round =>
              obtain ⟨s, hs, rfl, hp, hf, hb, hst⟩ := hrel
              by_cases hlt : s < n
              · have q5 : (s : Int) < (n : Int) := by omega
                have cs := hp.cell hlt hlt
                have PP := Lib.hid hp
                have FF := Lib.hid hf
                have BB := Lib.hid hb
                have ST := Lib.hid hst
                have HT := Lib.hid hlt
                clear hp hf hst hlt
                by_cases hsj : s = j
                · have q6 : ((s : Int) != (j : Int)) = false := by rw [hsj]; simp
                  have HSJ := Lib.hid hsj
                  clear hsj
                  go_wp2
                  have ht := HT.out
                  go_round
                  case rel =>
                    exact ⟨s + 1, by omega, by go_num, PP.out.congr (fun i _ c _ => by
                      by_cases e : i = j
                      · simp only [e, if_true]
                      · simp only [e, if_false]
                        by_cases e2 : i < s
                        · rw [if_pos e2, if_pos (by omega)]
                        · rw [if_neg e2, if_neg (by have := HSJ.out; omega)]), FF.out, BB.out, ST.out⟩
                  case measure => simp [intOf]; omega
                · have q6 : ((s : Int) != (j : Int)) = true := by simp; omega
                  have hrow := PP.out.row s HT.out
                  simp only [hsj, if_false] at hrow
                  rw [if_neg (by omega)] at hrow
                  have cj := hrow.c HJW.out
                  have HR := Lib.hid hrow
                  have HSJ := Lib.hid hsj
                  have HOW := Lib.hid (show SSlc (fun i => i = g ∨ i = hh s) wr (.slice (some ⟨hh j, 0, none⟩) t t) (lf t (ownR SS j)) from by
                    have h1 := PP.out.row j HJ.out
                    simp only [if_true] at h1
                    have h2 := h1.slc (o := 0) (c := t) t (by omega) (Nat.le_refl _) (by have := HWW.out; omega)
                    simp only [Nat.zero_add] at h2
                    refine SSlc.of h2 (fun _ i hi e => ?_)
                    have h3 : i = hh j := by simpa [Value.ownBlock] using hi.symm
                    rcases e with e | e
                    · have := PP.out.lr j HJ.out; have := HG.out; omega
                    · exact hsj (PP.out.inj s j HT.out HJ.out (e.symm.trans h3)))
                  clear hrow hsj
                  go_wp2_with fail
                  have hge := PP.out.lr s HT.out
                  refine (add_sum wr g (hh s) t t t t (SS s) (ownR SS j) (SS s j) _ FF.out (by have := HG.out; omega) HR.out HOW.out (Nat.le_refl _) (by have := HWW.out; omega)).mono ?_
                  rintro e w5 ⟨rfl, h5, f5, s5⟩
                  have p5 := PP.out.upd HT.out h5 s5 HG.out
                  have b5 := s5.cell BB.out (fun e => by
                    rcases e with e | e
                    · have e : w.heap.size = g := e; have := HFL.out; omega
                    · have e : w.heap.size = hh s := e; have := HB2.out s HT.out; omega)
                  have P5 := Lib.hid (p5.congr (R' := fun i => if i = j then ownR SS j else if i < s + 1 then stepR SS j i else SS i) (fun i _ c hc => by
                    have := HSJ.out
                    by_cases e : i = s
                    · subst e
                      simp only [this, if_true, if_false]
                      rw [if_pos (by omega)]
                      unfold addTo stepR
                      rw [if_pos hc, if_neg this]
                    · simp only [e, if_false]
                      by_cases e2 : i = j
                      · simp only [e2, if_true]
                      · simp only [e2, if_false]
                        by_cases e3 : i < s
                        · rw [if_pos e3, if_pos (by omega)]
                        · rw [if_neg e3, if_neg (by omega)]))
                  have F5 := Lib.hid f5
                  have B5 := Lib.hid b5
                  have S5 := Lib.hid (ST.out.trans (s5.mono (Y := fun i => i = g ∨ base ≤ i) (fun i e => by
                    rcases e with e | e
                    · exact .inl e
                    · exact .inr (by rw [e]; exact hge))))
                  clear h5 f5 s5 p5 b5 cs cj hge hb
                  go_wp2
                  have ht := HT.out
                  go_round
                  case rel => exact ⟨s + 1, by omega, by go_num, P5.out, F5.out, B5.out, S5.out⟩
                  case measure => simp [intOf]; omega
              · obtain rfl : s = n := by omega
                have PP := Lib.hid hp
                have FF := Lib.hid hf
                have ST := Lib.hid hst
                clear hp hf hb hst
                go_wp2
                go_ret
                rw [HE.out]
                exact ⟨rfl, FF.out, (fun R' h => by
                  cases h
                  exact ⟨_, PP.out.congr (fun i hi c _ => by
                    by_cases e : i = j
                    · simp only [e, if_true]; unfold stepR; rw [if_pos rfl]
                    · simp only [e, if_false, hi, if_true])⟩), ST.out⟩
      · have q1 := HCJ.out
        have q2 := HCP.out
        go_simp
        refine hK _ _ HSM.out ?_
        conv =>
          arg 8
          simp [Act.put]
        clear hK K
        refine wpAnyH_one #[true, true, true, true, true, true, true, true, true, true, true, true, true, true, true, true, false, false, false, false] (i := 11) rfl (by kernel_rfl) (by kernel_rfl) (fun K hK => ?_)
        go_simp
        refine hK _ _ HSM.out ?_
        conv =>
          arg 8
          simp [Act.put]
        clear hK K q1 q2
        refine wpAnyH_takeL (i := 16) (v := .pointer (some ⟨gb, j, none⟩)) #[true, true, true, true, true, true, true, true, true, true, true, true, true, true, true, true, true, false, false, false] rfl (by kernel_rfl) (by kernel_rfl) (by kernel_rfl) (fun _ _ _ h => h) (by kernel_rfl) HSM.out (Or.inl ⟨by rfl, fun W0 hW => ?_⟩) ?_
        · go_simp
        conv =>
          arg 8
          simp [Act.put]
        refine wpAnyH_one #[true, true, true, true, true, true, true, true, true, true, true, true, true, true, true, true, true, true, false, false] (i := 17) rfl (by kernel_rfl) (by kernel_rfl) (fun K hK => ?_)
        have q1 := HCJ.out
        have q2 := HFJ.out
        go_simp
        refine hK _ _ (HW1.out ▸ HSm.out _ T1.out) ?_
        rw [HW1.out]
        conv =>
          arg 8
          simp [Act.put]
        clear hK K q1 q2
        refine wpAnyH_takeL (i := 18) (v := .pointer (some ⟨gb, p, none⟩)) #[true, true, true, true, true, true, true, true, true, true, true, true, true, true, true, true, true, true, true, false] rfl (by kernel_rfl) (by kernel_rfl) (by kernel_rfl) (fun _ _ _ h => h) (by kernel_rfl) (HSm.out _ T1.out) (Or.inl ⟨by rfl, fun W0 hW => ?_⟩) ?_
        · go_simp
        conv =>
          arg 8
          simp [Act.put]
        refine wpAnyH_one #[true, true, true, true, true, true, true, true, true, true, true, true, true, true, true, true, true, true, true, true] (i := 19) rfl (by kernel_rfl) (by kernel_rfl) (fun K hK => ?_)
        have q1 := HCP1.out
        have q2 := HFP1.out
        go_simp
        refine hK _ _ (HW2.out ▸ HSm.out _ T2.out) ?_
        rw [HW2.out]
        conv =>
          arg 8
          simp [Act.put]
        clear hK K q1 q2
        refine wpAnyH_done (by kernel_rfl) ?_ _
        obtain ⟨hh, hhh⟩ : ∃ hh, hh = (fun i => if i = j then h p else if i = p then h j else h i) := ⟨_, rfl⟩
        have P3 := P2.out.swap HJ.out HP4.out L2.out (fun i hi => by
          have := HPJ.out
          unfold putV
          by_cases e1 : i = j
          · subst e1; rw [if_neg this, if_pos rfl, if_pos rfl]
          · by_cases e2 : i = p
            · subst e2; rw [if_pos rfl, if_neg e1, if_pos rfl]
            · rw [if_neg e2, if_neg e1, if_neg e1, if_neg e2]; exact if_pos hi) T2.out
        rw [← hhh] at P3
        have HB2 := Lib.hid (show ∀ i, i < n → hh i < w.heap.size from fun i hi => by
          rw [hhh]
          show (if i = j then h p else if i = p then h j else h i) < _
          split
          · exact HLT.out p HP4.out
          · split
            · exact HLT.out j HJ.out
            · exact HLT.out i hi)
        obtain ⟨SS, hSS⟩ : ∃ SS, SS = swapR R j p := ⟨_, rfl⟩
        rw [← hSS] at P3 HNZ HE
        have f3 := F2.out.stay T2.out (fun e => by have := HG.out; have := P2.out.lo; omega)
        have S2g := Lib.hid ((S2.out.mono (Y := fun i => i = g ∨ base ≤ i) (fun _ x => x.elim)).trans (T2.out.mono (Y := fun i => i = g ∨ base ≤ i) (fun i e => .inr (by have := P2.out.lo; omega))))
        have hb := HBX.out W2 (HSm.out _ T2.out)
        clear P2 F2 hhh hSS HBX HSm L1 L2 HW1 HW2 HCJ HCP HFJ HCP1 HFP1 HSM S2 T1
        have P2 := Lib.hid P3
        have F2 := Lib.hid f3
        clear P3 f3 T2
        have cj := P2.out.cell HJ.out HJ.out
        have co := (P2.out.row j HJ.out).c HJW.out
        go_wp2_with fail
        refine (inv_any W2 g (SS j j).toNat (u8_ne HNZ.out) (u8_lt _) F2.out).mono ?_
        rintro e w3 ⟨rfl, h3, s3⟩
        rw [show ((invN (SS j j).toNat : Nat) : Int) = ((invB (SS j j)).toNat : Int) by rw [invB_nat]]
        obtain ⟨fac, hfac⟩ : ∃ fac, fac = invB (SS j j) := ⟨_, rfl⟩
        rw [← hfac]
        have HFC := Lib.hid hfac
        have P3 := Lib.hid (P2.out.stayg s3 HG.out)
        have F3 := Lib.hid h3
        have hb3 := s3.cell hb (show ¬ w.heap.size = g by have := HFL.out; omega)
        have B3 := Lib.hid hb3
        have S3 := Lib.hid (S2g.out.trans (s3.mono (Y := fun i => i = g ∨ base ≤ i) (fun _ e => .inl e)))
        clear cj co hb h3 s3 hfac hb3 P2 S2g F2
        go_wp2_with fail
        go_loopw [58] (fun i wr => ∃ t : Nat, t ≤ W ∧ i = .int .i64 (t : Int) ∧ PM wr base gb n W n hh (fun i => if i = j then (fun c => if c < t then mulB fac (SS j c) else SS j c) else SS i) ∧ Fld wr g ∧ wr.cell? ⟨w.heap.size, 0, none⟩ = some (.int .i64 (j : Int)) ∧ Stay (fun i => i = g ∨ base ≤ i) w wr) (fun i _ => W - (intOf i).toNat)
        case atStart =>
          exact ⟨0, by omega, rfl, P3.out.congr (fun i _ c _ => by
            by_cases e : i = j
            · simp only [e, if_true]; exact (if_neg (by omega)).symm
            · simp only [e, if_false]), F3.out, B3.out, S3.out⟩
        case round =>
          obtain ⟨t, ht, rfl, hp, hf, hb, hst⟩ := hrel
          by_cases hlt : t < W
          · have q5 : (t : Int) < (W : Int) := by omega
            have ct := (hp.row j HJ.out).c hlt
            simp only [if_true] at ct
            rw [if_neg (by omega)] at ct
            have PP := Lib.hid hp
            have FF := Lib.hid hf
            have BB := Lib.hid hb
            have ST := Lib.hid hst
            have HT := Lib.hid hlt
            clear hp hf hb hst hlt
            go_wp2_with fail
            refine (mul_any wr g fac.toNat (SS j t).toNat (u8_lt _) (u8_lt _) FF.out).mono ?_
            rintro e w5 ⟨rfl, h5, s5⟩
            rw [cast_mul]
            have F5 := Lib.hid h5
            have S5 := Lib.hid s5
            have P5 := Lib.hid (PP.out.stayg s5 HG.out)
            clear h5 s5 ct
            go_wp2_with (first
              | (with_reducible refine store_b rfl (.tmp 69) (.tmp 68) rfl t (mulB fac (SS j t)) rfl rfl (P5.out.row j HJ.out) HT.out ?_
                 intro w6 h6 s6
                 have H6 := Lib.hid h6
                 have S6 := Lib.hid s6
                 clear h6 s6))
            have nb : ¬ w.heap.size = hh j := by have := HB2.out j HJ.out; omega
            have ng : ¬ g = hh j := by have := P5.out.lr j HJ.out; have := HG.out; omega
            have hlj := P5.out.lr j HJ.out
            have p6 := P5.out.upd HJ.out H6.out (S6.out.mono (Y := fun i => i = g ∨ i = hh j) (fun _ e => .inr e)) HG.out
            have f6 := F5.out.stay S6.out ng
            have b6 := S6.out.cell (S5.out.cell BB.out (show ¬ w.heap.size = g by have := HFL.out; omega)) nb
            have s6 : Stay (fun i => i = g ∨ base ≤ i) w w6 := (ST.out.trans (S5.out.mono (Y := fun i => i = g ∨ base ≤ i) (fun _ e => .inl e))).trans (S6.out.mono (fun i (e : i = hh j) => .inr (e ▸ hlj)))
            have ht := HT.out
            exact ⟨⟨t + 1, by omega, by go_num, p6.congr (fun i _ c _ => by
              by_cases e : i = j
              · simp only [e, if_true]
                unfold putB
                by_cases e2 : c = t
                · subst e2; rw [if_pos rfl, if_pos (by omega)]
                · rw [if_neg e2]
                  by_cases e3 : c < t
                  · exact (if_pos e3).trans (if_pos (by omega)).symm
                  · exact (if_neg e3).trans (if_neg (by omega)).symm
              · simp only [e, if_false]), f6, b6, s6⟩, by simp [intOf]; omega⟩
          · obtain rfl : t = W := by omega
            have P4 := Lib.hid (hp.congr (R' := fun i => if i = j then ownR SS j else if i < 0 then stepR SS j i else SS i) (fun i _ c hc => by
              by_cases e : i = j
              · simp only [e, if_true, hc]; unfold ownR; rw [HFC.out]
              · simp only [e, if_false]; rfl))
            have F4 := Lib.hid hf
            have B4 := Lib.hid hb
            have S4 := Lib.hid hst
            clear hp hf hb hst P3 F3 B3 S3
            go_wp2
            go_loopw [73] (fun i wr => ∃ s : Nat, s ≤ n ∧ i = .int .i64 (s : Int) ∧ PM wr base gb n t n hh (fun i => if i = j then ownR SS j else if i < s then stepR SS j i else SS i) ∧ Fld wr g ∧ wr.cell? ⟨w.heap.size, 0, none⟩ = some (.int .i64 (j : Int)) ∧ Stay (fun i => i = g ∨ base ≤ i) w wr) (fun i _ => n - (intOf i).toNat)
            case atStart => exact ⟨0, by omega, rfl, P4.out, F4.out, B4.out, S4.out⟩
            case round =>
              obtain ⟨s, hs, rfl, hp, hf, hb, hst⟩ := hrel
              by_cases hlt : s < n
              · have q5 : (s : Int) < (n : Int) := by omega
                have cs := hp.cell hlt hlt
                have PP := Lib.hid hp
                have FF := Lib.hid hf
                have BB := Lib.hid hb
                have ST := Lib.hid hst
                have HT := Lib.hid hlt
                clear hp hf hst hlt
                by_cases hsj : s = j
                · have q6 : ((s : Int) != (j : Int)) = false := by rw [hsj]; simp
                  have HSJ := Lib.hid hsj
                  clear hsj
                  go_wp2
                  have ht := HT.out
                  go_round
                  case rel =>
                    exact ⟨s + 1, by omega, by go_num, PP.out.congr (fun i _ c _ => by
                      by_cases e : i = j
                      · simp only [e, if_true]
                      · simp only [e, if_false]
                        by_cases e2 : i < s
                        · rw [if_pos e2, if_pos (by omega)]
                        · rw [if_neg e2, if_neg (by have := HSJ.out; omega)]), FF.out, BB.out, ST.out⟩
                  case measure => simp [intOf]; omega
                · have q6 : ((s : Int) != (j : Int)) = true := by simp; omega
                  have hrow := PP.out.row s HT.out
                  simp only [hsj, if_false] at hrow
                  rw [if_neg (by omega)] at hrow
                  have cj := hrow.c HJW.out
                  have HR := Lib.hid hrow
                  have HSJ := Lib.hid hsj
                  have HOW := Lib.hid (show SSlc (fun i => i = g ∨ i = hh s) wr (.slice (some ⟨hh j, 0, none⟩) t t) (lf t (ownR SS j)) from by
                    have h1 := PP.out.row j HJ.out
                    simp only [if_true] at h1
                    have h2 := h1.slc (o := 0) (c := t) t (by omega) (Nat.le_refl _) (by have := HWW.out; omega)
                    simp only [Nat.zero_add] at h2
                    refine SSlc.of h2 (fun _ i hi e => ?_)
                    have h3 : i = hh j := by simpa [Value.ownBlock] using hi.symm
                    rcases e with e | e
                    · have := PP.out.lr j HJ.out; have := HG.out; omega
                    · exact hsj (PP.out.inj s j HT.out HJ.out (e.symm.trans h3)))
                  clear hrow hsj
                  go_wp2_with fail
                  have hge := PP.out.lr s HT.out
                  refine (add_sum wr g (hh s) t t t t (SS s) (ownR SS j) (SS s j) _ FF.out (by have := HG.out; omega) HR.out HOW.out (Nat.le_refl _) (by have := HWW.out; omega)).mono ?_
                  rintro e w5 ⟨rfl, h5, f5, s5⟩
                  have p5 := PP.out.upd HT.out h5 s5 HG.out
                  have b5 := s5.cell BB.out (fun e => by
                    rcases e with e | e
                    · have e : w.heap.size = g := e; have := HFL.out; omega
                    · have e : w.heap.size = hh s := e; have := HB2.out s HT.out; omega)
                  have P5 := Lib.hid (p5.congr (R' := fun i => if i = j then ownR SS j else if i < s + 1 then stepR SS j i else SS i) (fun i _ c hc => by
                    have := HSJ.out
                    by_cases e : i = s
                    · subst e
                      simp only [this, if_true, if_false]
                      rw [if_pos (by omega)]
                      unfold addTo stepR
                      rw [if_pos hc, if_neg this]
                    · simp only [e, if_false]
                      by_cases e2 : i = j
                      · simp only [e2, if_true]
                      · simp only [e2, if_false]
                        by_cases e3 : i < s
                        · rw [if_pos e3, if_pos (by omega)]
                        · rw [if_neg e3, if_neg (by omega)]))
                  have F5 := Lib.hid f5
                  have B5 := Lib.hid b5
                  have S5 := Lib.hid (ST.out.trans (s5.mono (Y := fun i => i = g ∨ base ≤ i) (fun i e => by
                    rcases e with e | e
                    · exact .inl e
                    · exact .inr (by rw [e]; exact hge))))
                  clear h5 f5 s5 p5 b5 cs cj hge hb
                  go_wp2
                  have ht := HT.out
                  go_round
                  case rel => exact ⟨s + 1, by omega, by go_num, P5.out, F5.out, B5.out, S5.out⟩
                  case measure => simp [intOf]; omega
              · obtain rfl : s = n := by omega
                have PP := Lib.hid hp
                have FF := Lib.hid hf
                have ST := Lib.hid hst
                clear hp hf hb hst
                go_wp2
                go_ret
                rw [HE.out]
                exact ⟨rfl, FF.out, (fun R' h => by
                  cases h
                  exact ⟨_, PP.out.congr (fun i hi c _ => by
                    by_cases e : i = j
                    · simp only [e, if_true]; unfold stepR; rw [if_pos rfl]
                    · simp only [e, if_false, hi, if_true])⟩), ST.out⟩
end Go.Proofs.Ytaldpfamgfchoab.Rs
